/-
  DocBack's drawn region (written by tools/gen-dback.py).
-/
import Derived.Test.YtpmldopbjlnknaaDKits
import Derived.Test.YtpmldopbjlnknaaRegT
namespace Go.Proofs.Ytpmldopbjlnknaa
open Go.RowKit Go.Shelf
set_option linter.unusedVariables false
set_option linter.unusedSimpArgs false

abbrev dbk16_o0 : Oper := { dst := some 78, op := Op.move (Operand.tmp 5), type := 26, pos := "outright.go:32", after := #[], guard := none }
abbrev dbk16_o1 : Oper := { dst := some 79, op := Op.move (Operand.tmp 11), type := 3, pos := "outright.go:32", after := #[], guard := none }
abbrev dbk16_o2 : Oper := { dst := some 80, op := Op.indexAddr 26 (Operand.tmp 78) (Operand.tmp 79), type := 0, pos := "outright.go:32", after := #[{ on := 0, ground := Ground.data }, { on := 1, ground := Ground.data }], guard := none }
abbrev dbk16_o3 : Oper := { dst := some 81, op := Op.fieldAddr 44 (Operand.tmp 80) 0, type := 0, pos := "outright.go:32", after := #[{ on := 2, ground := Ground.data }], guard := none }
abbrev dbk16_o4 : Oper := { dst := some 82, op := Op.load 9 (Operand.tmp 81), type := 9, pos := "outright.go:32", after := #[{ on := 3, ground := Ground.data }], guard := none }
abbrev dbk16_o5 : Oper := { dst := some 83, op := Op.move (Operand.tmp 0), type := 22, pos := "outright.go:32", after := #[], guard := none }
abbrev dbk16_o6 : Oper := { dst := some 84, op := Op.move (Operand.tmp 11), type := 3, pos := "outright.go:32", after := #[], guard := none }
abbrev dbk16_o7 : Oper := { dst := some 85, op := Op.indexAddr 22 (Operand.tmp 83) (Operand.tmp 84), type := 0, pos := "outright.go:32", after := #[{ on := 5, ground := Ground.data }, { on := 6, ground := Ground.data }], guard := none }
abbrev dbk16_o8 : Oper := { dst := some 86, op := Op.fieldAddr 46 (Operand.tmp 85) 0, type := 0, pos := "outright.go:32", after := #[{ on := 7, ground := Ground.data }], guard := none }
abbrev dbk16_o9 : Oper := { dst := some 87, op := Op.load 9 (Operand.tmp 86), type := 9, pos := "outright.go:32", after := #[{ on := 8, ground := Ground.data }], guard := none }
abbrev dbk16_o10 : Oper := { dst := some 88, op := Op.binOp BinOp.neq 9 (Operand.tmp 82) (Operand.tmp 87) 9, type := 4, pos := "outright.go:32", after := #[{ on := 4, ground := Ground.data }, { on := 9, ground := Ground.data }], guard := none }
abbrev dbk16_o11 : Oper := { dst := some 89, op := Op.move (Operand.tmp 88), type := 4, pos := "outright.go:32", after := #[{ on := 10, ground := Ground.data }], guard := none }
abbrev dbk16_o12 : Oper := { dst := some 90, op := Op.move (Operand.tmp 5), type := 26, pos := "outright.go:32", after := #[{ on := 11, ground := Ground.guard }], guard := some (11, false) }
abbrev dbk16_o13 : Oper := { dst := some 91, op := Op.move (Operand.tmp 11), type := 3, pos := "outright.go:32", after := #[{ on := 11, ground := Ground.guard }], guard := some (11, false) }
abbrev dbk16_o14 : Oper := { dst := some 92, op := Op.indexAddr 26 (Operand.tmp 90) (Operand.tmp 91), type := 0, pos := "outright.go:32", after := #[{ on := 12, ground := Ground.data }, { on := 13, ground := Ground.data }, { on := 11, ground := Ground.guard }], guard := some (11, false) }
abbrev dbk16_o15 : Oper := { dst := some 93, op := Op.fieldAddr 44 (Operand.tmp 92) 1, type := 0, pos := "outright.go:32", after := #[{ on := 14, ground := Ground.data }, { on := 11, ground := Ground.guard }], guard := some (11, false) }
abbrev dbk16_o16 : Oper := { dst := some 94, op := Op.load 9 (Operand.tmp 93), type := 9, pos := "outright.go:32", after := #[{ on := 15, ground := Ground.data }, { on := 11, ground := Ground.guard }], guard := some (11, false) }
abbrev dbk16_o17 : Oper := { dst := some 95, op := Op.move (Operand.tmp 0), type := 22, pos := "outright.go:32", after := #[{ on := 11, ground := Ground.guard }], guard := some (11, false) }
abbrev dbk16_o18 : Oper := { dst := some 96, op := Op.move (Operand.tmp 11), type := 3, pos := "outright.go:32", after := #[{ on := 11, ground := Ground.guard }], guard := some (11, false) }
abbrev dbk16_o19 : Oper := { dst := some 97, op := Op.indexAddr 22 (Operand.tmp 95) (Operand.tmp 96), type := 0, pos := "outright.go:32", after := #[{ on := 17, ground := Ground.data }, { on := 18, ground := Ground.data }, { on := 11, ground := Ground.guard }], guard := some (11, false) }
abbrev dbk16_o20 : Oper := { dst := some 98, op := Op.fieldAddr 46 (Operand.tmp 97) 0, type := 0, pos := "outright.go:32", after := #[{ on := 19, ground := Ground.data }, { on := 11, ground := Ground.guard }], guard := some (11, false) }
abbrev dbk16_o21 : Oper := { dst := some 99, op := Op.load 9 (Operand.tmp 98), type := 9, pos := "outright.go:32", after := #[{ on := 20, ground := Ground.data }, { on := 11, ground := Ground.guard }], guard := some (11, false) }
abbrev dbk16_o22 : Oper := { dst := some 100, op := Op.call { callee := Callee.value (Operand.func 21), args := #[Operand.tmp 99], argTypes := #[9] }, type := 9, pos := "outright.go:32", after := #[{ on := 21, ground := Ground.data }, { on := 11, ground := Ground.chain }, { on := 11, ground := Ground.guard }], guard := some (11, false) }
abbrev dbk16_o23 : Oper := { dst := some 101, op := Op.binOp BinOp.neq 9 (Operand.tmp 94) (Operand.tmp 100) 9, type := 4, pos := "outright.go:32", after := #[{ on := 16, ground := Ground.data }, { on := 22, ground := Ground.data }, { on := 11, ground := Ground.guard }], guard := some (11, false) }
abbrev dbk16_o24 : Oper := { dst := some 102, op := Op.pick (Operand.tmp 89) (Operand.const (Value.bool true)) (Operand.tmp 101), type := 4, pos := "outright.go:32", after := #[{ on := 11, ground := Ground.data }, { on := 23, ground := Ground.data }], guard := none }
abbrev dbk16_o25 : Oper := { dst := some 103, op := Op.move (Operand.tmp 102), type := 4, pos := "outright.go:32", after := #[{ on := 24, ground := Ground.data }, { on := 22, ground := Ground.chain }], guard := none }
abbrev dbk16_o26 : Oper := { dst := some 104, op := Op.move (Operand.tmp 5), type := 26, pos := "outright.go:32", after := #[{ on := 25, ground := Ground.guard }], guard := some (25, false) }
abbrev dbk16_o27 : Oper := { dst := some 105, op := Op.move (Operand.tmp 11), type := 3, pos := "outright.go:32", after := #[{ on := 25, ground := Ground.guard }], guard := some (25, false) }
abbrev dbk16_o28 : Oper := { dst := some 106, op := Op.indexAddr 26 (Operand.tmp 104) (Operand.tmp 105), type := 0, pos := "outright.go:32", after := #[{ on := 26, ground := Ground.data }, { on := 27, ground := Ground.data }, { on := 25, ground := Ground.guard }], guard := some (25, false) }
abbrev dbk16_o29 : Oper := { dst := some 107, op := Op.fieldAddr 44 (Operand.tmp 106) 3, type := 0, pos := "outright.go:32", after := #[{ on := 28, ground := Ground.data }, { on := 25, ground := Ground.guard }], guard := some (25, false) }
abbrev dbk16_o30 : Oper := { dst := some 108, op := Op.load 3 (Operand.tmp 107), type := 3, pos := "outright.go:32", after := #[{ on := 29, ground := Ground.data }, { on := 25, ground := Ground.guard }], guard := some (25, false) }
abbrev dbk16_o31 : Oper := { dst := some 109, op := Op.move (Operand.tmp 0), type := 22, pos := "outright.go:32", after := #[{ on := 25, ground := Ground.guard }], guard := some (25, false) }
abbrev dbk16_o32 : Oper := { dst := some 110, op := Op.move (Operand.tmp 11), type := 3, pos := "outright.go:32", after := #[{ on := 25, ground := Ground.guard }], guard := some (25, false) }
abbrev dbk16_o33 : Oper := { dst := some 111, op := Op.indexAddr 22 (Operand.tmp 109) (Operand.tmp 110), type := 0, pos := "outright.go:32", after := #[{ on := 31, ground := Ground.data }, { on := 32, ground := Ground.data }, { on := 25, ground := Ground.guard }], guard := some (25, false) }
abbrev dbk16_o34 : Oper := { dst := some 112, op := Op.fieldAddr 46 (Operand.tmp 111) 1, type := 0, pos := "outright.go:32", after := #[{ on := 33, ground := Ground.data }, { on := 25, ground := Ground.guard }], guard := some (25, false) }
abbrev dbk16_o35 : Oper := { dst := some 113, op := Op.load 34 (Operand.tmp 112), type := 34, pos := "outright.go:32", after := #[{ on := 34, ground := Ground.data }, { on := 25, ground := Ground.guard }], guard := some (25, false) }
abbrev dbk16_o36 : Oper := { dst := some 114, op := Op.call { callee := Callee.builtin Builtin.len, args := #[Operand.tmp 113], argTypes := #[34] }, type := 3, pos := "outright.go:32", after := #[{ on := 35, ground := Ground.data }, { on := 25, ground := Ground.guard }], guard := some (25, false) }
abbrev dbk16_o37 : Oper := { dst := some 115, op := Op.binOp BinOp.neq 3 (Operand.tmp 108) (Operand.tmp 114) 3, type := 4, pos := "outright.go:32", after := #[{ on := 30, ground := Ground.data }, { on := 36, ground := Ground.data }, { on := 25, ground := Ground.guard }], guard := some (25, false) }
abbrev dbk16_o38 : Oper := { dst := some 116, op := Op.pick (Operand.tmp 103) (Operand.const (Value.bool true)) (Operand.tmp 115), type := 4, pos := "outright.go:32", after := #[{ on := 25, ground := Ground.data }, { on := 37, ground := Ground.data }], guard := none }
abbrev dbk16_o39 : Oper := { dst := some 117, op := Op.move (Operand.tmp 116), type := 4, pos := "outright.go:32", after := #[{ on := 38, ground := Ground.data }, { on := 25, ground := Ground.chain }], guard := none }
abbrev dbk16_o40 : Oper := { dst := some 118, op := Op.move (Operand.tmp 5), type := 26, pos := "outright.go:32", after := #[{ on := 39, ground := Ground.guard }], guard := some (39, false) }
abbrev dbk16_o41 : Oper := { dst := some 119, op := Op.move (Operand.tmp 11), type := 3, pos := "outright.go:32", after := #[{ on := 39, ground := Ground.guard }], guard := some (39, false) }
abbrev dbk16_o42 : Oper := { dst := some 120, op := Op.indexAddr 26 (Operand.tmp 118) (Operand.tmp 119), type := 0, pos := "outright.go:32", after := #[{ on := 40, ground := Ground.data }, { on := 41, ground := Ground.data }, { on := 39, ground := Ground.guard }], guard := some (39, false) }
abbrev dbk16_o43 : Oper := { dst := some 121, op := Op.fieldAddr 44 (Operand.tmp 120) 2, type := 0, pos := "outright.go:32", after := #[{ on := 42, ground := Ground.data }, { on := 39, ground := Ground.guard }], guard := some (39, false) }
abbrev dbk16_o44 : Oper := { dst := some 122, op := Op.load 42 (Operand.tmp 121), type := 42, pos := "outright.go:32", after := #[{ on := 43, ground := Ground.data }, { on := 39, ground := Ground.guard }], guard := some (39, false) }
abbrev dbk16_o45 : Oper := { dst := some 123, op := Op.move (Operand.tmp 0), type := 22, pos := "outright.go:32", after := #[{ on := 39, ground := Ground.guard }], guard := some (39, false) }
abbrev dbk16_o46 : Oper := { dst := some 124, op := Op.move (Operand.tmp 11), type := 3, pos := "outright.go:32", after := #[{ on := 39, ground := Ground.guard }], guard := some (39, false) }
abbrev dbk16_o47 : Oper := { dst := some 125, op := Op.indexAddr 22 (Operand.tmp 123) (Operand.tmp 124), type := 0, pos := "outright.go:32", after := #[{ on := 45, ground := Ground.data }, { on := 46, ground := Ground.data }, { on := 39, ground := Ground.guard }], guard := some (39, false) }
abbrev dbk16_o48 : Oper := { dst := some 126, op := Op.fieldAddr 46 (Operand.tmp 125) 1, type := 0, pos := "outright.go:32", after := #[{ on := 47, ground := Ground.data }, { on := 39, ground := Ground.guard }], guard := some (39, false) }
abbrev dbk16_o49 : Oper := { dst := some 127, op := Op.load 34 (Operand.tmp 126), type := 34, pos := "outright.go:32", after := #[{ on := 48, ground := Ground.data }, { on := 39, ground := Ground.guard }], guard := some (39, false) }
abbrev dbk16_o50 : Oper := { dst := some 128, op := Op.buildSlice 91 1 #[(0, Operand.tmp 127)], type := 91, pos := "outright.go:32", after := #[{ on := 49, ground := Ground.data }, { on := 39, ground := Ground.guard }], guard := some (39, false) }
abbrev dbk16_o51 : Oper := { dst := some 129, op := Op.call { callee := Callee.value (Operand.func 22), args := #[Operand.tmp 128], argTypes := #[91] }, type := 42, pos := "outright.go:32", after := #[{ on := 50, ground := Ground.data }, { on := 39, ground := Ground.chain }, { on := 39, ground := Ground.guard }], guard := some (39, false) }
abbrev dbk16_o52 : Oper := { dst := some 130, op := Op.binOp BinOp.neq 42 (Operand.tmp 122) (Operand.tmp 129) 42, type := 4, pos := "outright.go:32", after := #[{ on := 44, ground := Ground.data }, { on := 51, ground := Ground.data }, { on := 39, ground := Ground.guard }], guard := some (39, false) }
abbrev dbk16_o53 : Oper := { dst := some 131, op := Op.pick (Operand.tmp 117) (Operand.const (Value.bool true)) (Operand.tmp 130), type := 4, pos := "outright.go:32", after := #[{ on := 39, ground := Ground.data }, { on := 52, ground := Ground.data }], guard := none }
abbrev dbk16_o54 : Oper := { dst := some 132, op := Op.move (Operand.tmp 131), type := 4, pos := "outright.go:32", after := #[{ on := 53, ground := Ground.data }, { on := 51, ground := Ground.chain }], guard := none }
abbrev dbk16_o55 : Oper := { dst := some 133, op := Op.move (Operand.tmp 5), type := 26, pos := "outright.go:32", after := #[{ on := 54, ground := Ground.guard }], guard := some (54, false) }
abbrev dbk16_o56 : Oper := { dst := some 134, op := Op.move (Operand.tmp 0), type := 22, pos := "outright.go:32", after := #[{ on := 54, ground := Ground.guard }], guard := some (54, false) }
abbrev dbk16_o57 : Oper := { dst := some 135, op := Op.move (Operand.tmp 11), type := 3, pos := "outright.go:32", after := #[{ on := 54, ground := Ground.guard }], guard := some (54, false) }
abbrev dbk16_o58 : Oper := { dst := some 136, op := Op.indexAddr 22 (Operand.tmp 134) (Operand.tmp 135), type := 0, pos := "outright.go:32", after := #[{ on := 56, ground := Ground.data }, { on := 57, ground := Ground.data }, { on := 54, ground := Ground.guard }], guard := some (54, false) }
abbrev dbk16_o59 : Oper := { dst := some 137, op := Op.fieldAddr 46 (Operand.tmp 136) 0, type := 0, pos := "outright.go:32", after := #[{ on := 58, ground := Ground.data }, { on := 54, ground := Ground.guard }], guard := some (54, false) }
abbrev dbk16_o60 : Oper := { dst := some 138, op := Op.load 9 (Operand.tmp 137), type := 9, pos := "outright.go:32", after := #[{ on := 59, ground := Ground.data }, { on := 54, ground := Ground.guard }], guard := some (54, false) }
abbrev dbk16_o61 : Oper := { dst := some 139, op := Op.call { callee := Callee.value (Operand.func 23), args := #[Operand.tmp 133, Operand.tmp 138], argTypes := #[26, 9] }, type := 3, pos := "outright.go:32", after := #[{ on := 55, ground := Ground.data }, { on := 60, ground := Ground.data }, { on := 54, ground := Ground.chain }, { on := 54, ground := Ground.guard }], guard := some (54, false) }
abbrev dbk16_o62 : Oper := { dst := some 140, op := Op.move (Operand.tmp 11), type := 3, pos := "outright.go:32", after := #[{ on := 54, ground := Ground.guard }], guard := some (54, false) }
abbrev dbk16_o63 : Oper := { dst := some 141, op := Op.binOp BinOp.neq 3 (Operand.tmp 139) (Operand.tmp 140) 3, type := 4, pos := "outright.go:32", after := #[{ on := 61, ground := Ground.data }, { on := 62, ground := Ground.data }, { on := 54, ground := Ground.guard }], guard := some (54, false) }
abbrev dbk16_o64 : Oper := { dst := some 142, op := Op.pick (Operand.tmp 132) (Operand.const (Value.bool true)) (Operand.tmp 141), type := 4, pos := "outright.go:32", after := #[{ on := 54, ground := Ground.data }, { on := 63, ground := Ground.data }], guard := none }
def dbk16_ops : Array Oper := ([dbk16_o0, dbk16_o1, dbk16_o2, dbk16_o3, dbk16_o4, dbk16_o5, dbk16_o6, dbk16_o7, dbk16_o8, dbk16_o9, dbk16_o10, dbk16_o11, dbk16_o12, dbk16_o13, dbk16_o14, dbk16_o15, dbk16_o16, dbk16_o17, dbk16_o18, dbk16_o19, dbk16_o20, dbk16_o21, dbk16_o22, dbk16_o23, dbk16_o24, dbk16_o25, dbk16_o26, dbk16_o27, dbk16_o28, dbk16_o29, dbk16_o30, dbk16_o31].append [dbk16_o32, dbk16_o33, dbk16_o34, dbk16_o35, dbk16_o36, dbk16_o37, dbk16_o38, dbk16_o39, dbk16_o40, dbk16_o41, dbk16_o42, dbk16_o43, dbk16_o44, dbk16_o45, dbk16_o46, dbk16_o47, dbk16_o48, dbk16_o49, dbk16_o50, dbk16_o51, dbk16_o52, dbk16_o53, dbk16_o54, dbk16_o55, dbk16_o56, dbk16_o57, dbk16_o58, dbk16_o59, dbk16_o60, dbk16_o61, dbk16_o62, dbk16_o63, dbk16_o64]).toArray
abbrev dbk16_mem (s : Nat) : Prop := s ∈ [78, 79, 80, 81, 82, 83, 84, 85, 86, 87, 88, 89, 90, 91, 92, 93, 94, 95, 96, 97, 98, 99, 100, 101, 102, 103, 104, 105, 106, 107, 108, 109, 110, 111, 112, 113, 114, 115, 116, 117, 118, 119, 120, 121, 122, 123, 124, 125, 126, 127, 128, 129, 130, 131, 132, 133, 134, 135, 136, 137, 138, 139, 140, 141, 142]
set_option maxRecDepth 100000 in
theorem dbk16_slots : ∀ j, j < 65 → dbk16_mem (slotOf dbk16_ops j) := by
  intro j hj
  match j, hj with
  | 0, _ => exact (by decide : dbk16_mem 78)
  | 1, _ => exact (by decide : dbk16_mem 79)
  | 2, _ => exact (by decide : dbk16_mem 80)
  | 3, _ => exact (by decide : dbk16_mem 81)
  | 4, _ => exact (by decide : dbk16_mem 82)
  | 5, _ => exact (by decide : dbk16_mem 83)
  | 6, _ => exact (by decide : dbk16_mem 84)
  | 7, _ => exact (by decide : dbk16_mem 85)
  | 8, _ => exact (by decide : dbk16_mem 86)
  | 9, _ => exact (by decide : dbk16_mem 87)
  | 10, _ => exact (by decide : dbk16_mem 88)
  | 11, _ => exact (by decide : dbk16_mem 89)
  | 12, _ => exact (by decide : dbk16_mem 90)
  | 13, _ => exact (by decide : dbk16_mem 91)
  | 14, _ => exact (by decide : dbk16_mem 92)
  | 15, _ => exact (by decide : dbk16_mem 93)
  | 16, _ => exact (by decide : dbk16_mem 94)
  | 17, _ => exact (by decide : dbk16_mem 95)
  | 18, _ => exact (by decide : dbk16_mem 96)
  | 19, _ => exact (by decide : dbk16_mem 97)
  | 20, _ => exact (by decide : dbk16_mem 98)
  | 21, _ => exact (by decide : dbk16_mem 99)
  | 22, _ => exact (by decide : dbk16_mem 100)
  | 23, _ => exact (by decide : dbk16_mem 101)
  | 24, _ => exact (by decide : dbk16_mem 102)
  | 25, _ => exact (by decide : dbk16_mem 103)
  | 26, _ => exact (by decide : dbk16_mem 104)
  | 27, _ => exact (by decide : dbk16_mem 105)
  | 28, _ => exact (by decide : dbk16_mem 106)
  | 29, _ => exact (by decide : dbk16_mem 107)
  | 30, _ => exact (by decide : dbk16_mem 108)
  | 31, _ => exact (by decide : dbk16_mem 109)
  | 32, _ => exact (by decide : dbk16_mem 110)
  | 33, _ => exact (by decide : dbk16_mem 111)
  | 34, _ => exact (by decide : dbk16_mem 112)
  | 35, _ => exact (by decide : dbk16_mem 113)
  | 36, _ => exact (by decide : dbk16_mem 114)
  | 37, _ => exact (by decide : dbk16_mem 115)
  | 38, _ => exact (by decide : dbk16_mem 116)
  | 39, _ => exact (by decide : dbk16_mem 117)
  | 40, _ => exact (by decide : dbk16_mem 118)
  | 41, _ => exact (by decide : dbk16_mem 119)
  | 42, _ => exact (by decide : dbk16_mem 120)
  | 43, _ => exact (by decide : dbk16_mem 121)
  | 44, _ => exact (by decide : dbk16_mem 122)
  | 45, _ => exact (by decide : dbk16_mem 123)
  | 46, _ => exact (by decide : dbk16_mem 124)
  | 47, _ => exact (by decide : dbk16_mem 125)
  | 48, _ => exact (by decide : dbk16_mem 126)
  | 49, _ => exact (by decide : dbk16_mem 127)
  | 50, _ => exact (by decide : dbk16_mem 128)
  | 51, _ => exact (by decide : dbk16_mem 129)
  | 52, _ => exact (by decide : dbk16_mem 130)
  | 53, _ => exact (by decide : dbk16_mem 131)
  | 54, _ => exact (by decide : dbk16_mem 132)
  | 55, _ => exact (by decide : dbk16_mem 133)
  | 56, _ => exact (by decide : dbk16_mem 134)
  | 57, _ => exact (by decide : dbk16_mem 135)
  | 58, _ => exact (by decide : dbk16_mem 136)
  | 59, _ => exact (by decide : dbk16_mem 137)
  | 60, _ => exact (by decide : dbk16_mem 138)
  | 61, _ => exact (by decide : dbk16_mem 139)
  | 62, _ => exact (by decide : dbk16_mem 140)
  | 63, _ => exact (by decide : dbk16_mem 141)
  | 64, _ => exact (by decide : dbk16_mem 142)
  | k + 65, hj => omega
def dbk16_val (gD oD gF oF n cD cF i : Nat) (P : List UInt8) (pB : Option Addr) (B : List Nat) (cB : Nat) (f : Nat → DT) : Nat → Value → World → Prop
  | 0, v, w => v = .slice (some ⟨gD, oD, none⟩) n cD
  | 1, v, w => v = .int .i64 (i : Nat)
  | 2, v, w => v = .pointer (some ⟨gD, oD + i * 4, none⟩)
  | 3, v, w => v = .pointer (some ⟨gD, oD + i * 4, none⟩)
  | 4, v, w => v = by8 P
  | 5, v, w => v = .slice (some ⟨gF, oF, none⟩) n cF
  | 6, v, w => v = .int .i64 (i : Nat)
  | 7, v, w => v = .pointer (some ⟨gF, oF + i * 2, none⟩)
  | 8, v, w => v = .pointer (some ⟨gF, oF + i * 2, none⟩)
  | 9, v, w => v = by8 P
  | 10, v, w => v = .bool false
  | 11, v, w => v = .bool false
  | 12, v, w => v = .slice (some ⟨gD, oD, none⟩) n cD
  | 13, v, w => v = .int .i64 (i : Nat)
  | 14, v, w => v = .pointer (some ⟨gD, oD + i * 4, none⟩)
  | 15, v, w => v = .pointer (some ⟨gD, oD + i * 4 + 1, none⟩)
  | 16, v, w => v = by8 (ofL P)
  | 17, v, w => v = .slice (some ⟨gF, oF, none⟩) n cF
  | 18, v, w => v = .int .i64 (i : Nat)
  | 19, v, w => v = .pointer (some ⟨gF, oF + i * 2, none⟩)
  | 20, v, w => v = .pointer (some ⟨gF, oF + i * 2, none⟩)
  | 21, v, w => v = by8 P
  | 22, v, w => v = by8 (ofL P)
  | 23, v, w => v = .bool false
  | 24, v, w => v = .bool false
  | 25, v, w => v = .bool false
  | 26, v, w => v = .slice (some ⟨gD, oD, none⟩) n cD
  | 27, v, w => v = .int .i64 (i : Nat)
  | 28, v, w => v = .pointer (some ⟨gD, oD + i * 4, none⟩)
  | 29, v, w => v = .pointer (some ⟨gD, oD + i * 4 + 3, none⟩)
  | 30, v, w => v = .int .i64 (B.length : Nat)
  | 31, v, w => v = .slice (some ⟨gF, oF, none⟩) n cF
  | 32, v, w => v = .int .i64 (i : Nat)
  | 33, v, w => v = .pointer (some ⟨gF, oF + i * 2, none⟩)
  | 34, v, w => v = .pointer (some ⟨gF, oF + i * 2 + 1, none⟩)
  | 35, v, w => v = .slice pB (B.length) cB
  | 36, v, w => v = .int .i64 ((B.length) : Nat)
  | 37, v, w => v = .bool false
  | 38, v, w => v = .bool false
  | 39, v, w => v = .bool false
  | 40, v, w => v = .slice (some ⟨gD, oD, none⟩) n cD
  | 41, v, w => v = .int .i64 (i : Nat)
  | 42, v, w => v = .pointer (some ⟨gD, oD + i * 4, none⟩)
  | 43, v, w => v = .pointer (some ⟨gD, oD + i * 4 + 2, none⟩)
  | 44, v, w => v = .int .u32 (crcL B : Nat)
  | 45, v, w => v = .slice (some ⟨gF, oF, none⟩) n cF
  | 46, v, w => v = .int .i64 (i : Nat)
  | 47, v, w => v = .pointer (some ⟨gF, oF + i * 2, none⟩)
  | 48, v, w => v = .pointer (some ⟨gF, oF + i * 2 + 1, none⟩)
  | 49, v, w => v = .slice pB (B.length) cB
  | 50, v, w => ∃ g, v = .slice (some ⟨g, 0, none⟩) 1 1 ∧ w.cell? ⟨g, 0, none⟩ = some (.slice pB (B.length) cB)
  | 51, v, w => v = .int .u32 (crcL B : Nat)
  | 52, v, w => v = .bool false
  | 53, v, w => v = .bool false
  | 54, v, w => v = .bool false
  | 55, v, w => v = .slice (some ⟨gD, oD, none⟩) n cD
  | 56, v, w => v = .slice (some ⟨gF, oF, none⟩) n cF
  | 57, v, w => v = .int .i64 (i : Nat)
  | 58, v, w => v = .pointer (some ⟨gF, oF + i * 2, none⟩)
  | 59, v, w => v = .pointer (some ⟨gF, oF + i * 2, none⟩)
  | 60, v, w => v = by8 P
  | 61, v, w => v = .int .i64 (i : Nat)
  | 62, v, w => v = .int .i64 (i : Nat)
  | 63, v, w => v = .bool false
  | 64, v, w => v = .bool false
  | _, _, _ => True
theorem dbk16_below (gD oD gF oF n cD cF i : Nat) (P : List UInt8) (pB : Option Addr) (B : List Nat) (cB : Nat) (f : Nat → DT) (w w' : World) (hb : Below w.heap.size w w') : ∀ j v, dbk16_val gD oD gF oF n cD cF i P pB B cB f j v w → dbk16_val gD oD gF oF n cD cF i P pB B cB f j v w' := by
  intro j v h
  match j, h with
  | 0, h => exact h
  | 1, h => exact h
  | 2, h => exact h
  | 3, h => exact h
  | 4, h => exact h
  | 5, h => exact h
  | 6, h => exact h
  | 7, h => exact h
  | 8, h => exact h
  | 9, h => exact h
  | 10, h => exact h
  | 11, h => exact h
  | 12, h => exact h
  | 13, h => exact h
  | 14, h => exact h
  | 15, h => exact h
  | 16, h => exact h
  | 17, h => exact h
  | 18, h => exact h
  | 19, h => exact h
  | 20, h => exact h
  | 21, h => exact h
  | 22, h => exact h
  | 23, h => exact h
  | 24, h => exact h
  | 25, h => exact h
  | 26, h => exact h
  | 27, h => exact h
  | 28, h => exact h
  | 29, h => exact h
  | 30, h => exact h
  | 31, h => exact h
  | 32, h => exact h
  | 33, h => exact h
  | 34, h => exact h
  | 35, h => exact h
  | 36, h => exact h
  | 37, h => exact h
  | 38, h => exact h
  | 39, h => exact h
  | 40, h => exact h
  | 41, h => exact h
  | 42, h => exact h
  | 43, h => exact h
  | 44, h => exact h
  | 45, h => exact h
  | 46, h => exact h
  | 47, h => exact h
  | 48, h => exact h
  | 49, h => exact h
  | 50, h => obtain ⟨g, h1, h2⟩ := h; exact ⟨g, h1, cell_thru h2 hb⟩
  | 51, h => exact h
  | 52, h => exact h
  | 53, h => exact h
  | 54, h => exact h
  | 55, h => exact h
  | 56, h => exact h
  | 57, h => exact h
  | 58, h => exact h
  | 59, h => exact h
  | 60, h => exact h
  | 61, h => exact h
  | 62, h => exact h
  | 63, h => exact h
  | 64, h => exact h
  | _ + 65, h => exact h
set_option maxRecDepth 100000 in
set_option maxHeartbeats 2000000 in
theorem dbk16_s0 {Fc : Fence} (hF : Wide Fc) {nC : Nat} (gD oD gF oF n cD cF i : Nat) (P : List UInt8) (pB : Option Addr) (B : List Nat) (cB : Nat) (f : Nat → DT) (Q : Exit → Act → World → Prop) (df : List Deferred) (w0 : World)
    (hi : i < n) (hn : n ≤ 4000) (d0 : w0.cell? ⟨gD, oD + i * 4, none⟩ = some (by8 P)) (d1 : w0.cell? ⟨gD, oD + i * 4 + 1, none⟩ = some (by8 (ofL P))) (d2 : w0.cell? ⟨gD, oD + i * 4 + 2, none⟩ = some (.int .u32 (crcL B : Nat))) (d3 : w0.cell? ⟨gD, oD + i * 4 + 3, none⟩ = some (.int .i64 (B.length : Nat))) (f0 : w0.cell? ⟨gF, oF + i * 2, none⟩ = some (by8 P)) (f1 : w0.cell? ⟨gF, oF + i * 2 + 1, none⟩ = some (.slice pB (B.length) cB)) (hp : P.length ≤ 1000000) (hl : B.length ≤ cB) (hm : cB ≤ 9223372036854775807) (hz : BL w0 pB B) (hrow : RowK w0 (some ⟨gD, oD, none⟩) 4 n (fun k => cellD (f k))) (hfind : findN P 0 (pathsN (fun k => (f k).P) n) = (i : Int))
    (x : Act) (w : World) (hB : Below w0.heap.size w0 w) (hdef : x.defers = df) (u0 : x.tmps.getD 0 undef = .slice (some ⟨gF, oF, none⟩) n cF) (u5 : x.tmps.getD 5 undef = .slice (some ⟨gD, oD, none⟩) n cD) (u11 : x.tmps.getD 11 undef = .int .i64 (i : Nat))
    : wpOpIn Fc nC Try.prog dbk16_ops Q 0 (fun a' w' => ∃ v, a' = x.put (some 78) v ∧ (v = .slice (some ⟨gD, oD, none⟩) n cD) ∧ Below w.heap.size w w') x w := by
  have ho : dbk16_ops[0]? = some dbk16_o0 := rfl
  simp only [Array.getD_eq_getD_getElem?] at u0 u5 u11
  refine wpOpIn_plain ho rfl (oper_inK hF.fn (fun K hK => ?_))
  clear ho
  rw [Oper.semAt_plain Fc _ _ (by intro c h; cases h)]
  simp only [dbk16_o0]
  go_simp
  exact hK _ _ ⟨_, act_putD x hdef _ _, rfl, Below.refl _ _⟩
set_option maxRecDepth 100000 in
set_option maxHeartbeats 2000000 in
theorem dbk16_s1 {Fc : Fence} (hF : Wide Fc) {nC : Nat} (gD oD gF oF n cD cF i : Nat) (P : List UInt8) (pB : Option Addr) (B : List Nat) (cB : Nat) (f : Nat → DT) (Q : Exit → Act → World → Prop) (df : List Deferred) (w0 : World)
    (hi : i < n) (hn : n ≤ 4000) (d0 : w0.cell? ⟨gD, oD + i * 4, none⟩ = some (by8 P)) (d1 : w0.cell? ⟨gD, oD + i * 4 + 1, none⟩ = some (by8 (ofL P))) (d2 : w0.cell? ⟨gD, oD + i * 4 + 2, none⟩ = some (.int .u32 (crcL B : Nat))) (d3 : w0.cell? ⟨gD, oD + i * 4 + 3, none⟩ = some (.int .i64 (B.length : Nat))) (f0 : w0.cell? ⟨gF, oF + i * 2, none⟩ = some (by8 P)) (f1 : w0.cell? ⟨gF, oF + i * 2 + 1, none⟩ = some (.slice pB (B.length) cB)) (hp : P.length ≤ 1000000) (hl : B.length ≤ cB) (hm : cB ≤ 9223372036854775807) (hz : BL w0 pB B) (hrow : RowK w0 (some ⟨gD, oD, none⟩) 4 n (fun k => cellD (f k))) (hfind : findN P 0 (pathsN (fun k => (f k).P) n) = (i : Int))
    (x : Act) (w : World) (hB : Below w0.heap.size w0 w) (hdef : x.defers = df) (u0 : x.tmps.getD 0 undef = .slice (some ⟨gF, oF, none⟩) n cF) (u5 : x.tmps.getD 5 undef = .slice (some ⟨gD, oD, none⟩) n cD) (u11 : x.tmps.getD 11 undef = .int .i64 (i : Nat))
    : wpOpIn Fc nC Try.prog dbk16_ops Q 1 (fun a' w' => ∃ v, a' = x.put (some 79) v ∧ (v = .int .i64 (i : Nat)) ∧ Below w.heap.size w w') x w := by
  have ho : dbk16_ops[1]? = some dbk16_o1 := rfl
  simp only [Array.getD_eq_getD_getElem?] at u0 u5 u11
  refine wpOpIn_plain ho rfl (oper_inK hF.fn (fun K hK => ?_))
  clear ho
  rw [Oper.semAt_plain Fc _ _ (by intro c h; cases h)]
  simp only [dbk16_o1]
  go_simp
  exact hK _ _ ⟨_, act_putD x hdef _ _, rfl, Below.refl _ _⟩
set_option maxRecDepth 100000 in
set_option maxHeartbeats 2000000 in
theorem dbk16_s2 {Fc : Fence} (hF : Wide Fc) {nC : Nat} (gD oD gF oF n cD cF i : Nat) (P : List UInt8) (pB : Option Addr) (B : List Nat) (cB : Nat) (f : Nat → DT) (Q : Exit → Act → World → Prop) (df : List Deferred) (w0 : World)
    (hi : i < n) (hn : n ≤ 4000) (d0 : w0.cell? ⟨gD, oD + i * 4, none⟩ = some (by8 P)) (d1 : w0.cell? ⟨gD, oD + i * 4 + 1, none⟩ = some (by8 (ofL P))) (d2 : w0.cell? ⟨gD, oD + i * 4 + 2, none⟩ = some (.int .u32 (crcL B : Nat))) (d3 : w0.cell? ⟨gD, oD + i * 4 + 3, none⟩ = some (.int .i64 (B.length : Nat))) (f0 : w0.cell? ⟨gF, oF + i * 2, none⟩ = some (by8 P)) (f1 : w0.cell? ⟨gF, oF + i * 2 + 1, none⟩ = some (.slice pB (B.length) cB)) (hp : P.length ≤ 1000000) (hl : B.length ≤ cB) (hm : cB ≤ 9223372036854775807) (hz : BL w0 pB B) (hrow : RowK w0 (some ⟨gD, oD, none⟩) 4 n (fun k => cellD (f k))) (hfind : findN P 0 (pathsN (fun k => (f k).P) n) = (i : Int))
    (x : Act) (w : World) (hB : Below w0.heap.size w0 w) (hdef : x.defers = df) (u0 : x.tmps.getD 0 undef = .slice (some ⟨gF, oF, none⟩) n cF) (u5 : x.tmps.getD 5 undef = .slice (some ⟨gD, oD, none⟩) n cD) (u11 : x.tmps.getD 11 undef = .int .i64 (i : Nat))
    (p0 : dbk16_val gD oD gF oF n cD cF i P pB B cB f 0 (x.tmps.getD 78 undef) w)
    (p1 : dbk16_val gD oD gF oF n cD cF i P pB B cB f 1 (x.tmps.getD 79 undef) w)
    : wpOpIn Fc nC Try.prog dbk16_ops Q 2 (fun a' w' => ∃ v, a' = x.put (some 80) v ∧ (v = .pointer (some ⟨gD, oD + i * 4, none⟩)) ∧ Below w.heap.size w w') x w := by
  have ho : dbk16_ops[2]? = some dbk16_o2 := rfl
  simp only [Array.getD_eq_getD_getElem?] at u0 u5 u11
  have q0 : x.tmps.getD 78 undef = .slice (some ⟨gD, oD, none⟩) n cD := p0
  have q1 : x.tmps.getD 79 undef = .int .i64 (i : Nat) := p1
  simp only [Array.getD_eq_getD_getElem?] at q0 q1
  have i0 : (0 : Int) ≤ (i : Int) := by omega
  have i1 : (i : Int) < (n : Int) := by omega
  refine wpOpIn_plain ho rfl (oper_inK hF.fn (fun K hK => ?_))
  clear ho
  rw [Oper.semAt_plain Fc _ _ (by intro c h; cases h)]
  simp only [dbk16_o2]
  go_simp
  exact hK _ _ ⟨_, act_putD x hdef _ _, rfl, Below.refl _ _⟩
set_option maxRecDepth 100000 in
set_option maxHeartbeats 2000000 in
theorem dbk16_s3 {Fc : Fence} (hF : Wide Fc) {nC : Nat} (gD oD gF oF n cD cF i : Nat) (P : List UInt8) (pB : Option Addr) (B : List Nat) (cB : Nat) (f : Nat → DT) (Q : Exit → Act → World → Prop) (df : List Deferred) (w0 : World)
    (hi : i < n) (hn : n ≤ 4000) (d0 : w0.cell? ⟨gD, oD + i * 4, none⟩ = some (by8 P)) (d1 : w0.cell? ⟨gD, oD + i * 4 + 1, none⟩ = some (by8 (ofL P))) (d2 : w0.cell? ⟨gD, oD + i * 4 + 2, none⟩ = some (.int .u32 (crcL B : Nat))) (d3 : w0.cell? ⟨gD, oD + i * 4 + 3, none⟩ = some (.int .i64 (B.length : Nat))) (f0 : w0.cell? ⟨gF, oF + i * 2, none⟩ = some (by8 P)) (f1 : w0.cell? ⟨gF, oF + i * 2 + 1, none⟩ = some (.slice pB (B.length) cB)) (hp : P.length ≤ 1000000) (hl : B.length ≤ cB) (hm : cB ≤ 9223372036854775807) (hz : BL w0 pB B) (hrow : RowK w0 (some ⟨gD, oD, none⟩) 4 n (fun k => cellD (f k))) (hfind : findN P 0 (pathsN (fun k => (f k).P) n) = (i : Int))
    (x : Act) (w : World) (hB : Below w0.heap.size w0 w) (hdef : x.defers = df) (u0 : x.tmps.getD 0 undef = .slice (some ⟨gF, oF, none⟩) n cF) (u5 : x.tmps.getD 5 undef = .slice (some ⟨gD, oD, none⟩) n cD) (u11 : x.tmps.getD 11 undef = .int .i64 (i : Nat))
    (p2 : dbk16_val gD oD gF oF n cD cF i P pB B cB f 2 (x.tmps.getD 80 undef) w)
    : wpOpIn Fc nC Try.prog dbk16_ops Q 3 (fun a' w' => ∃ v, a' = x.put (some 81) v ∧ (v = .pointer (some ⟨gD, oD + i * 4, none⟩)) ∧ Below w.heap.size w w') x w := by
  have ho : dbk16_ops[3]? = some dbk16_o3 := rfl
  simp only [Array.getD_eq_getD_getElem?] at u0 u5 u11
  have q2 : x.tmps.getD 80 undef = .pointer (some ⟨gD, oD + i * 4, none⟩) := p2
  simp only [Array.getD_eq_getD_getElem?] at q2
  refine wpOpIn_plain ho rfl (oper_inK hF.fn (fun K hK => ?_))
  clear ho
  rw [Oper.semAt_plain Fc _ _ (by intro c h; cases h)]
  simp only [dbk16_o3]
  go_simp
  exact hK _ _ ⟨_, act_putD x hdef _ _, rfl, Below.refl _ _⟩
set_option maxRecDepth 100000 in
set_option maxHeartbeats 2000000 in
theorem dbk16_s4 {Fc : Fence} (hF : Wide Fc) {nC : Nat} (gD oD gF oF n cD cF i : Nat) (P : List UInt8) (pB : Option Addr) (B : List Nat) (cB : Nat) (f : Nat → DT) (Q : Exit → Act → World → Prop) (df : List Deferred) (w0 : World)
    (hi : i < n) (hn : n ≤ 4000) (d0 : w0.cell? ⟨gD, oD + i * 4, none⟩ = some (by8 P)) (d1 : w0.cell? ⟨gD, oD + i * 4 + 1, none⟩ = some (by8 (ofL P))) (d2 : w0.cell? ⟨gD, oD + i * 4 + 2, none⟩ = some (.int .u32 (crcL B : Nat))) (d3 : w0.cell? ⟨gD, oD + i * 4 + 3, none⟩ = some (.int .i64 (B.length : Nat))) (f0 : w0.cell? ⟨gF, oF + i * 2, none⟩ = some (by8 P)) (f1 : w0.cell? ⟨gF, oF + i * 2 + 1, none⟩ = some (.slice pB (B.length) cB)) (hp : P.length ≤ 1000000) (hl : B.length ≤ cB) (hm : cB ≤ 9223372036854775807) (hz : BL w0 pB B) (hrow : RowK w0 (some ⟨gD, oD, none⟩) 4 n (fun k => cellD (f k))) (hfind : findN P 0 (pathsN (fun k => (f k).P) n) = (i : Int))
    (x : Act) (w : World) (hB : Below w0.heap.size w0 w) (hdef : x.defers = df) (u0 : x.tmps.getD 0 undef = .slice (some ⟨gF, oF, none⟩) n cF) (u5 : x.tmps.getD 5 undef = .slice (some ⟨gD, oD, none⟩) n cD) (u11 : x.tmps.getD 11 undef = .int .i64 (i : Nat))
    (p3 : dbk16_val gD oD gF oF n cD cF i P pB B cB f 3 (x.tmps.getD 81 undef) w)
    : wpOpIn Fc nC Try.prog dbk16_ops Q 4 (fun a' w' => ∃ v, a' = x.put (some 82) v ∧ (v = by8 P) ∧ Below w.heap.size w w') x w := by
  have ho : dbk16_ops[4]? = some dbk16_o4 := rfl
  simp only [Array.getD_eq_getD_getElem?] at u0 u5 u11
  have q3 : x.tmps.getD 81 undef = .pointer (some ⟨gD, oD + i * 4, none⟩) := p3
  simp only [Array.getD_eq_getD_getElem?] at q3
  have m := cell_thru d0 hB
  refine wpOpIn_plain ho rfl (oper_inK hF.fn (fun K hK => ?_))
  clear ho
  rw [Oper.semAt_plain Fc _ _ (by intro c h; cases h)]
  simp only [dbk16_o4]
  go_simp
  exact hK _ _ ⟨_, act_putD x hdef _ _, rfl, Below.refl _ _⟩
set_option maxRecDepth 100000 in
set_option maxHeartbeats 2000000 in
theorem dbk16_s5 {Fc : Fence} (hF : Wide Fc) {nC : Nat} (gD oD gF oF n cD cF i : Nat) (P : List UInt8) (pB : Option Addr) (B : List Nat) (cB : Nat) (f : Nat → DT) (Q : Exit → Act → World → Prop) (df : List Deferred) (w0 : World)
    (hi : i < n) (hn : n ≤ 4000) (d0 : w0.cell? ⟨gD, oD + i * 4, none⟩ = some (by8 P)) (d1 : w0.cell? ⟨gD, oD + i * 4 + 1, none⟩ = some (by8 (ofL P))) (d2 : w0.cell? ⟨gD, oD + i * 4 + 2, none⟩ = some (.int .u32 (crcL B : Nat))) (d3 : w0.cell? ⟨gD, oD + i * 4 + 3, none⟩ = some (.int .i64 (B.length : Nat))) (f0 : w0.cell? ⟨gF, oF + i * 2, none⟩ = some (by8 P)) (f1 : w0.cell? ⟨gF, oF + i * 2 + 1, none⟩ = some (.slice pB (B.length) cB)) (hp : P.length ≤ 1000000) (hl : B.length ≤ cB) (hm : cB ≤ 9223372036854775807) (hz : BL w0 pB B) (hrow : RowK w0 (some ⟨gD, oD, none⟩) 4 n (fun k => cellD (f k))) (hfind : findN P 0 (pathsN (fun k => (f k).P) n) = (i : Int))
    (x : Act) (w : World) (hB : Below w0.heap.size w0 w) (hdef : x.defers = df) (u0 : x.tmps.getD 0 undef = .slice (some ⟨gF, oF, none⟩) n cF) (u5 : x.tmps.getD 5 undef = .slice (some ⟨gD, oD, none⟩) n cD) (u11 : x.tmps.getD 11 undef = .int .i64 (i : Nat))
    : wpOpIn Fc nC Try.prog dbk16_ops Q 5 (fun a' w' => ∃ v, a' = x.put (some 83) v ∧ (v = .slice (some ⟨gF, oF, none⟩) n cF) ∧ Below w.heap.size w w') x w := by
  have ho : dbk16_ops[5]? = some dbk16_o5 := rfl
  simp only [Array.getD_eq_getD_getElem?] at u0 u5 u11
  refine wpOpIn_plain ho rfl (oper_inK hF.fn (fun K hK => ?_))
  clear ho
  rw [Oper.semAt_plain Fc _ _ (by intro c h; cases h)]
  simp only [dbk16_o5]
  go_simp
  exact hK _ _ ⟨_, act_putD x hdef _ _, rfl, Below.refl _ _⟩
set_option maxRecDepth 100000 in
set_option maxHeartbeats 2000000 in
theorem dbk16_s6 {Fc : Fence} (hF : Wide Fc) {nC : Nat} (gD oD gF oF n cD cF i : Nat) (P : List UInt8) (pB : Option Addr) (B : List Nat) (cB : Nat) (f : Nat → DT) (Q : Exit → Act → World → Prop) (df : List Deferred) (w0 : World)
    (hi : i < n) (hn : n ≤ 4000) (d0 : w0.cell? ⟨gD, oD + i * 4, none⟩ = some (by8 P)) (d1 : w0.cell? ⟨gD, oD + i * 4 + 1, none⟩ = some (by8 (ofL P))) (d2 : w0.cell? ⟨gD, oD + i * 4 + 2, none⟩ = some (.int .u32 (crcL B : Nat))) (d3 : w0.cell? ⟨gD, oD + i * 4 + 3, none⟩ = some (.int .i64 (B.length : Nat))) (f0 : w0.cell? ⟨gF, oF + i * 2, none⟩ = some (by8 P)) (f1 : w0.cell? ⟨gF, oF + i * 2 + 1, none⟩ = some (.slice pB (B.length) cB)) (hp : P.length ≤ 1000000) (hl : B.length ≤ cB) (hm : cB ≤ 9223372036854775807) (hz : BL w0 pB B) (hrow : RowK w0 (some ⟨gD, oD, none⟩) 4 n (fun k => cellD (f k))) (hfind : findN P 0 (pathsN (fun k => (f k).P) n) = (i : Int))
    (x : Act) (w : World) (hB : Below w0.heap.size w0 w) (hdef : x.defers = df) (u0 : x.tmps.getD 0 undef = .slice (some ⟨gF, oF, none⟩) n cF) (u5 : x.tmps.getD 5 undef = .slice (some ⟨gD, oD, none⟩) n cD) (u11 : x.tmps.getD 11 undef = .int .i64 (i : Nat))
    : wpOpIn Fc nC Try.prog dbk16_ops Q 6 (fun a' w' => ∃ v, a' = x.put (some 84) v ∧ (v = .int .i64 (i : Nat)) ∧ Below w.heap.size w w') x w := by
  have ho : dbk16_ops[6]? = some dbk16_o6 := rfl
  simp only [Array.getD_eq_getD_getElem?] at u0 u5 u11
  refine wpOpIn_plain ho rfl (oper_inK hF.fn (fun K hK => ?_))
  clear ho
  rw [Oper.semAt_plain Fc _ _ (by intro c h; cases h)]
  simp only [dbk16_o6]
  go_simp
  exact hK _ _ ⟨_, act_putD x hdef _ _, rfl, Below.refl _ _⟩
set_option maxRecDepth 100000 in
set_option maxHeartbeats 2000000 in
theorem dbk16_s7 {Fc : Fence} (hF : Wide Fc) {nC : Nat} (gD oD gF oF n cD cF i : Nat) (P : List UInt8) (pB : Option Addr) (B : List Nat) (cB : Nat) (f : Nat → DT) (Q : Exit → Act → World → Prop) (df : List Deferred) (w0 : World)
    (hi : i < n) (hn : n ≤ 4000) (d0 : w0.cell? ⟨gD, oD + i * 4, none⟩ = some (by8 P)) (d1 : w0.cell? ⟨gD, oD + i * 4 + 1, none⟩ = some (by8 (ofL P))) (d2 : w0.cell? ⟨gD, oD + i * 4 + 2, none⟩ = some (.int .u32 (crcL B : Nat))) (d3 : w0.cell? ⟨gD, oD + i * 4 + 3, none⟩ = some (.int .i64 (B.length : Nat))) (f0 : w0.cell? ⟨gF, oF + i * 2, none⟩ = some (by8 P)) (f1 : w0.cell? ⟨gF, oF + i * 2 + 1, none⟩ = some (.slice pB (B.length) cB)) (hp : P.length ≤ 1000000) (hl : B.length ≤ cB) (hm : cB ≤ 9223372036854775807) (hz : BL w0 pB B) (hrow : RowK w0 (some ⟨gD, oD, none⟩) 4 n (fun k => cellD (f k))) (hfind : findN P 0 (pathsN (fun k => (f k).P) n) = (i : Int))
    (x : Act) (w : World) (hB : Below w0.heap.size w0 w) (hdef : x.defers = df) (u0 : x.tmps.getD 0 undef = .slice (some ⟨gF, oF, none⟩) n cF) (u5 : x.tmps.getD 5 undef = .slice (some ⟨gD, oD, none⟩) n cD) (u11 : x.tmps.getD 11 undef = .int .i64 (i : Nat))
    (p5 : dbk16_val gD oD gF oF n cD cF i P pB B cB f 5 (x.tmps.getD 83 undef) w)
    (p6 : dbk16_val gD oD gF oF n cD cF i P pB B cB f 6 (x.tmps.getD 84 undef) w)
    : wpOpIn Fc nC Try.prog dbk16_ops Q 7 (fun a' w' => ∃ v, a' = x.put (some 85) v ∧ (v = .pointer (some ⟨gF, oF + i * 2, none⟩)) ∧ Below w.heap.size w w') x w := by
  have ho : dbk16_ops[7]? = some dbk16_o7 := rfl
  simp only [Array.getD_eq_getD_getElem?] at u0 u5 u11
  have q5 : x.tmps.getD 83 undef = .slice (some ⟨gF, oF, none⟩) n cF := p5
  have q6 : x.tmps.getD 84 undef = .int .i64 (i : Nat) := p6
  simp only [Array.getD_eq_getD_getElem?] at q5 q6
  have i0 : (0 : Int) ≤ (i : Int) := by omega
  have i1 : (i : Int) < (n : Int) := by omega
  refine wpOpIn_plain ho rfl (oper_inK hF.fn (fun K hK => ?_))
  clear ho
  rw [Oper.semAt_plain Fc _ _ (by intro c h; cases h)]
  simp only [dbk16_o7]
  go_simp
  exact hK _ _ ⟨_, act_putD x hdef _ _, rfl, Below.refl _ _⟩
set_option maxRecDepth 100000 in
set_option maxHeartbeats 2000000 in
theorem dbk16_s8 {Fc : Fence} (hF : Wide Fc) {nC : Nat} (gD oD gF oF n cD cF i : Nat) (P : List UInt8) (pB : Option Addr) (B : List Nat) (cB : Nat) (f : Nat → DT) (Q : Exit → Act → World → Prop) (df : List Deferred) (w0 : World)
    (hi : i < n) (hn : n ≤ 4000) (d0 : w0.cell? ⟨gD, oD + i * 4, none⟩ = some (by8 P)) (d1 : w0.cell? ⟨gD, oD + i * 4 + 1, none⟩ = some (by8 (ofL P))) (d2 : w0.cell? ⟨gD, oD + i * 4 + 2, none⟩ = some (.int .u32 (crcL B : Nat))) (d3 : w0.cell? ⟨gD, oD + i * 4 + 3, none⟩ = some (.int .i64 (B.length : Nat))) (f0 : w0.cell? ⟨gF, oF + i * 2, none⟩ = some (by8 P)) (f1 : w0.cell? ⟨gF, oF + i * 2 + 1, none⟩ = some (.slice pB (B.length) cB)) (hp : P.length ≤ 1000000) (hl : B.length ≤ cB) (hm : cB ≤ 9223372036854775807) (hz : BL w0 pB B) (hrow : RowK w0 (some ⟨gD, oD, none⟩) 4 n (fun k => cellD (f k))) (hfind : findN P 0 (pathsN (fun k => (f k).P) n) = (i : Int))
    (x : Act) (w : World) (hB : Below w0.heap.size w0 w) (hdef : x.defers = df) (u0 : x.tmps.getD 0 undef = .slice (some ⟨gF, oF, none⟩) n cF) (u5 : x.tmps.getD 5 undef = .slice (some ⟨gD, oD, none⟩) n cD) (u11 : x.tmps.getD 11 undef = .int .i64 (i : Nat))
    (p7 : dbk16_val gD oD gF oF n cD cF i P pB B cB f 7 (x.tmps.getD 85 undef) w)
    : wpOpIn Fc nC Try.prog dbk16_ops Q 8 (fun a' w' => ∃ v, a' = x.put (some 86) v ∧ (v = .pointer (some ⟨gF, oF + i * 2, none⟩)) ∧ Below w.heap.size w w') x w := by
  have ho : dbk16_ops[8]? = some dbk16_o8 := rfl
  simp only [Array.getD_eq_getD_getElem?] at u0 u5 u11
  have q7 : x.tmps.getD 85 undef = .pointer (some ⟨gF, oF + i * 2, none⟩) := p7
  simp only [Array.getD_eq_getD_getElem?] at q7
  refine wpOpIn_plain ho rfl (oper_inK hF.fn (fun K hK => ?_))
  clear ho
  rw [Oper.semAt_plain Fc _ _ (by intro c h; cases h)]
  simp only [dbk16_o8]
  go_simp
  exact hK _ _ ⟨_, act_putD x hdef _ _, rfl, Below.refl _ _⟩
set_option maxRecDepth 100000 in
set_option maxHeartbeats 2000000 in
theorem dbk16_s9 {Fc : Fence} (hF : Wide Fc) {nC : Nat} (gD oD gF oF n cD cF i : Nat) (P : List UInt8) (pB : Option Addr) (B : List Nat) (cB : Nat) (f : Nat → DT) (Q : Exit → Act → World → Prop) (df : List Deferred) (w0 : World)
    (hi : i < n) (hn : n ≤ 4000) (d0 : w0.cell? ⟨gD, oD + i * 4, none⟩ = some (by8 P)) (d1 : w0.cell? ⟨gD, oD + i * 4 + 1, none⟩ = some (by8 (ofL P))) (d2 : w0.cell? ⟨gD, oD + i * 4 + 2, none⟩ = some (.int .u32 (crcL B : Nat))) (d3 : w0.cell? ⟨gD, oD + i * 4 + 3, none⟩ = some (.int .i64 (B.length : Nat))) (f0 : w0.cell? ⟨gF, oF + i * 2, none⟩ = some (by8 P)) (f1 : w0.cell? ⟨gF, oF + i * 2 + 1, none⟩ = some (.slice pB (B.length) cB)) (hp : P.length ≤ 1000000) (hl : B.length ≤ cB) (hm : cB ≤ 9223372036854775807) (hz : BL w0 pB B) (hrow : RowK w0 (some ⟨gD, oD, none⟩) 4 n (fun k => cellD (f k))) (hfind : findN P 0 (pathsN (fun k => (f k).P) n) = (i : Int))
    (x : Act) (w : World) (hB : Below w0.heap.size w0 w) (hdef : x.defers = df) (u0 : x.tmps.getD 0 undef = .slice (some ⟨gF, oF, none⟩) n cF) (u5 : x.tmps.getD 5 undef = .slice (some ⟨gD, oD, none⟩) n cD) (u11 : x.tmps.getD 11 undef = .int .i64 (i : Nat))
    (p8 : dbk16_val gD oD gF oF n cD cF i P pB B cB f 8 (x.tmps.getD 86 undef) w)
    : wpOpIn Fc nC Try.prog dbk16_ops Q 9 (fun a' w' => ∃ v, a' = x.put (some 87) v ∧ (v = by8 P) ∧ Below w.heap.size w w') x w := by
  have ho : dbk16_ops[9]? = some dbk16_o9 := rfl
  simp only [Array.getD_eq_getD_getElem?] at u0 u5 u11
  have q8 : x.tmps.getD 86 undef = .pointer (some ⟨gF, oF + i * 2, none⟩) := p8
  simp only [Array.getD_eq_getD_getElem?] at q8
  have m := cell_thru f0 hB
  refine wpOpIn_plain ho rfl (oper_inK hF.fn (fun K hK => ?_))
  clear ho
  rw [Oper.semAt_plain Fc _ _ (by intro c h; cases h)]
  simp only [dbk16_o9]
  go_simp
  exact hK _ _ ⟨_, act_putD x hdef _ _, rfl, Below.refl _ _⟩
set_option maxRecDepth 100000 in
set_option maxHeartbeats 2000000 in
theorem dbk16_s10 {Fc : Fence} (hF : Wide Fc) {nC : Nat} (gD oD gF oF n cD cF i : Nat) (P : List UInt8) (pB : Option Addr) (B : List Nat) (cB : Nat) (f : Nat → DT) (Q : Exit → Act → World → Prop) (df : List Deferred) (w0 : World)
    (hi : i < n) (hn : n ≤ 4000) (d0 : w0.cell? ⟨gD, oD + i * 4, none⟩ = some (by8 P)) (d1 : w0.cell? ⟨gD, oD + i * 4 + 1, none⟩ = some (by8 (ofL P))) (d2 : w0.cell? ⟨gD, oD + i * 4 + 2, none⟩ = some (.int .u32 (crcL B : Nat))) (d3 : w0.cell? ⟨gD, oD + i * 4 + 3, none⟩ = some (.int .i64 (B.length : Nat))) (f0 : w0.cell? ⟨gF, oF + i * 2, none⟩ = some (by8 P)) (f1 : w0.cell? ⟨gF, oF + i * 2 + 1, none⟩ = some (.slice pB (B.length) cB)) (hp : P.length ≤ 1000000) (hl : B.length ≤ cB) (hm : cB ≤ 9223372036854775807) (hz : BL w0 pB B) (hrow : RowK w0 (some ⟨gD, oD, none⟩) 4 n (fun k => cellD (f k))) (hfind : findN P 0 (pathsN (fun k => (f k).P) n) = (i : Int))
    (x : Act) (w : World) (hB : Below w0.heap.size w0 w) (hdef : x.defers = df) (u0 : x.tmps.getD 0 undef = .slice (some ⟨gF, oF, none⟩) n cF) (u5 : x.tmps.getD 5 undef = .slice (some ⟨gD, oD, none⟩) n cD) (u11 : x.tmps.getD 11 undef = .int .i64 (i : Nat))
    (p4 : dbk16_val gD oD gF oF n cD cF i P pB B cB f 4 (x.tmps.getD 82 undef) w)
    (p9 : dbk16_val gD oD gF oF n cD cF i P pB B cB f 9 (x.tmps.getD 87 undef) w)
    : wpOpIn Fc nC Try.prog dbk16_ops Q 10 (fun a' w' => ∃ v, a' = x.put (some 88) v ∧ (v = .bool false) ∧ Below w.heap.size w w') x w := by
  have ho : dbk16_ops[10]? = some dbk16_o10 := rfl
  simp only [Array.getD_eq_getD_getElem?] at u0 u5 u11
  have q4 : x.tmps.getD 82 undef = by8 P := p4
  have q9 : x.tmps.getD 87 undef = by8 P := p9
  simp only [Array.getD_eq_getD_getElem?] at q4 q9
  unfold by8 at q4 q9
  have mP : (P == P) = true := beq_self_eq_true _
  refine wpOpIn_plain ho rfl (oper_inK hF.fn (fun K hK => ?_))
  clear ho
  rw [Oper.semAt_plain Fc _ _ (by intro c h; cases h)]
  simp only [dbk16_o10]
  go_simp
  exact hK _ _ ⟨_, act_putD x hdef _ _, rfl, Below.refl _ _⟩
set_option maxRecDepth 100000 in
set_option maxHeartbeats 2000000 in
theorem dbk16_s11 {Fc : Fence} (hF : Wide Fc) {nC : Nat} (gD oD gF oF n cD cF i : Nat) (P : List UInt8) (pB : Option Addr) (B : List Nat) (cB : Nat) (f : Nat → DT) (Q : Exit → Act → World → Prop) (df : List Deferred) (w0 : World)
    (hi : i < n) (hn : n ≤ 4000) (d0 : w0.cell? ⟨gD, oD + i * 4, none⟩ = some (by8 P)) (d1 : w0.cell? ⟨gD, oD + i * 4 + 1, none⟩ = some (by8 (ofL P))) (d2 : w0.cell? ⟨gD, oD + i * 4 + 2, none⟩ = some (.int .u32 (crcL B : Nat))) (d3 : w0.cell? ⟨gD, oD + i * 4 + 3, none⟩ = some (.int .i64 (B.length : Nat))) (f0 : w0.cell? ⟨gF, oF + i * 2, none⟩ = some (by8 P)) (f1 : w0.cell? ⟨gF, oF + i * 2 + 1, none⟩ = some (.slice pB (B.length) cB)) (hp : P.length ≤ 1000000) (hl : B.length ≤ cB) (hm : cB ≤ 9223372036854775807) (hz : BL w0 pB B) (hrow : RowK w0 (some ⟨gD, oD, none⟩) 4 n (fun k => cellD (f k))) (hfind : findN P 0 (pathsN (fun k => (f k).P) n) = (i : Int))
    (x : Act) (w : World) (hB : Below w0.heap.size w0 w) (hdef : x.defers = df) (u0 : x.tmps.getD 0 undef = .slice (some ⟨gF, oF, none⟩) n cF) (u5 : x.tmps.getD 5 undef = .slice (some ⟨gD, oD, none⟩) n cD) (u11 : x.tmps.getD 11 undef = .int .i64 (i : Nat))
    (p10 : dbk16_val gD oD gF oF n cD cF i P pB B cB f 10 (x.tmps.getD 88 undef) w)
    : wpOpIn Fc nC Try.prog dbk16_ops Q 11 (fun a' w' => ∃ v, a' = x.put (some 89) v ∧ (v = .bool false) ∧ Below w.heap.size w w') x w := by
  have ho : dbk16_ops[11]? = some dbk16_o11 := rfl
  simp only [Array.getD_eq_getD_getElem?] at u0 u5 u11
  have q10 : x.tmps.getD 88 undef = .bool false := p10
  simp only [Array.getD_eq_getD_getElem?] at q10
  refine wpOpIn_plain ho rfl (oper_inK hF.fn (fun K hK => ?_))
  clear ho
  rw [Oper.semAt_plain Fc _ _ (by intro c h; cases h)]
  simp only [dbk16_o11]
  go_simp
  exact hK _ _ ⟨_, act_putD x hdef _ _, rfl, Below.refl _ _⟩
set_option maxRecDepth 100000 in
set_option maxHeartbeats 2000000 in
theorem dbk16_s12 {Fc : Fence} (hF : Wide Fc) {nC : Nat} (gD oD gF oF n cD cF i : Nat) (P : List UInt8) (pB : Option Addr) (B : List Nat) (cB : Nat) (f : Nat → DT) (Q : Exit → Act → World → Prop) (df : List Deferred) (w0 : World)
    (hi : i < n) (hn : n ≤ 4000) (d0 : w0.cell? ⟨gD, oD + i * 4, none⟩ = some (by8 P)) (d1 : w0.cell? ⟨gD, oD + i * 4 + 1, none⟩ = some (by8 (ofL P))) (d2 : w0.cell? ⟨gD, oD + i * 4 + 2, none⟩ = some (.int .u32 (crcL B : Nat))) (d3 : w0.cell? ⟨gD, oD + i * 4 + 3, none⟩ = some (.int .i64 (B.length : Nat))) (f0 : w0.cell? ⟨gF, oF + i * 2, none⟩ = some (by8 P)) (f1 : w0.cell? ⟨gF, oF + i * 2 + 1, none⟩ = some (.slice pB (B.length) cB)) (hp : P.length ≤ 1000000) (hl : B.length ≤ cB) (hm : cB ≤ 9223372036854775807) (hz : BL w0 pB B) (hrow : RowK w0 (some ⟨gD, oD, none⟩) 4 n (fun k => cellD (f k))) (hfind : findN P 0 (pathsN (fun k => (f k).P) n) = (i : Int))
    (x : Act) (w : World) (hB : Below w0.heap.size w0 w) (hdef : x.defers = df) (u0 : x.tmps.getD 0 undef = .slice (some ⟨gF, oF, none⟩) n cF) (u5 : x.tmps.getD 5 undef = .slice (some ⟨gD, oD, none⟩) n cD) (u11 : x.tmps.getD 11 undef = .int .i64 (i : Nat))
    (p11 : dbk16_val gD oD gF oF n cD cF i P pB B cB f 11 (x.tmps.getD 89 undef) w)
    : wpOpIn Fc nC Try.prog dbk16_ops Q 12 (fun a' w' => ∃ v, a' = x.put (some 90) v ∧ (v = .slice (some ⟨gD, oD, none⟩) n cD) ∧ Below w.heap.size w w') x w := by
  have ho : dbk16_ops[12]? = some dbk16_o12 := rfl
  simp only [Array.getD_eq_getD_getElem?] at u0 u5 u11
  have q11 : x.tmps.getD 89 undef = .bool false := p11
  simp only [Array.getD_eq_getD_getElem?] at q11
  have e11 : (dbk16_ops[11]?.bind fun x => x.dst) = some 89 := rfl
  have g11 := get_someT q11 (fun h => by cases h)
  refine wpOpIn_stepT hF ho (fun K hK => ?_)
  clear ho
  rw [Oper.semAt_plain Fc _ _ (by intro c h; cases h)]
  simp only [dbk16_o12]
  go_simp
  exact hK _ _ ⟨_, act_putD x hdef _ _, rfl, Below.refl _ _⟩
set_option maxRecDepth 100000 in
set_option maxHeartbeats 2000000 in
theorem dbk16_s13 {Fc : Fence} (hF : Wide Fc) {nC : Nat} (gD oD gF oF n cD cF i : Nat) (P : List UInt8) (pB : Option Addr) (B : List Nat) (cB : Nat) (f : Nat → DT) (Q : Exit → Act → World → Prop) (df : List Deferred) (w0 : World)
    (hi : i < n) (hn : n ≤ 4000) (d0 : w0.cell? ⟨gD, oD + i * 4, none⟩ = some (by8 P)) (d1 : w0.cell? ⟨gD, oD + i * 4 + 1, none⟩ = some (by8 (ofL P))) (d2 : w0.cell? ⟨gD, oD + i * 4 + 2, none⟩ = some (.int .u32 (crcL B : Nat))) (d3 : w0.cell? ⟨gD, oD + i * 4 + 3, none⟩ = some (.int .i64 (B.length : Nat))) (f0 : w0.cell? ⟨gF, oF + i * 2, none⟩ = some (by8 P)) (f1 : w0.cell? ⟨gF, oF + i * 2 + 1, none⟩ = some (.slice pB (B.length) cB)) (hp : P.length ≤ 1000000) (hl : B.length ≤ cB) (hm : cB ≤ 9223372036854775807) (hz : BL w0 pB B) (hrow : RowK w0 (some ⟨gD, oD, none⟩) 4 n (fun k => cellD (f k))) (hfind : findN P 0 (pathsN (fun k => (f k).P) n) = (i : Int))
    (x : Act) (w : World) (hB : Below w0.heap.size w0 w) (hdef : x.defers = df) (u0 : x.tmps.getD 0 undef = .slice (some ⟨gF, oF, none⟩) n cF) (u5 : x.tmps.getD 5 undef = .slice (some ⟨gD, oD, none⟩) n cD) (u11 : x.tmps.getD 11 undef = .int .i64 (i : Nat))
    (p11 : dbk16_val gD oD gF oF n cD cF i P pB B cB f 11 (x.tmps.getD 89 undef) w)
    : wpOpIn Fc nC Try.prog dbk16_ops Q 13 (fun a' w' => ∃ v, a' = x.put (some 91) v ∧ (v = .int .i64 (i : Nat)) ∧ Below w.heap.size w w') x w := by
  have ho : dbk16_ops[13]? = some dbk16_o13 := rfl
  simp only [Array.getD_eq_getD_getElem?] at u0 u5 u11
  have q11 : x.tmps.getD 89 undef = .bool false := p11
  simp only [Array.getD_eq_getD_getElem?] at q11
  have e11 : (dbk16_ops[11]?.bind fun x => x.dst) = some 89 := rfl
  have g11 := get_someT q11 (fun h => by cases h)
  refine wpOpIn_stepT hF ho (fun K hK => ?_)
  clear ho
  rw [Oper.semAt_plain Fc _ _ (by intro c h; cases h)]
  simp only [dbk16_o13]
  go_simp
  exact hK _ _ ⟨_, act_putD x hdef _ _, rfl, Below.refl _ _⟩
set_option maxRecDepth 100000 in
set_option maxHeartbeats 2000000 in
theorem dbk16_s14 {Fc : Fence} (hF : Wide Fc) {nC : Nat} (gD oD gF oF n cD cF i : Nat) (P : List UInt8) (pB : Option Addr) (B : List Nat) (cB : Nat) (f : Nat → DT) (Q : Exit → Act → World → Prop) (df : List Deferred) (w0 : World)
    (hi : i < n) (hn : n ≤ 4000) (d0 : w0.cell? ⟨gD, oD + i * 4, none⟩ = some (by8 P)) (d1 : w0.cell? ⟨gD, oD + i * 4 + 1, none⟩ = some (by8 (ofL P))) (d2 : w0.cell? ⟨gD, oD + i * 4 + 2, none⟩ = some (.int .u32 (crcL B : Nat))) (d3 : w0.cell? ⟨gD, oD + i * 4 + 3, none⟩ = some (.int .i64 (B.length : Nat))) (f0 : w0.cell? ⟨gF, oF + i * 2, none⟩ = some (by8 P)) (f1 : w0.cell? ⟨gF, oF + i * 2 + 1, none⟩ = some (.slice pB (B.length) cB)) (hp : P.length ≤ 1000000) (hl : B.length ≤ cB) (hm : cB ≤ 9223372036854775807) (hz : BL w0 pB B) (hrow : RowK w0 (some ⟨gD, oD, none⟩) 4 n (fun k => cellD (f k))) (hfind : findN P 0 (pathsN (fun k => (f k).P) n) = (i : Int))
    (x : Act) (w : World) (hB : Below w0.heap.size w0 w) (hdef : x.defers = df) (u0 : x.tmps.getD 0 undef = .slice (some ⟨gF, oF, none⟩) n cF) (u5 : x.tmps.getD 5 undef = .slice (some ⟨gD, oD, none⟩) n cD) (u11 : x.tmps.getD 11 undef = .int .i64 (i : Nat))
    (p12 : dbk16_val gD oD gF oF n cD cF i P pB B cB f 12 (x.tmps.getD 90 undef) w)
    (p13 : dbk16_val gD oD gF oF n cD cF i P pB B cB f 13 (x.tmps.getD 91 undef) w)
    (p11 : dbk16_val gD oD gF oF n cD cF i P pB B cB f 11 (x.tmps.getD 89 undef) w)
    : wpOpIn Fc nC Try.prog dbk16_ops Q 14 (fun a' w' => ∃ v, a' = x.put (some 92) v ∧ (v = .pointer (some ⟨gD, oD + i * 4, none⟩)) ∧ Below w.heap.size w w') x w := by
  have ho : dbk16_ops[14]? = some dbk16_o14 := rfl
  simp only [Array.getD_eq_getD_getElem?] at u0 u5 u11
  have q12 : x.tmps.getD 90 undef = .slice (some ⟨gD, oD, none⟩) n cD := p12
  have q13 : x.tmps.getD 91 undef = .int .i64 (i : Nat) := p13
  have q11 : x.tmps.getD 89 undef = .bool false := p11
  simp only [Array.getD_eq_getD_getElem?] at q12 q13 q11
  have e11 : (dbk16_ops[11]?.bind fun x => x.dst) = some 89 := rfl
  have g11 := get_someT q11 (fun h => by cases h)
  have i0 : (0 : Int) ≤ (i : Int) := by omega
  have i1 : (i : Int) < (n : Int) := by omega
  refine wpOpIn_stepT hF ho (fun K hK => ?_)
  clear ho
  rw [Oper.semAt_plain Fc _ _ (by intro c h; cases h)]
  simp only [dbk16_o14]
  go_simp
  exact hK _ _ ⟨_, act_putD x hdef _ _, rfl, Below.refl _ _⟩
set_option maxRecDepth 100000 in
set_option maxHeartbeats 2000000 in
theorem dbk16_s15 {Fc : Fence} (hF : Wide Fc) {nC : Nat} (gD oD gF oF n cD cF i : Nat) (P : List UInt8) (pB : Option Addr) (B : List Nat) (cB : Nat) (f : Nat → DT) (Q : Exit → Act → World → Prop) (df : List Deferred) (w0 : World)
    (hi : i < n) (hn : n ≤ 4000) (d0 : w0.cell? ⟨gD, oD + i * 4, none⟩ = some (by8 P)) (d1 : w0.cell? ⟨gD, oD + i * 4 + 1, none⟩ = some (by8 (ofL P))) (d2 : w0.cell? ⟨gD, oD + i * 4 + 2, none⟩ = some (.int .u32 (crcL B : Nat))) (d3 : w0.cell? ⟨gD, oD + i * 4 + 3, none⟩ = some (.int .i64 (B.length : Nat))) (f0 : w0.cell? ⟨gF, oF + i * 2, none⟩ = some (by8 P)) (f1 : w0.cell? ⟨gF, oF + i * 2 + 1, none⟩ = some (.slice pB (B.length) cB)) (hp : P.length ≤ 1000000) (hl : B.length ≤ cB) (hm : cB ≤ 9223372036854775807) (hz : BL w0 pB B) (hrow : RowK w0 (some ⟨gD, oD, none⟩) 4 n (fun k => cellD (f k))) (hfind : findN P 0 (pathsN (fun k => (f k).P) n) = (i : Int))
    (x : Act) (w : World) (hB : Below w0.heap.size w0 w) (hdef : x.defers = df) (u0 : x.tmps.getD 0 undef = .slice (some ⟨gF, oF, none⟩) n cF) (u5 : x.tmps.getD 5 undef = .slice (some ⟨gD, oD, none⟩) n cD) (u11 : x.tmps.getD 11 undef = .int .i64 (i : Nat))
    (p14 : dbk16_val gD oD gF oF n cD cF i P pB B cB f 14 (x.tmps.getD 92 undef) w)
    (p11 : dbk16_val gD oD gF oF n cD cF i P pB B cB f 11 (x.tmps.getD 89 undef) w)
    : wpOpIn Fc nC Try.prog dbk16_ops Q 15 (fun a' w' => ∃ v, a' = x.put (some 93) v ∧ (v = .pointer (some ⟨gD, oD + i * 4 + 1, none⟩)) ∧ Below w.heap.size w w') x w := by
  have ho : dbk16_ops[15]? = some dbk16_o15 := rfl
  simp only [Array.getD_eq_getD_getElem?] at u0 u5 u11
  have q14 : x.tmps.getD 92 undef = .pointer (some ⟨gD, oD + i * 4, none⟩) := p14
  have q11 : x.tmps.getD 89 undef = .bool false := p11
  simp only [Array.getD_eq_getD_getElem?] at q14 q11
  have e11 : (dbk16_ops[11]?.bind fun x => x.dst) = some 89 := rfl
  have g11 := get_someT q11 (fun h => by cases h)
  refine wpOpIn_stepT hF ho (fun K hK => ?_)
  clear ho
  rw [Oper.semAt_plain Fc _ _ (by intro c h; cases h)]
  simp only [dbk16_o15]
  go_simp
  exact hK _ _ ⟨_, act_putD x hdef _ _, rfl, Below.refl _ _⟩
set_option maxRecDepth 100000 in
set_option maxHeartbeats 2000000 in
theorem dbk16_s16 {Fc : Fence} (hF : Wide Fc) {nC : Nat} (gD oD gF oF n cD cF i : Nat) (P : List UInt8) (pB : Option Addr) (B : List Nat) (cB : Nat) (f : Nat → DT) (Q : Exit → Act → World → Prop) (df : List Deferred) (w0 : World)
    (hi : i < n) (hn : n ≤ 4000) (d0 : w0.cell? ⟨gD, oD + i * 4, none⟩ = some (by8 P)) (d1 : w0.cell? ⟨gD, oD + i * 4 + 1, none⟩ = some (by8 (ofL P))) (d2 : w0.cell? ⟨gD, oD + i * 4 + 2, none⟩ = some (.int .u32 (crcL B : Nat))) (d3 : w0.cell? ⟨gD, oD + i * 4 + 3, none⟩ = some (.int .i64 (B.length : Nat))) (f0 : w0.cell? ⟨gF, oF + i * 2, none⟩ = some (by8 P)) (f1 : w0.cell? ⟨gF, oF + i * 2 + 1, none⟩ = some (.slice pB (B.length) cB)) (hp : P.length ≤ 1000000) (hl : B.length ≤ cB) (hm : cB ≤ 9223372036854775807) (hz : BL w0 pB B) (hrow : RowK w0 (some ⟨gD, oD, none⟩) 4 n (fun k => cellD (f k))) (hfind : findN P 0 (pathsN (fun k => (f k).P) n) = (i : Int))
    (x : Act) (w : World) (hB : Below w0.heap.size w0 w) (hdef : x.defers = df) (u0 : x.tmps.getD 0 undef = .slice (some ⟨gF, oF, none⟩) n cF) (u5 : x.tmps.getD 5 undef = .slice (some ⟨gD, oD, none⟩) n cD) (u11 : x.tmps.getD 11 undef = .int .i64 (i : Nat))
    (p15 : dbk16_val gD oD gF oF n cD cF i P pB B cB f 15 (x.tmps.getD 93 undef) w)
    (p11 : dbk16_val gD oD gF oF n cD cF i P pB B cB f 11 (x.tmps.getD 89 undef) w)
    : wpOpIn Fc nC Try.prog dbk16_ops Q 16 (fun a' w' => ∃ v, a' = x.put (some 94) v ∧ (v = by8 (ofL P)) ∧ Below w.heap.size w w') x w := by
  have ho : dbk16_ops[16]? = some dbk16_o16 := rfl
  simp only [Array.getD_eq_getD_getElem?] at u0 u5 u11
  have q15 : x.tmps.getD 93 undef = .pointer (some ⟨gD, oD + i * 4 + 1, none⟩) := p15
  have q11 : x.tmps.getD 89 undef = .bool false := p11
  simp only [Array.getD_eq_getD_getElem?] at q15 q11
  have e11 : (dbk16_ops[11]?.bind fun x => x.dst) = some 89 := rfl
  have g11 := get_someT q11 (fun h => by cases h)
  have m := cell_thru d1 hB
  refine wpOpIn_stepT hF ho (fun K hK => ?_)
  clear ho
  rw [Oper.semAt_plain Fc _ _ (by intro c h; cases h)]
  simp only [dbk16_o16]
  go_simp
  exact hK _ _ ⟨_, act_putD x hdef _ _, rfl, Below.refl _ _⟩
set_option maxRecDepth 100000 in
set_option maxHeartbeats 2000000 in
theorem dbk16_s17 {Fc : Fence} (hF : Wide Fc) {nC : Nat} (gD oD gF oF n cD cF i : Nat) (P : List UInt8) (pB : Option Addr) (B : List Nat) (cB : Nat) (f : Nat → DT) (Q : Exit → Act → World → Prop) (df : List Deferred) (w0 : World)
    (hi : i < n) (hn : n ≤ 4000) (d0 : w0.cell? ⟨gD, oD + i * 4, none⟩ = some (by8 P)) (d1 : w0.cell? ⟨gD, oD + i * 4 + 1, none⟩ = some (by8 (ofL P))) (d2 : w0.cell? ⟨gD, oD + i * 4 + 2, none⟩ = some (.int .u32 (crcL B : Nat))) (d3 : w0.cell? ⟨gD, oD + i * 4 + 3, none⟩ = some (.int .i64 (B.length : Nat))) (f0 : w0.cell? ⟨gF, oF + i * 2, none⟩ = some (by8 P)) (f1 : w0.cell? ⟨gF, oF + i * 2 + 1, none⟩ = some (.slice pB (B.length) cB)) (hp : P.length ≤ 1000000) (hl : B.length ≤ cB) (hm : cB ≤ 9223372036854775807) (hz : BL w0 pB B) (hrow : RowK w0 (some ⟨gD, oD, none⟩) 4 n (fun k => cellD (f k))) (hfind : findN P 0 (pathsN (fun k => (f k).P) n) = (i : Int))
    (x : Act) (w : World) (hB : Below w0.heap.size w0 w) (hdef : x.defers = df) (u0 : x.tmps.getD 0 undef = .slice (some ⟨gF, oF, none⟩) n cF) (u5 : x.tmps.getD 5 undef = .slice (some ⟨gD, oD, none⟩) n cD) (u11 : x.tmps.getD 11 undef = .int .i64 (i : Nat))
    (p11 : dbk16_val gD oD gF oF n cD cF i P pB B cB f 11 (x.tmps.getD 89 undef) w)
    : wpOpIn Fc nC Try.prog dbk16_ops Q 17 (fun a' w' => ∃ v, a' = x.put (some 95) v ∧ (v = .slice (some ⟨gF, oF, none⟩) n cF) ∧ Below w.heap.size w w') x w := by
  have ho : dbk16_ops[17]? = some dbk16_o17 := rfl
  simp only [Array.getD_eq_getD_getElem?] at u0 u5 u11
  have q11 : x.tmps.getD 89 undef = .bool false := p11
  simp only [Array.getD_eq_getD_getElem?] at q11
  have e11 : (dbk16_ops[11]?.bind fun x => x.dst) = some 89 := rfl
  have g11 := get_someT q11 (fun h => by cases h)
  refine wpOpIn_stepT hF ho (fun K hK => ?_)
  clear ho
  rw [Oper.semAt_plain Fc _ _ (by intro c h; cases h)]
  simp only [dbk16_o17]
  go_simp
  exact hK _ _ ⟨_, act_putD x hdef _ _, rfl, Below.refl _ _⟩
set_option maxRecDepth 100000 in
set_option maxHeartbeats 2000000 in
theorem dbk16_s18 {Fc : Fence} (hF : Wide Fc) {nC : Nat} (gD oD gF oF n cD cF i : Nat) (P : List UInt8) (pB : Option Addr) (B : List Nat) (cB : Nat) (f : Nat → DT) (Q : Exit → Act → World → Prop) (df : List Deferred) (w0 : World)
    (hi : i < n) (hn : n ≤ 4000) (d0 : w0.cell? ⟨gD, oD + i * 4, none⟩ = some (by8 P)) (d1 : w0.cell? ⟨gD, oD + i * 4 + 1, none⟩ = some (by8 (ofL P))) (d2 : w0.cell? ⟨gD, oD + i * 4 + 2, none⟩ = some (.int .u32 (crcL B : Nat))) (d3 : w0.cell? ⟨gD, oD + i * 4 + 3, none⟩ = some (.int .i64 (B.length : Nat))) (f0 : w0.cell? ⟨gF, oF + i * 2, none⟩ = some (by8 P)) (f1 : w0.cell? ⟨gF, oF + i * 2 + 1, none⟩ = some (.slice pB (B.length) cB)) (hp : P.length ≤ 1000000) (hl : B.length ≤ cB) (hm : cB ≤ 9223372036854775807) (hz : BL w0 pB B) (hrow : RowK w0 (some ⟨gD, oD, none⟩) 4 n (fun k => cellD (f k))) (hfind : findN P 0 (pathsN (fun k => (f k).P) n) = (i : Int))
    (x : Act) (w : World) (hB : Below w0.heap.size w0 w) (hdef : x.defers = df) (u0 : x.tmps.getD 0 undef = .slice (some ⟨gF, oF, none⟩) n cF) (u5 : x.tmps.getD 5 undef = .slice (some ⟨gD, oD, none⟩) n cD) (u11 : x.tmps.getD 11 undef = .int .i64 (i : Nat))
    (p11 : dbk16_val gD oD gF oF n cD cF i P pB B cB f 11 (x.tmps.getD 89 undef) w)
    : wpOpIn Fc nC Try.prog dbk16_ops Q 18 (fun a' w' => ∃ v, a' = x.put (some 96) v ∧ (v = .int .i64 (i : Nat)) ∧ Below w.heap.size w w') x w := by
  have ho : dbk16_ops[18]? = some dbk16_o18 := rfl
  simp only [Array.getD_eq_getD_getElem?] at u0 u5 u11
  have q11 : x.tmps.getD 89 undef = .bool false := p11
  simp only [Array.getD_eq_getD_getElem?] at q11
  have e11 : (dbk16_ops[11]?.bind fun x => x.dst) = some 89 := rfl
  have g11 := get_someT q11 (fun h => by cases h)
  refine wpOpIn_stepT hF ho (fun K hK => ?_)
  clear ho
  rw [Oper.semAt_plain Fc _ _ (by intro c h; cases h)]
  simp only [dbk16_o18]
  go_simp
  exact hK _ _ ⟨_, act_putD x hdef _ _, rfl, Below.refl _ _⟩
set_option maxRecDepth 100000 in
set_option maxHeartbeats 2000000 in
theorem dbk16_s19 {Fc : Fence} (hF : Wide Fc) {nC : Nat} (gD oD gF oF n cD cF i : Nat) (P : List UInt8) (pB : Option Addr) (B : List Nat) (cB : Nat) (f : Nat → DT) (Q : Exit → Act → World → Prop) (df : List Deferred) (w0 : World)
    (hi : i < n) (hn : n ≤ 4000) (d0 : w0.cell? ⟨gD, oD + i * 4, none⟩ = some (by8 P)) (d1 : w0.cell? ⟨gD, oD + i * 4 + 1, none⟩ = some (by8 (ofL P))) (d2 : w0.cell? ⟨gD, oD + i * 4 + 2, none⟩ = some (.int .u32 (crcL B : Nat))) (d3 : w0.cell? ⟨gD, oD + i * 4 + 3, none⟩ = some (.int .i64 (B.length : Nat))) (f0 : w0.cell? ⟨gF, oF + i * 2, none⟩ = some (by8 P)) (f1 : w0.cell? ⟨gF, oF + i * 2 + 1, none⟩ = some (.slice pB (B.length) cB)) (hp : P.length ≤ 1000000) (hl : B.length ≤ cB) (hm : cB ≤ 9223372036854775807) (hz : BL w0 pB B) (hrow : RowK w0 (some ⟨gD, oD, none⟩) 4 n (fun k => cellD (f k))) (hfind : findN P 0 (pathsN (fun k => (f k).P) n) = (i : Int))
    (x : Act) (w : World) (hB : Below w0.heap.size w0 w) (hdef : x.defers = df) (u0 : x.tmps.getD 0 undef = .slice (some ⟨gF, oF, none⟩) n cF) (u5 : x.tmps.getD 5 undef = .slice (some ⟨gD, oD, none⟩) n cD) (u11 : x.tmps.getD 11 undef = .int .i64 (i : Nat))
    (p17 : dbk16_val gD oD gF oF n cD cF i P pB B cB f 17 (x.tmps.getD 95 undef) w)
    (p18 : dbk16_val gD oD gF oF n cD cF i P pB B cB f 18 (x.tmps.getD 96 undef) w)
    (p11 : dbk16_val gD oD gF oF n cD cF i P pB B cB f 11 (x.tmps.getD 89 undef) w)
    : wpOpIn Fc nC Try.prog dbk16_ops Q 19 (fun a' w' => ∃ v, a' = x.put (some 97) v ∧ (v = .pointer (some ⟨gF, oF + i * 2, none⟩)) ∧ Below w.heap.size w w') x w := by
  have ho : dbk16_ops[19]? = some dbk16_o19 := rfl
  simp only [Array.getD_eq_getD_getElem?] at u0 u5 u11
  have q17 : x.tmps.getD 95 undef = .slice (some ⟨gF, oF, none⟩) n cF := p17
  have q18 : x.tmps.getD 96 undef = .int .i64 (i : Nat) := p18
  have q11 : x.tmps.getD 89 undef = .bool false := p11
  simp only [Array.getD_eq_getD_getElem?] at q17 q18 q11
  have e11 : (dbk16_ops[11]?.bind fun x => x.dst) = some 89 := rfl
  have g11 := get_someT q11 (fun h => by cases h)
  have i0 : (0 : Int) ≤ (i : Int) := by omega
  have i1 : (i : Int) < (n : Int) := by omega
  refine wpOpIn_stepT hF ho (fun K hK => ?_)
  clear ho
  rw [Oper.semAt_plain Fc _ _ (by intro c h; cases h)]
  simp only [dbk16_o19]
  go_simp
  exact hK _ _ ⟨_, act_putD x hdef _ _, rfl, Below.refl _ _⟩
set_option maxRecDepth 100000 in
set_option maxHeartbeats 2000000 in
theorem dbk16_s20 {Fc : Fence} (hF : Wide Fc) {nC : Nat} (gD oD gF oF n cD cF i : Nat) (P : List UInt8) (pB : Option Addr) (B : List Nat) (cB : Nat) (f : Nat → DT) (Q : Exit → Act → World → Prop) (df : List Deferred) (w0 : World)
    (hi : i < n) (hn : n ≤ 4000) (d0 : w0.cell? ⟨gD, oD + i * 4, none⟩ = some (by8 P)) (d1 : w0.cell? ⟨gD, oD + i * 4 + 1, none⟩ = some (by8 (ofL P))) (d2 : w0.cell? ⟨gD, oD + i * 4 + 2, none⟩ = some (.int .u32 (crcL B : Nat))) (d3 : w0.cell? ⟨gD, oD + i * 4 + 3, none⟩ = some (.int .i64 (B.length : Nat))) (f0 : w0.cell? ⟨gF, oF + i * 2, none⟩ = some (by8 P)) (f1 : w0.cell? ⟨gF, oF + i * 2 + 1, none⟩ = some (.slice pB (B.length) cB)) (hp : P.length ≤ 1000000) (hl : B.length ≤ cB) (hm : cB ≤ 9223372036854775807) (hz : BL w0 pB B) (hrow : RowK w0 (some ⟨gD, oD, none⟩) 4 n (fun k => cellD (f k))) (hfind : findN P 0 (pathsN (fun k => (f k).P) n) = (i : Int))
    (x : Act) (w : World) (hB : Below w0.heap.size w0 w) (hdef : x.defers = df) (u0 : x.tmps.getD 0 undef = .slice (some ⟨gF, oF, none⟩) n cF) (u5 : x.tmps.getD 5 undef = .slice (some ⟨gD, oD, none⟩) n cD) (u11 : x.tmps.getD 11 undef = .int .i64 (i : Nat))
    (p19 : dbk16_val gD oD gF oF n cD cF i P pB B cB f 19 (x.tmps.getD 97 undef) w)
    (p11 : dbk16_val gD oD gF oF n cD cF i P pB B cB f 11 (x.tmps.getD 89 undef) w)
    : wpOpIn Fc nC Try.prog dbk16_ops Q 20 (fun a' w' => ∃ v, a' = x.put (some 98) v ∧ (v = .pointer (some ⟨gF, oF + i * 2, none⟩)) ∧ Below w.heap.size w w') x w := by
  have ho : dbk16_ops[20]? = some dbk16_o20 := rfl
  simp only [Array.getD_eq_getD_getElem?] at u0 u5 u11
  have q19 : x.tmps.getD 97 undef = .pointer (some ⟨gF, oF + i * 2, none⟩) := p19
  have q11 : x.tmps.getD 89 undef = .bool false := p11
  simp only [Array.getD_eq_getD_getElem?] at q19 q11
  have e11 : (dbk16_ops[11]?.bind fun x => x.dst) = some 89 := rfl
  have g11 := get_someT q11 (fun h => by cases h)
  refine wpOpIn_stepT hF ho (fun K hK => ?_)
  clear ho
  rw [Oper.semAt_plain Fc _ _ (by intro c h; cases h)]
  simp only [dbk16_o20]
  go_simp
  exact hK _ _ ⟨_, act_putD x hdef _ _, rfl, Below.refl _ _⟩
set_option maxRecDepth 100000 in
set_option maxHeartbeats 2000000 in
theorem dbk16_s21 {Fc : Fence} (hF : Wide Fc) {nC : Nat} (gD oD gF oF n cD cF i : Nat) (P : List UInt8) (pB : Option Addr) (B : List Nat) (cB : Nat) (f : Nat → DT) (Q : Exit → Act → World → Prop) (df : List Deferred) (w0 : World)
    (hi : i < n) (hn : n ≤ 4000) (d0 : w0.cell? ⟨gD, oD + i * 4, none⟩ = some (by8 P)) (d1 : w0.cell? ⟨gD, oD + i * 4 + 1, none⟩ = some (by8 (ofL P))) (d2 : w0.cell? ⟨gD, oD + i * 4 + 2, none⟩ = some (.int .u32 (crcL B : Nat))) (d3 : w0.cell? ⟨gD, oD + i * 4 + 3, none⟩ = some (.int .i64 (B.length : Nat))) (f0 : w0.cell? ⟨gF, oF + i * 2, none⟩ = some (by8 P)) (f1 : w0.cell? ⟨gF, oF + i * 2 + 1, none⟩ = some (.slice pB (B.length) cB)) (hp : P.length ≤ 1000000) (hl : B.length ≤ cB) (hm : cB ≤ 9223372036854775807) (hz : BL w0 pB B) (hrow : RowK w0 (some ⟨gD, oD, none⟩) 4 n (fun k => cellD (f k))) (hfind : findN P 0 (pathsN (fun k => (f k).P) n) = (i : Int))
    (x : Act) (w : World) (hB : Below w0.heap.size w0 w) (hdef : x.defers = df) (u0 : x.tmps.getD 0 undef = .slice (some ⟨gF, oF, none⟩) n cF) (u5 : x.tmps.getD 5 undef = .slice (some ⟨gD, oD, none⟩) n cD) (u11 : x.tmps.getD 11 undef = .int .i64 (i : Nat))
    (p20 : dbk16_val gD oD gF oF n cD cF i P pB B cB f 20 (x.tmps.getD 98 undef) w)
    (p11 : dbk16_val gD oD gF oF n cD cF i P pB B cB f 11 (x.tmps.getD 89 undef) w)
    : wpOpIn Fc nC Try.prog dbk16_ops Q 21 (fun a' w' => ∃ v, a' = x.put (some 99) v ∧ (v = by8 P) ∧ Below w.heap.size w w') x w := by
  have ho : dbk16_ops[21]? = some dbk16_o21 := rfl
  simp only [Array.getD_eq_getD_getElem?] at u0 u5 u11
  have q20 : x.tmps.getD 98 undef = .pointer (some ⟨gF, oF + i * 2, none⟩) := p20
  have q11 : x.tmps.getD 89 undef = .bool false := p11
  simp only [Array.getD_eq_getD_getElem?] at q20 q11
  have e11 : (dbk16_ops[11]?.bind fun x => x.dst) = some 89 := rfl
  have g11 := get_someT q11 (fun h => by cases h)
  have m := cell_thru f0 hB
  refine wpOpIn_stepT hF ho (fun K hK => ?_)
  clear ho
  rw [Oper.semAt_plain Fc _ _ (by intro c h; cases h)]
  simp only [dbk16_o21]
  go_simp
  exact hK _ _ ⟨_, act_putD x hdef _ _, rfl, Below.refl _ _⟩
set_option maxRecDepth 100000 in
set_option maxHeartbeats 2000000 in
theorem dbk16_s22 {Fc : Fence} (hF : Wide Fc) {nC : Nat} (gD oD gF oF n cD cF i : Nat) (P : List UInt8) (pB : Option Addr) (B : List Nat) (cB : Nat) (f : Nat → DT) (Q : Exit → Act → World → Prop) (df : List Deferred) (w0 : World)
    (hi : i < n) (hn : n ≤ 4000) (d0 : w0.cell? ⟨gD, oD + i * 4, none⟩ = some (by8 P)) (d1 : w0.cell? ⟨gD, oD + i * 4 + 1, none⟩ = some (by8 (ofL P))) (d2 : w0.cell? ⟨gD, oD + i * 4 + 2, none⟩ = some (.int .u32 (crcL B : Nat))) (d3 : w0.cell? ⟨gD, oD + i * 4 + 3, none⟩ = some (.int .i64 (B.length : Nat))) (f0 : w0.cell? ⟨gF, oF + i * 2, none⟩ = some (by8 P)) (f1 : w0.cell? ⟨gF, oF + i * 2 + 1, none⟩ = some (.slice pB (B.length) cB)) (hp : P.length ≤ 1000000) (hl : B.length ≤ cB) (hm : cB ≤ 9223372036854775807) (hz : BL w0 pB B) (hrow : RowK w0 (some ⟨gD, oD, none⟩) 4 n (fun k => cellD (f k))) (hfind : findN P 0 (pathsN (fun k => (f k).P) n) = (i : Int))
    (x : Act) (w : World) (hB : Below w0.heap.size w0 w) (hdef : x.defers = df) (u0 : x.tmps.getD 0 undef = .slice (some ⟨gF, oF, none⟩) n cF) (u5 : x.tmps.getD 5 undef = .slice (some ⟨gD, oD, none⟩) n cD) (u11 : x.tmps.getD 11 undef = .int .i64 (i : Nat))
    (p21 : dbk16_val gD oD gF oF n cD cF i P pB B cB f 21 (x.tmps.getD 99 undef) w)
    (p11 : dbk16_val gD oD gF oF n cD cF i P pB B cB f 11 (x.tmps.getD 89 undef) w)
    : wpOpIn Fc nC Try.prog dbk16_ops Q 22 (fun a' w' => ∃ v, a' = x.put (some 100) v ∧ (v = by8 (ofL P)) ∧ Below w.heap.size w w') x w := by
  have ho : dbk16_ops[22]? = some dbk16_o22 := rfl
  simp only [Array.getD_eq_getD_getElem?] at u0 u5 u11
  have q21 : x.tmps.getD 99 undef = by8 P := p21
  have q11 : x.tmps.getD 89 undef = .bool false := p11
  simp only [Array.getD_eq_getD_getElem?] at q21 q11
  have e11 : (dbk16_ops[11]?.bind fun x => x.dst) = some 89 := rfl
  have g11 := get_someT q11 (fun h => by cases h)
  refine wpOpIn_stepT hF ho (fun K hK => ?_)
  clear ho
  rw [Oper.semAt_plain Fc _ _ (by intro c h; cases h)]
  simp only [dbk16_o22]
  go_simp
  refine ⟨hF.deep, (hF.call (of_any P w hp)).mono ?_⟩
  rintro e w' ⟨rfl, hb⟩
  exact hK _ _ ⟨_, act_putD x hdef _ _, rfl, hb⟩
set_option maxRecDepth 100000 in
set_option maxHeartbeats 2000000 in
theorem dbk16_s23 {Fc : Fence} (hF : Wide Fc) {nC : Nat} (gD oD gF oF n cD cF i : Nat) (P : List UInt8) (pB : Option Addr) (B : List Nat) (cB : Nat) (f : Nat → DT) (Q : Exit → Act → World → Prop) (df : List Deferred) (w0 : World)
    (hi : i < n) (hn : n ≤ 4000) (d0 : w0.cell? ⟨gD, oD + i * 4, none⟩ = some (by8 P)) (d1 : w0.cell? ⟨gD, oD + i * 4 + 1, none⟩ = some (by8 (ofL P))) (d2 : w0.cell? ⟨gD, oD + i * 4 + 2, none⟩ = some (.int .u32 (crcL B : Nat))) (d3 : w0.cell? ⟨gD, oD + i * 4 + 3, none⟩ = some (.int .i64 (B.length : Nat))) (f0 : w0.cell? ⟨gF, oF + i * 2, none⟩ = some (by8 P)) (f1 : w0.cell? ⟨gF, oF + i * 2 + 1, none⟩ = some (.slice pB (B.length) cB)) (hp : P.length ≤ 1000000) (hl : B.length ≤ cB) (hm : cB ≤ 9223372036854775807) (hz : BL w0 pB B) (hrow : RowK w0 (some ⟨gD, oD, none⟩) 4 n (fun k => cellD (f k))) (hfind : findN P 0 (pathsN (fun k => (f k).P) n) = (i : Int))
    (x : Act) (w : World) (hB : Below w0.heap.size w0 w) (hdef : x.defers = df) (u0 : x.tmps.getD 0 undef = .slice (some ⟨gF, oF, none⟩) n cF) (u5 : x.tmps.getD 5 undef = .slice (some ⟨gD, oD, none⟩) n cD) (u11 : x.tmps.getD 11 undef = .int .i64 (i : Nat))
    (p16 : dbk16_val gD oD gF oF n cD cF i P pB B cB f 16 (x.tmps.getD 94 undef) w)
    (p22 : dbk16_val gD oD gF oF n cD cF i P pB B cB f 22 (x.tmps.getD 100 undef) w)
    (p11 : dbk16_val gD oD gF oF n cD cF i P pB B cB f 11 (x.tmps.getD 89 undef) w)
    : wpOpIn Fc nC Try.prog dbk16_ops Q 23 (fun a' w' => ∃ v, a' = x.put (some 101) v ∧ (v = .bool false) ∧ Below w.heap.size w w') x w := by
  have ho : dbk16_ops[23]? = some dbk16_o23 := rfl
  simp only [Array.getD_eq_getD_getElem?] at u0 u5 u11
  have q16 : x.tmps.getD 94 undef = by8 (ofL P) := p16
  have q22 : x.tmps.getD 100 undef = by8 (ofL P) := p22
  have q11 : x.tmps.getD 89 undef = .bool false := p11
  simp only [Array.getD_eq_getD_getElem?] at q16 q22 q11
  have e11 : (dbk16_ops[11]?.bind fun x => x.dst) = some 89 := rfl
  have g11 := get_someT q11 (fun h => by cases h)
  unfold by8 at q16 q22
  have mP : (ofL P == ofL P) = true := beq_self_eq_true _
  refine wpOpIn_stepT hF ho (fun K hK => ?_)
  clear ho
  rw [Oper.semAt_plain Fc _ _ (by intro c h; cases h)]
  simp only [dbk16_o23]
  go_simp
  exact hK _ _ ⟨_, act_putD x hdef _ _, rfl, Below.refl _ _⟩
set_option maxRecDepth 100000 in
set_option maxHeartbeats 2000000 in
theorem dbk16_s24 {Fc : Fence} (hF : Wide Fc) {nC : Nat} (gD oD gF oF n cD cF i : Nat) (P : List UInt8) (pB : Option Addr) (B : List Nat) (cB : Nat) (f : Nat → DT) (Q : Exit → Act → World → Prop) (df : List Deferred) (w0 : World)
    (hi : i < n) (hn : n ≤ 4000) (d0 : w0.cell? ⟨gD, oD + i * 4, none⟩ = some (by8 P)) (d1 : w0.cell? ⟨gD, oD + i * 4 + 1, none⟩ = some (by8 (ofL P))) (d2 : w0.cell? ⟨gD, oD + i * 4 + 2, none⟩ = some (.int .u32 (crcL B : Nat))) (d3 : w0.cell? ⟨gD, oD + i * 4 + 3, none⟩ = some (.int .i64 (B.length : Nat))) (f0 : w0.cell? ⟨gF, oF + i * 2, none⟩ = some (by8 P)) (f1 : w0.cell? ⟨gF, oF + i * 2 + 1, none⟩ = some (.slice pB (B.length) cB)) (hp : P.length ≤ 1000000) (hl : B.length ≤ cB) (hm : cB ≤ 9223372036854775807) (hz : BL w0 pB B) (hrow : RowK w0 (some ⟨gD, oD, none⟩) 4 n (fun k => cellD (f k))) (hfind : findN P 0 (pathsN (fun k => (f k).P) n) = (i : Int))
    (x : Act) (w : World) (hB : Below w0.heap.size w0 w) (hdef : x.defers = df) (u0 : x.tmps.getD 0 undef = .slice (some ⟨gF, oF, none⟩) n cF) (u5 : x.tmps.getD 5 undef = .slice (some ⟨gD, oD, none⟩) n cD) (u11 : x.tmps.getD 11 undef = .int .i64 (i : Nat))
    (p11 : dbk16_val gD oD gF oF n cD cF i P pB B cB f 11 (x.tmps.getD 89 undef) w)
    (p23 : dbk16_val gD oD gF oF n cD cF i P pB B cB f 23 (x.tmps.getD 101 undef) w)
    : wpOpIn Fc nC Try.prog dbk16_ops Q 24 (fun a' w' => ∃ v, a' = x.put (some 102) v ∧ (v = .bool false) ∧ Below w.heap.size w w') x w := by
  have ho : dbk16_ops[24]? = some dbk16_o24 := rfl
  simp only [Array.getD_eq_getD_getElem?] at u0 u5 u11
  have q11 : x.tmps.getD 89 undef = .bool false := p11
  have q23 : x.tmps.getD 101 undef = .bool false := p23
  simp only [Array.getD_eq_getD_getElem?] at q11 q23
  refine wpOpIn_plain ho rfl (oper_inK hF.fn (fun K hK => ?_))
  clear ho
  rw [Oper.semAt_plain Fc _ _ (by intro c h; cases h)]
  simp only [dbk16_o24]
  go_simp
  exact hK _ _ ⟨_, act_putD x hdef _ _, rfl, Below.refl _ _⟩
set_option maxRecDepth 100000 in
set_option maxHeartbeats 2000000 in
theorem dbk16_s25 {Fc : Fence} (hF : Wide Fc) {nC : Nat} (gD oD gF oF n cD cF i : Nat) (P : List UInt8) (pB : Option Addr) (B : List Nat) (cB : Nat) (f : Nat → DT) (Q : Exit → Act → World → Prop) (df : List Deferred) (w0 : World)
    (hi : i < n) (hn : n ≤ 4000) (d0 : w0.cell? ⟨gD, oD + i * 4, none⟩ = some (by8 P)) (d1 : w0.cell? ⟨gD, oD + i * 4 + 1, none⟩ = some (by8 (ofL P))) (d2 : w0.cell? ⟨gD, oD + i * 4 + 2, none⟩ = some (.int .u32 (crcL B : Nat))) (d3 : w0.cell? ⟨gD, oD + i * 4 + 3, none⟩ = some (.int .i64 (B.length : Nat))) (f0 : w0.cell? ⟨gF, oF + i * 2, none⟩ = some (by8 P)) (f1 : w0.cell? ⟨gF, oF + i * 2 + 1, none⟩ = some (.slice pB (B.length) cB)) (hp : P.length ≤ 1000000) (hl : B.length ≤ cB) (hm : cB ≤ 9223372036854775807) (hz : BL w0 pB B) (hrow : RowK w0 (some ⟨gD, oD, none⟩) 4 n (fun k => cellD (f k))) (hfind : findN P 0 (pathsN (fun k => (f k).P) n) = (i : Int))
    (x : Act) (w : World) (hB : Below w0.heap.size w0 w) (hdef : x.defers = df) (u0 : x.tmps.getD 0 undef = .slice (some ⟨gF, oF, none⟩) n cF) (u5 : x.tmps.getD 5 undef = .slice (some ⟨gD, oD, none⟩) n cD) (u11 : x.tmps.getD 11 undef = .int .i64 (i : Nat))
    (p24 : dbk16_val gD oD gF oF n cD cF i P pB B cB f 24 (x.tmps.getD 102 undef) w)
    : wpOpIn Fc nC Try.prog dbk16_ops Q 25 (fun a' w' => ∃ v, a' = x.put (some 103) v ∧ (v = .bool false) ∧ Below w.heap.size w w') x w := by
  have ho : dbk16_ops[25]? = some dbk16_o25 := rfl
  simp only [Array.getD_eq_getD_getElem?] at u0 u5 u11
  have q24 : x.tmps.getD 102 undef = .bool false := p24
  simp only [Array.getD_eq_getD_getElem?] at q24
  refine wpOpIn_plain ho rfl (oper_inK hF.fn (fun K hK => ?_))
  clear ho
  rw [Oper.semAt_plain Fc _ _ (by intro c h; cases h)]
  simp only [dbk16_o25]
  go_simp
  exact hK _ _ ⟨_, act_putD x hdef _ _, rfl, Below.refl _ _⟩
set_option maxRecDepth 100000 in
set_option maxHeartbeats 2000000 in
theorem dbk16_s26 {Fc : Fence} (hF : Wide Fc) {nC : Nat} (gD oD gF oF n cD cF i : Nat) (P : List UInt8) (pB : Option Addr) (B : List Nat) (cB : Nat) (f : Nat → DT) (Q : Exit → Act → World → Prop) (df : List Deferred) (w0 : World)
    (hi : i < n) (hn : n ≤ 4000) (d0 : w0.cell? ⟨gD, oD + i * 4, none⟩ = some (by8 P)) (d1 : w0.cell? ⟨gD, oD + i * 4 + 1, none⟩ = some (by8 (ofL P))) (d2 : w0.cell? ⟨gD, oD + i * 4 + 2, none⟩ = some (.int .u32 (crcL B : Nat))) (d3 : w0.cell? ⟨gD, oD + i * 4 + 3, none⟩ = some (.int .i64 (B.length : Nat))) (f0 : w0.cell? ⟨gF, oF + i * 2, none⟩ = some (by8 P)) (f1 : w0.cell? ⟨gF, oF + i * 2 + 1, none⟩ = some (.slice pB (B.length) cB)) (hp : P.length ≤ 1000000) (hl : B.length ≤ cB) (hm : cB ≤ 9223372036854775807) (hz : BL w0 pB B) (hrow : RowK w0 (some ⟨gD, oD, none⟩) 4 n (fun k => cellD (f k))) (hfind : findN P 0 (pathsN (fun k => (f k).P) n) = (i : Int))
    (x : Act) (w : World) (hB : Below w0.heap.size w0 w) (hdef : x.defers = df) (u0 : x.tmps.getD 0 undef = .slice (some ⟨gF, oF, none⟩) n cF) (u5 : x.tmps.getD 5 undef = .slice (some ⟨gD, oD, none⟩) n cD) (u11 : x.tmps.getD 11 undef = .int .i64 (i : Nat))
    (p25 : dbk16_val gD oD gF oF n cD cF i P pB B cB f 25 (x.tmps.getD 103 undef) w)
    : wpOpIn Fc nC Try.prog dbk16_ops Q 26 (fun a' w' => ∃ v, a' = x.put (some 104) v ∧ (v = .slice (some ⟨gD, oD, none⟩) n cD) ∧ Below w.heap.size w w') x w := by
  have ho : dbk16_ops[26]? = some dbk16_o26 := rfl
  simp only [Array.getD_eq_getD_getElem?] at u0 u5 u11
  have q25 : x.tmps.getD 103 undef = .bool false := p25
  simp only [Array.getD_eq_getD_getElem?] at q25
  have e25 : (dbk16_ops[25]?.bind fun x => x.dst) = some 103 := rfl
  have g25 := get_someT q25 (fun h => by cases h)
  refine wpOpIn_stepT hF ho (fun K hK => ?_)
  clear ho
  rw [Oper.semAt_plain Fc _ _ (by intro c h; cases h)]
  simp only [dbk16_o26]
  go_simp
  exact hK _ _ ⟨_, act_putD x hdef _ _, rfl, Below.refl _ _⟩
set_option maxRecDepth 100000 in
set_option maxHeartbeats 2000000 in
theorem dbk16_s27 {Fc : Fence} (hF : Wide Fc) {nC : Nat} (gD oD gF oF n cD cF i : Nat) (P : List UInt8) (pB : Option Addr) (B : List Nat) (cB : Nat) (f : Nat → DT) (Q : Exit → Act → World → Prop) (df : List Deferred) (w0 : World)
    (hi : i < n) (hn : n ≤ 4000) (d0 : w0.cell? ⟨gD, oD + i * 4, none⟩ = some (by8 P)) (d1 : w0.cell? ⟨gD, oD + i * 4 + 1, none⟩ = some (by8 (ofL P))) (d2 : w0.cell? ⟨gD, oD + i * 4 + 2, none⟩ = some (.int .u32 (crcL B : Nat))) (d3 : w0.cell? ⟨gD, oD + i * 4 + 3, none⟩ = some (.int .i64 (B.length : Nat))) (f0 : w0.cell? ⟨gF, oF + i * 2, none⟩ = some (by8 P)) (f1 : w0.cell? ⟨gF, oF + i * 2 + 1, none⟩ = some (.slice pB (B.length) cB)) (hp : P.length ≤ 1000000) (hl : B.length ≤ cB) (hm : cB ≤ 9223372036854775807) (hz : BL w0 pB B) (hrow : RowK w0 (some ⟨gD, oD, none⟩) 4 n (fun k => cellD (f k))) (hfind : findN P 0 (pathsN (fun k => (f k).P) n) = (i : Int))
    (x : Act) (w : World) (hB : Below w0.heap.size w0 w) (hdef : x.defers = df) (u0 : x.tmps.getD 0 undef = .slice (some ⟨gF, oF, none⟩) n cF) (u5 : x.tmps.getD 5 undef = .slice (some ⟨gD, oD, none⟩) n cD) (u11 : x.tmps.getD 11 undef = .int .i64 (i : Nat))
    (p25 : dbk16_val gD oD gF oF n cD cF i P pB B cB f 25 (x.tmps.getD 103 undef) w)
    : wpOpIn Fc nC Try.prog dbk16_ops Q 27 (fun a' w' => ∃ v, a' = x.put (some 105) v ∧ (v = .int .i64 (i : Nat)) ∧ Below w.heap.size w w') x w := by
  have ho : dbk16_ops[27]? = some dbk16_o27 := rfl
  simp only [Array.getD_eq_getD_getElem?] at u0 u5 u11
  have q25 : x.tmps.getD 103 undef = .bool false := p25
  simp only [Array.getD_eq_getD_getElem?] at q25
  have e25 : (dbk16_ops[25]?.bind fun x => x.dst) = some 103 := rfl
  have g25 := get_someT q25 (fun h => by cases h)
  refine wpOpIn_stepT hF ho (fun K hK => ?_)
  clear ho
  rw [Oper.semAt_plain Fc _ _ (by intro c h; cases h)]
  simp only [dbk16_o27]
  go_simp
  exact hK _ _ ⟨_, act_putD x hdef _ _, rfl, Below.refl _ _⟩
set_option maxRecDepth 100000 in
set_option maxHeartbeats 2000000 in
theorem dbk16_s28 {Fc : Fence} (hF : Wide Fc) {nC : Nat} (gD oD gF oF n cD cF i : Nat) (P : List UInt8) (pB : Option Addr) (B : List Nat) (cB : Nat) (f : Nat → DT) (Q : Exit → Act → World → Prop) (df : List Deferred) (w0 : World)
    (hi : i < n) (hn : n ≤ 4000) (d0 : w0.cell? ⟨gD, oD + i * 4, none⟩ = some (by8 P)) (d1 : w0.cell? ⟨gD, oD + i * 4 + 1, none⟩ = some (by8 (ofL P))) (d2 : w0.cell? ⟨gD, oD + i * 4 + 2, none⟩ = some (.int .u32 (crcL B : Nat))) (d3 : w0.cell? ⟨gD, oD + i * 4 + 3, none⟩ = some (.int .i64 (B.length : Nat))) (f0 : w0.cell? ⟨gF, oF + i * 2, none⟩ = some (by8 P)) (f1 : w0.cell? ⟨gF, oF + i * 2 + 1, none⟩ = some (.slice pB (B.length) cB)) (hp : P.length ≤ 1000000) (hl : B.length ≤ cB) (hm : cB ≤ 9223372036854775807) (hz : BL w0 pB B) (hrow : RowK w0 (some ⟨gD, oD, none⟩) 4 n (fun k => cellD (f k))) (hfind : findN P 0 (pathsN (fun k => (f k).P) n) = (i : Int))
    (x : Act) (w : World) (hB : Below w0.heap.size w0 w) (hdef : x.defers = df) (u0 : x.tmps.getD 0 undef = .slice (some ⟨gF, oF, none⟩) n cF) (u5 : x.tmps.getD 5 undef = .slice (some ⟨gD, oD, none⟩) n cD) (u11 : x.tmps.getD 11 undef = .int .i64 (i : Nat))
    (p26 : dbk16_val gD oD gF oF n cD cF i P pB B cB f 26 (x.tmps.getD 104 undef) w)
    (p27 : dbk16_val gD oD gF oF n cD cF i P pB B cB f 27 (x.tmps.getD 105 undef) w)
    (p25 : dbk16_val gD oD gF oF n cD cF i P pB B cB f 25 (x.tmps.getD 103 undef) w)
    : wpOpIn Fc nC Try.prog dbk16_ops Q 28 (fun a' w' => ∃ v, a' = x.put (some 106) v ∧ (v = .pointer (some ⟨gD, oD + i * 4, none⟩)) ∧ Below w.heap.size w w') x w := by
  have ho : dbk16_ops[28]? = some dbk16_o28 := rfl
  simp only [Array.getD_eq_getD_getElem?] at u0 u5 u11
  have q26 : x.tmps.getD 104 undef = .slice (some ⟨gD, oD, none⟩) n cD := p26
  have q27 : x.tmps.getD 105 undef = .int .i64 (i : Nat) := p27
  have q25 : x.tmps.getD 103 undef = .bool false := p25
  simp only [Array.getD_eq_getD_getElem?] at q26 q27 q25
  have e25 : (dbk16_ops[25]?.bind fun x => x.dst) = some 103 := rfl
  have g25 := get_someT q25 (fun h => by cases h)
  have i0 : (0 : Int) ≤ (i : Int) := by omega
  have i1 : (i : Int) < (n : Int) := by omega
  refine wpOpIn_stepT hF ho (fun K hK => ?_)
  clear ho
  rw [Oper.semAt_plain Fc _ _ (by intro c h; cases h)]
  simp only [dbk16_o28]
  go_simp
  exact hK _ _ ⟨_, act_putD x hdef _ _, rfl, Below.refl _ _⟩
set_option maxRecDepth 100000 in
set_option maxHeartbeats 2000000 in
theorem dbk16_s29 {Fc : Fence} (hF : Wide Fc) {nC : Nat} (gD oD gF oF n cD cF i : Nat) (P : List UInt8) (pB : Option Addr) (B : List Nat) (cB : Nat) (f : Nat → DT) (Q : Exit → Act → World → Prop) (df : List Deferred) (w0 : World)
    (hi : i < n) (hn : n ≤ 4000) (d0 : w0.cell? ⟨gD, oD + i * 4, none⟩ = some (by8 P)) (d1 : w0.cell? ⟨gD, oD + i * 4 + 1, none⟩ = some (by8 (ofL P))) (d2 : w0.cell? ⟨gD, oD + i * 4 + 2, none⟩ = some (.int .u32 (crcL B : Nat))) (d3 : w0.cell? ⟨gD, oD + i * 4 + 3, none⟩ = some (.int .i64 (B.length : Nat))) (f0 : w0.cell? ⟨gF, oF + i * 2, none⟩ = some (by8 P)) (f1 : w0.cell? ⟨gF, oF + i * 2 + 1, none⟩ = some (.slice pB (B.length) cB)) (hp : P.length ≤ 1000000) (hl : B.length ≤ cB) (hm : cB ≤ 9223372036854775807) (hz : BL w0 pB B) (hrow : RowK w0 (some ⟨gD, oD, none⟩) 4 n (fun k => cellD (f k))) (hfind : findN P 0 (pathsN (fun k => (f k).P) n) = (i : Int))
    (x : Act) (w : World) (hB : Below w0.heap.size w0 w) (hdef : x.defers = df) (u0 : x.tmps.getD 0 undef = .slice (some ⟨gF, oF, none⟩) n cF) (u5 : x.tmps.getD 5 undef = .slice (some ⟨gD, oD, none⟩) n cD) (u11 : x.tmps.getD 11 undef = .int .i64 (i : Nat))
    (p28 : dbk16_val gD oD gF oF n cD cF i P pB B cB f 28 (x.tmps.getD 106 undef) w)
    (p25 : dbk16_val gD oD gF oF n cD cF i P pB B cB f 25 (x.tmps.getD 103 undef) w)
    : wpOpIn Fc nC Try.prog dbk16_ops Q 29 (fun a' w' => ∃ v, a' = x.put (some 107) v ∧ (v = .pointer (some ⟨gD, oD + i * 4 + 3, none⟩)) ∧ Below w.heap.size w w') x w := by
  have ho : dbk16_ops[29]? = some dbk16_o29 := rfl
  simp only [Array.getD_eq_getD_getElem?] at u0 u5 u11
  have q28 : x.tmps.getD 106 undef = .pointer (some ⟨gD, oD + i * 4, none⟩) := p28
  have q25 : x.tmps.getD 103 undef = .bool false := p25
  simp only [Array.getD_eq_getD_getElem?] at q28 q25
  have e25 : (dbk16_ops[25]?.bind fun x => x.dst) = some 103 := rfl
  have g25 := get_someT q25 (fun h => by cases h)
  refine wpOpIn_stepT hF ho (fun K hK => ?_)
  clear ho
  rw [Oper.semAt_plain Fc _ _ (by intro c h; cases h)]
  simp only [dbk16_o29]
  go_simp
  exact hK _ _ ⟨_, act_putD x hdef _ _, rfl, Below.refl _ _⟩
set_option maxRecDepth 100000 in
set_option maxHeartbeats 2000000 in
theorem dbk16_s30 {Fc : Fence} (hF : Wide Fc) {nC : Nat} (gD oD gF oF n cD cF i : Nat) (P : List UInt8) (pB : Option Addr) (B : List Nat) (cB : Nat) (f : Nat → DT) (Q : Exit → Act → World → Prop) (df : List Deferred) (w0 : World)
    (hi : i < n) (hn : n ≤ 4000) (d0 : w0.cell? ⟨gD, oD + i * 4, none⟩ = some (by8 P)) (d1 : w0.cell? ⟨gD, oD + i * 4 + 1, none⟩ = some (by8 (ofL P))) (d2 : w0.cell? ⟨gD, oD + i * 4 + 2, none⟩ = some (.int .u32 (crcL B : Nat))) (d3 : w0.cell? ⟨gD, oD + i * 4 + 3, none⟩ = some (.int .i64 (B.length : Nat))) (f0 : w0.cell? ⟨gF, oF + i * 2, none⟩ = some (by8 P)) (f1 : w0.cell? ⟨gF, oF + i * 2 + 1, none⟩ = some (.slice pB (B.length) cB)) (hp : P.length ≤ 1000000) (hl : B.length ≤ cB) (hm : cB ≤ 9223372036854775807) (hz : BL w0 pB B) (hrow : RowK w0 (some ⟨gD, oD, none⟩) 4 n (fun k => cellD (f k))) (hfind : findN P 0 (pathsN (fun k => (f k).P) n) = (i : Int))
    (x : Act) (w : World) (hB : Below w0.heap.size w0 w) (hdef : x.defers = df) (u0 : x.tmps.getD 0 undef = .slice (some ⟨gF, oF, none⟩) n cF) (u5 : x.tmps.getD 5 undef = .slice (some ⟨gD, oD, none⟩) n cD) (u11 : x.tmps.getD 11 undef = .int .i64 (i : Nat))
    (p29 : dbk16_val gD oD gF oF n cD cF i P pB B cB f 29 (x.tmps.getD 107 undef) w)
    (p25 : dbk16_val gD oD gF oF n cD cF i P pB B cB f 25 (x.tmps.getD 103 undef) w)
    : wpOpIn Fc nC Try.prog dbk16_ops Q 30 (fun a' w' => ∃ v, a' = x.put (some 108) v ∧ (v = .int .i64 (B.length : Nat)) ∧ Below w.heap.size w w') x w := by
  have ho : dbk16_ops[30]? = some dbk16_o30 := rfl
  simp only [Array.getD_eq_getD_getElem?] at u0 u5 u11
  have q29 : x.tmps.getD 107 undef = .pointer (some ⟨gD, oD + i * 4 + 3, none⟩) := p29
  have q25 : x.tmps.getD 103 undef = .bool false := p25
  simp only [Array.getD_eq_getD_getElem?] at q29 q25
  have e25 : (dbk16_ops[25]?.bind fun x => x.dst) = some 103 := rfl
  have g25 := get_someT q25 (fun h => by cases h)
  have m := cell_thru d3 hB
  refine wpOpIn_stepT hF ho (fun K hK => ?_)
  clear ho
  rw [Oper.semAt_plain Fc _ _ (by intro c h; cases h)]
  simp only [dbk16_o30]
  go_simp
  exact hK _ _ ⟨_, act_putD x hdef _ _, rfl, Below.refl _ _⟩
set_option maxRecDepth 100000 in
set_option maxHeartbeats 2000000 in
theorem dbk16_s31 {Fc : Fence} (hF : Wide Fc) {nC : Nat} (gD oD gF oF n cD cF i : Nat) (P : List UInt8) (pB : Option Addr) (B : List Nat) (cB : Nat) (f : Nat → DT) (Q : Exit → Act → World → Prop) (df : List Deferred) (w0 : World)
    (hi : i < n) (hn : n ≤ 4000) (d0 : w0.cell? ⟨gD, oD + i * 4, none⟩ = some (by8 P)) (d1 : w0.cell? ⟨gD, oD + i * 4 + 1, none⟩ = some (by8 (ofL P))) (d2 : w0.cell? ⟨gD, oD + i * 4 + 2, none⟩ = some (.int .u32 (crcL B : Nat))) (d3 : w0.cell? ⟨gD, oD + i * 4 + 3, none⟩ = some (.int .i64 (B.length : Nat))) (f0 : w0.cell? ⟨gF, oF + i * 2, none⟩ = some (by8 P)) (f1 : w0.cell? ⟨gF, oF + i * 2 + 1, none⟩ = some (.slice pB (B.length) cB)) (hp : P.length ≤ 1000000) (hl : B.length ≤ cB) (hm : cB ≤ 9223372036854775807) (hz : BL w0 pB B) (hrow : RowK w0 (some ⟨gD, oD, none⟩) 4 n (fun k => cellD (f k))) (hfind : findN P 0 (pathsN (fun k => (f k).P) n) = (i : Int))
    (x : Act) (w : World) (hB : Below w0.heap.size w0 w) (hdef : x.defers = df) (u0 : x.tmps.getD 0 undef = .slice (some ⟨gF, oF, none⟩) n cF) (u5 : x.tmps.getD 5 undef = .slice (some ⟨gD, oD, none⟩) n cD) (u11 : x.tmps.getD 11 undef = .int .i64 (i : Nat))
    (p25 : dbk16_val gD oD gF oF n cD cF i P pB B cB f 25 (x.tmps.getD 103 undef) w)
    : wpOpIn Fc nC Try.prog dbk16_ops Q 31 (fun a' w' => ∃ v, a' = x.put (some 109) v ∧ (v = .slice (some ⟨gF, oF, none⟩) n cF) ∧ Below w.heap.size w w') x w := by
  have ho : dbk16_ops[31]? = some dbk16_o31 := rfl
  simp only [Array.getD_eq_getD_getElem?] at u0 u5 u11
  have q25 : x.tmps.getD 103 undef = .bool false := p25
  simp only [Array.getD_eq_getD_getElem?] at q25
  have e25 : (dbk16_ops[25]?.bind fun x => x.dst) = some 103 := rfl
  have g25 := get_someT q25 (fun h => by cases h)
  refine wpOpIn_stepT hF ho (fun K hK => ?_)
  clear ho
  rw [Oper.semAt_plain Fc _ _ (by intro c h; cases h)]
  simp only [dbk16_o31]
  go_simp
  exact hK _ _ ⟨_, act_putD x hdef _ _, rfl, Below.refl _ _⟩
set_option maxRecDepth 100000 in
set_option maxHeartbeats 2000000 in
theorem dbk16_s32 {Fc : Fence} (hF : Wide Fc) {nC : Nat} (gD oD gF oF n cD cF i : Nat) (P : List UInt8) (pB : Option Addr) (B : List Nat) (cB : Nat) (f : Nat → DT) (Q : Exit → Act → World → Prop) (df : List Deferred) (w0 : World)
    (hi : i < n) (hn : n ≤ 4000) (d0 : w0.cell? ⟨gD, oD + i * 4, none⟩ = some (by8 P)) (d1 : w0.cell? ⟨gD, oD + i * 4 + 1, none⟩ = some (by8 (ofL P))) (d2 : w0.cell? ⟨gD, oD + i * 4 + 2, none⟩ = some (.int .u32 (crcL B : Nat))) (d3 : w0.cell? ⟨gD, oD + i * 4 + 3, none⟩ = some (.int .i64 (B.length : Nat))) (f0 : w0.cell? ⟨gF, oF + i * 2, none⟩ = some (by8 P)) (f1 : w0.cell? ⟨gF, oF + i * 2 + 1, none⟩ = some (.slice pB (B.length) cB)) (hp : P.length ≤ 1000000) (hl : B.length ≤ cB) (hm : cB ≤ 9223372036854775807) (hz : BL w0 pB B) (hrow : RowK w0 (some ⟨gD, oD, none⟩) 4 n (fun k => cellD (f k))) (hfind : findN P 0 (pathsN (fun k => (f k).P) n) = (i : Int))
    (x : Act) (w : World) (hB : Below w0.heap.size w0 w) (hdef : x.defers = df) (u0 : x.tmps.getD 0 undef = .slice (some ⟨gF, oF, none⟩) n cF) (u5 : x.tmps.getD 5 undef = .slice (some ⟨gD, oD, none⟩) n cD) (u11 : x.tmps.getD 11 undef = .int .i64 (i : Nat))
    (p25 : dbk16_val gD oD gF oF n cD cF i P pB B cB f 25 (x.tmps.getD 103 undef) w)
    : wpOpIn Fc nC Try.prog dbk16_ops Q 32 (fun a' w' => ∃ v, a' = x.put (some 110) v ∧ (v = .int .i64 (i : Nat)) ∧ Below w.heap.size w w') x w := by
  have ho : dbk16_ops[32]? = some dbk16_o32 := rfl
  simp only [Array.getD_eq_getD_getElem?] at u0 u5 u11
  have q25 : x.tmps.getD 103 undef = .bool false := p25
  simp only [Array.getD_eq_getD_getElem?] at q25
  have e25 : (dbk16_ops[25]?.bind fun x => x.dst) = some 103 := rfl
  have g25 := get_someT q25 (fun h => by cases h)
  refine wpOpIn_stepT hF ho (fun K hK => ?_)
  clear ho
  rw [Oper.semAt_plain Fc _ _ (by intro c h; cases h)]
  simp only [dbk16_o32]
  go_simp
  exact hK _ _ ⟨_, act_putD x hdef _ _, rfl, Below.refl _ _⟩
set_option maxRecDepth 100000 in
set_option maxHeartbeats 2000000 in
theorem dbk16_s33 {Fc : Fence} (hF : Wide Fc) {nC : Nat} (gD oD gF oF n cD cF i : Nat) (P : List UInt8) (pB : Option Addr) (B : List Nat) (cB : Nat) (f : Nat → DT) (Q : Exit → Act → World → Prop) (df : List Deferred) (w0 : World)
    (hi : i < n) (hn : n ≤ 4000) (d0 : w0.cell? ⟨gD, oD + i * 4, none⟩ = some (by8 P)) (d1 : w0.cell? ⟨gD, oD + i * 4 + 1, none⟩ = some (by8 (ofL P))) (d2 : w0.cell? ⟨gD, oD + i * 4 + 2, none⟩ = some (.int .u32 (crcL B : Nat))) (d3 : w0.cell? ⟨gD, oD + i * 4 + 3, none⟩ = some (.int .i64 (B.length : Nat))) (f0 : w0.cell? ⟨gF, oF + i * 2, none⟩ = some (by8 P)) (f1 : w0.cell? ⟨gF, oF + i * 2 + 1, none⟩ = some (.slice pB (B.length) cB)) (hp : P.length ≤ 1000000) (hl : B.length ≤ cB) (hm : cB ≤ 9223372036854775807) (hz : BL w0 pB B) (hrow : RowK w0 (some ⟨gD, oD, none⟩) 4 n (fun k => cellD (f k))) (hfind : findN P 0 (pathsN (fun k => (f k).P) n) = (i : Int))
    (x : Act) (w : World) (hB : Below w0.heap.size w0 w) (hdef : x.defers = df) (u0 : x.tmps.getD 0 undef = .slice (some ⟨gF, oF, none⟩) n cF) (u5 : x.tmps.getD 5 undef = .slice (some ⟨gD, oD, none⟩) n cD) (u11 : x.tmps.getD 11 undef = .int .i64 (i : Nat))
    (p31 : dbk16_val gD oD gF oF n cD cF i P pB B cB f 31 (x.tmps.getD 109 undef) w)
    (p32 : dbk16_val gD oD gF oF n cD cF i P pB B cB f 32 (x.tmps.getD 110 undef) w)
    (p25 : dbk16_val gD oD gF oF n cD cF i P pB B cB f 25 (x.tmps.getD 103 undef) w)
    : wpOpIn Fc nC Try.prog dbk16_ops Q 33 (fun a' w' => ∃ v, a' = x.put (some 111) v ∧ (v = .pointer (some ⟨gF, oF + i * 2, none⟩)) ∧ Below w.heap.size w w') x w := by
  have ho : dbk16_ops[33]? = some dbk16_o33 := rfl
  simp only [Array.getD_eq_getD_getElem?] at u0 u5 u11
  have q31 : x.tmps.getD 109 undef = .slice (some ⟨gF, oF, none⟩) n cF := p31
  have q32 : x.tmps.getD 110 undef = .int .i64 (i : Nat) := p32
  have q25 : x.tmps.getD 103 undef = .bool false := p25
  simp only [Array.getD_eq_getD_getElem?] at q31 q32 q25
  have e25 : (dbk16_ops[25]?.bind fun x => x.dst) = some 103 := rfl
  have g25 := get_someT q25 (fun h => by cases h)
  have i0 : (0 : Int) ≤ (i : Int) := by omega
  have i1 : (i : Int) < (n : Int) := by omega
  refine wpOpIn_stepT hF ho (fun K hK => ?_)
  clear ho
  rw [Oper.semAt_plain Fc _ _ (by intro c h; cases h)]
  simp only [dbk16_o33]
  go_simp
  exact hK _ _ ⟨_, act_putD x hdef _ _, rfl, Below.refl _ _⟩
set_option maxRecDepth 100000 in
set_option maxHeartbeats 2000000 in
theorem dbk16_s34 {Fc : Fence} (hF : Wide Fc) {nC : Nat} (gD oD gF oF n cD cF i : Nat) (P : List UInt8) (pB : Option Addr) (B : List Nat) (cB : Nat) (f : Nat → DT) (Q : Exit → Act → World → Prop) (df : List Deferred) (w0 : World)
    (hi : i < n) (hn : n ≤ 4000) (d0 : w0.cell? ⟨gD, oD + i * 4, none⟩ = some (by8 P)) (d1 : w0.cell? ⟨gD, oD + i * 4 + 1, none⟩ = some (by8 (ofL P))) (d2 : w0.cell? ⟨gD, oD + i * 4 + 2, none⟩ = some (.int .u32 (crcL B : Nat))) (d3 : w0.cell? ⟨gD, oD + i * 4 + 3, none⟩ = some (.int .i64 (B.length : Nat))) (f0 : w0.cell? ⟨gF, oF + i * 2, none⟩ = some (by8 P)) (f1 : w0.cell? ⟨gF, oF + i * 2 + 1, none⟩ = some (.slice pB (B.length) cB)) (hp : P.length ≤ 1000000) (hl : B.length ≤ cB) (hm : cB ≤ 9223372036854775807) (hz : BL w0 pB B) (hrow : RowK w0 (some ⟨gD, oD, none⟩) 4 n (fun k => cellD (f k))) (hfind : findN P 0 (pathsN (fun k => (f k).P) n) = (i : Int))
    (x : Act) (w : World) (hB : Below w0.heap.size w0 w) (hdef : x.defers = df) (u0 : x.tmps.getD 0 undef = .slice (some ⟨gF, oF, none⟩) n cF) (u5 : x.tmps.getD 5 undef = .slice (some ⟨gD, oD, none⟩) n cD) (u11 : x.tmps.getD 11 undef = .int .i64 (i : Nat))
    (p33 : dbk16_val gD oD gF oF n cD cF i P pB B cB f 33 (x.tmps.getD 111 undef) w)
    (p25 : dbk16_val gD oD gF oF n cD cF i P pB B cB f 25 (x.tmps.getD 103 undef) w)
    : wpOpIn Fc nC Try.prog dbk16_ops Q 34 (fun a' w' => ∃ v, a' = x.put (some 112) v ∧ (v = .pointer (some ⟨gF, oF + i * 2 + 1, none⟩)) ∧ Below w.heap.size w w') x w := by
  have ho : dbk16_ops[34]? = some dbk16_o34 := rfl
  simp only [Array.getD_eq_getD_getElem?] at u0 u5 u11
  have q33 : x.tmps.getD 111 undef = .pointer (some ⟨gF, oF + i * 2, none⟩) := p33
  have q25 : x.tmps.getD 103 undef = .bool false := p25
  simp only [Array.getD_eq_getD_getElem?] at q33 q25
  have e25 : (dbk16_ops[25]?.bind fun x => x.dst) = some 103 := rfl
  have g25 := get_someT q25 (fun h => by cases h)
  refine wpOpIn_stepT hF ho (fun K hK => ?_)
  clear ho
  rw [Oper.semAt_plain Fc _ _ (by intro c h; cases h)]
  simp only [dbk16_o34]
  go_simp
  exact hK _ _ ⟨_, act_putD x hdef _ _, rfl, Below.refl _ _⟩
set_option maxRecDepth 100000 in
set_option maxHeartbeats 2000000 in
theorem dbk16_s35 {Fc : Fence} (hF : Wide Fc) {nC : Nat} (gD oD gF oF n cD cF i : Nat) (P : List UInt8) (pB : Option Addr) (B : List Nat) (cB : Nat) (f : Nat → DT) (Q : Exit → Act → World → Prop) (df : List Deferred) (w0 : World)
    (hi : i < n) (hn : n ≤ 4000) (d0 : w0.cell? ⟨gD, oD + i * 4, none⟩ = some (by8 P)) (d1 : w0.cell? ⟨gD, oD + i * 4 + 1, none⟩ = some (by8 (ofL P))) (d2 : w0.cell? ⟨gD, oD + i * 4 + 2, none⟩ = some (.int .u32 (crcL B : Nat))) (d3 : w0.cell? ⟨gD, oD + i * 4 + 3, none⟩ = some (.int .i64 (B.length : Nat))) (f0 : w0.cell? ⟨gF, oF + i * 2, none⟩ = some (by8 P)) (f1 : w0.cell? ⟨gF, oF + i * 2 + 1, none⟩ = some (.slice pB (B.length) cB)) (hp : P.length ≤ 1000000) (hl : B.length ≤ cB) (hm : cB ≤ 9223372036854775807) (hz : BL w0 pB B) (hrow : RowK w0 (some ⟨gD, oD, none⟩) 4 n (fun k => cellD (f k))) (hfind : findN P 0 (pathsN (fun k => (f k).P) n) = (i : Int))
    (x : Act) (w : World) (hB : Below w0.heap.size w0 w) (hdef : x.defers = df) (u0 : x.tmps.getD 0 undef = .slice (some ⟨gF, oF, none⟩) n cF) (u5 : x.tmps.getD 5 undef = .slice (some ⟨gD, oD, none⟩) n cD) (u11 : x.tmps.getD 11 undef = .int .i64 (i : Nat))
    (p34 : dbk16_val gD oD gF oF n cD cF i P pB B cB f 34 (x.tmps.getD 112 undef) w)
    (p25 : dbk16_val gD oD gF oF n cD cF i P pB B cB f 25 (x.tmps.getD 103 undef) w)
    : wpOpIn Fc nC Try.prog dbk16_ops Q 35 (fun a' w' => ∃ v, a' = x.put (some 113) v ∧ (v = .slice pB (B.length) cB) ∧ Below w.heap.size w w') x w := by
  have ho : dbk16_ops[35]? = some dbk16_o35 := rfl
  simp only [Array.getD_eq_getD_getElem?] at u0 u5 u11
  have q34 : x.tmps.getD 112 undef = .pointer (some ⟨gF, oF + i * 2 + 1, none⟩) := p34
  have q25 : x.tmps.getD 103 undef = .bool false := p25
  simp only [Array.getD_eq_getD_getElem?] at q34 q25
  have e25 : (dbk16_ops[25]?.bind fun x => x.dst) = some 103 := rfl
  have g25 := get_someT q25 (fun h => by cases h)
  have m := cell_thru f1 hB
  refine wpOpIn_stepT hF ho (fun K hK => ?_)
  clear ho
  rw [Oper.semAt_plain Fc _ _ (by intro c h; cases h)]
  simp only [dbk16_o35]
  go_simp
  exact hK _ _ ⟨_, act_putD x hdef _ _, rfl, Below.refl _ _⟩
set_option maxRecDepth 100000 in
set_option maxHeartbeats 2000000 in
theorem dbk16_s36 {Fc : Fence} (hF : Wide Fc) {nC : Nat} (gD oD gF oF n cD cF i : Nat) (P : List UInt8) (pB : Option Addr) (B : List Nat) (cB : Nat) (f : Nat → DT) (Q : Exit → Act → World → Prop) (df : List Deferred) (w0 : World)
    (hi : i < n) (hn : n ≤ 4000) (d0 : w0.cell? ⟨gD, oD + i * 4, none⟩ = some (by8 P)) (d1 : w0.cell? ⟨gD, oD + i * 4 + 1, none⟩ = some (by8 (ofL P))) (d2 : w0.cell? ⟨gD, oD + i * 4 + 2, none⟩ = some (.int .u32 (crcL B : Nat))) (d3 : w0.cell? ⟨gD, oD + i * 4 + 3, none⟩ = some (.int .i64 (B.length : Nat))) (f0 : w0.cell? ⟨gF, oF + i * 2, none⟩ = some (by8 P)) (f1 : w0.cell? ⟨gF, oF + i * 2 + 1, none⟩ = some (.slice pB (B.length) cB)) (hp : P.length ≤ 1000000) (hl : B.length ≤ cB) (hm : cB ≤ 9223372036854775807) (hz : BL w0 pB B) (hrow : RowK w0 (some ⟨gD, oD, none⟩) 4 n (fun k => cellD (f k))) (hfind : findN P 0 (pathsN (fun k => (f k).P) n) = (i : Int))
    (x : Act) (w : World) (hB : Below w0.heap.size w0 w) (hdef : x.defers = df) (u0 : x.tmps.getD 0 undef = .slice (some ⟨gF, oF, none⟩) n cF) (u5 : x.tmps.getD 5 undef = .slice (some ⟨gD, oD, none⟩) n cD) (u11 : x.tmps.getD 11 undef = .int .i64 (i : Nat))
    (p35 : dbk16_val gD oD gF oF n cD cF i P pB B cB f 35 (x.tmps.getD 113 undef) w)
    (p25 : dbk16_val gD oD gF oF n cD cF i P pB B cB f 25 (x.tmps.getD 103 undef) w)
    : wpOpIn Fc nC Try.prog dbk16_ops Q 36 (fun a' w' => ∃ v, a' = x.put (some 114) v ∧ (v = .int .i64 ((B.length) : Nat)) ∧ Below w.heap.size w w') x w := by
  have ho : dbk16_ops[36]? = some dbk16_o36 := rfl
  simp only [Array.getD_eq_getD_getElem?] at u0 u5 u11
  have q35 : x.tmps.getD 113 undef = .slice pB (B.length) cB := p35
  have q25 : x.tmps.getD 103 undef = .bool false := p25
  simp only [Array.getD_eq_getD_getElem?] at q35 q25
  have e25 : (dbk16_ops[25]?.bind fun x => x.dst) = some 103 := rfl
  have g25 := get_someT q25 (fun h => by cases h)
  refine wpOpIn_stepT hF ho (fun K hK => ?_)
  clear ho
  rw [Oper.semAt_plain Fc _ _ (by intro c h; cases h)]
  simp only [dbk16_o36]
  go_simp
  exact hK _ _ ⟨_, act_putD x hdef _ _, rfl, Below.refl _ _⟩
set_option maxRecDepth 100000 in
set_option maxHeartbeats 2000000 in
theorem dbk16_s37 {Fc : Fence} (hF : Wide Fc) {nC : Nat} (gD oD gF oF n cD cF i : Nat) (P : List UInt8) (pB : Option Addr) (B : List Nat) (cB : Nat) (f : Nat → DT) (Q : Exit → Act → World → Prop) (df : List Deferred) (w0 : World)
    (hi : i < n) (hn : n ≤ 4000) (d0 : w0.cell? ⟨gD, oD + i * 4, none⟩ = some (by8 P)) (d1 : w0.cell? ⟨gD, oD + i * 4 + 1, none⟩ = some (by8 (ofL P))) (d2 : w0.cell? ⟨gD, oD + i * 4 + 2, none⟩ = some (.int .u32 (crcL B : Nat))) (d3 : w0.cell? ⟨gD, oD + i * 4 + 3, none⟩ = some (.int .i64 (B.length : Nat))) (f0 : w0.cell? ⟨gF, oF + i * 2, none⟩ = some (by8 P)) (f1 : w0.cell? ⟨gF, oF + i * 2 + 1, none⟩ = some (.slice pB (B.length) cB)) (hp : P.length ≤ 1000000) (hl : B.length ≤ cB) (hm : cB ≤ 9223372036854775807) (hz : BL w0 pB B) (hrow : RowK w0 (some ⟨gD, oD, none⟩) 4 n (fun k => cellD (f k))) (hfind : findN P 0 (pathsN (fun k => (f k).P) n) = (i : Int))
    (x : Act) (w : World) (hB : Below w0.heap.size w0 w) (hdef : x.defers = df) (u0 : x.tmps.getD 0 undef = .slice (some ⟨gF, oF, none⟩) n cF) (u5 : x.tmps.getD 5 undef = .slice (some ⟨gD, oD, none⟩) n cD) (u11 : x.tmps.getD 11 undef = .int .i64 (i : Nat))
    (p30 : dbk16_val gD oD gF oF n cD cF i P pB B cB f 30 (x.tmps.getD 108 undef) w)
    (p36 : dbk16_val gD oD gF oF n cD cF i P pB B cB f 36 (x.tmps.getD 114 undef) w)
    (p25 : dbk16_val gD oD gF oF n cD cF i P pB B cB f 25 (x.tmps.getD 103 undef) w)
    : wpOpIn Fc nC Try.prog dbk16_ops Q 37 (fun a' w' => ∃ v, a' = x.put (some 115) v ∧ (v = .bool false) ∧ Below w.heap.size w w') x w := by
  have ho : dbk16_ops[37]? = some dbk16_o37 := rfl
  simp only [Array.getD_eq_getD_getElem?] at u0 u5 u11
  have q30 : x.tmps.getD 108 undef = .int .i64 (B.length : Nat) := p30
  have q36 : x.tmps.getD 114 undef = .int .i64 ((B.length) : Nat) := p36
  have q25 : x.tmps.getD 103 undef = .bool false := p25
  simp only [Array.getD_eq_getD_getElem?] at q30 q36 q25
  have e25 : (dbk16_ops[25]?.bind fun x => x.dst) = some 103 := rfl
  have g25 := get_someT q25 (fun h => by cases h)
  refine wpOpIn_stepT hF ho (fun K hK => ?_)
  clear ho
  rw [Oper.semAt_plain Fc _ _ (by intro c h; cases h)]
  simp only [dbk16_o37]
  go_simp
  exact hK _ _ ⟨_, act_putD x hdef _ _, rfl, Below.refl _ _⟩
set_option maxRecDepth 100000 in
set_option maxHeartbeats 2000000 in
theorem dbk16_s38 {Fc : Fence} (hF : Wide Fc) {nC : Nat} (gD oD gF oF n cD cF i : Nat) (P : List UInt8) (pB : Option Addr) (B : List Nat) (cB : Nat) (f : Nat → DT) (Q : Exit → Act → World → Prop) (df : List Deferred) (w0 : World)
    (hi : i < n) (hn : n ≤ 4000) (d0 : w0.cell? ⟨gD, oD + i * 4, none⟩ = some (by8 P)) (d1 : w0.cell? ⟨gD, oD + i * 4 + 1, none⟩ = some (by8 (ofL P))) (d2 : w0.cell? ⟨gD, oD + i * 4 + 2, none⟩ = some (.int .u32 (crcL B : Nat))) (d3 : w0.cell? ⟨gD, oD + i * 4 + 3, none⟩ = some (.int .i64 (B.length : Nat))) (f0 : w0.cell? ⟨gF, oF + i * 2, none⟩ = some (by8 P)) (f1 : w0.cell? ⟨gF, oF + i * 2 + 1, none⟩ = some (.slice pB (B.length) cB)) (hp : P.length ≤ 1000000) (hl : B.length ≤ cB) (hm : cB ≤ 9223372036854775807) (hz : BL w0 pB B) (hrow : RowK w0 (some ⟨gD, oD, none⟩) 4 n (fun k => cellD (f k))) (hfind : findN P 0 (pathsN (fun k => (f k).P) n) = (i : Int))
    (x : Act) (w : World) (hB : Below w0.heap.size w0 w) (hdef : x.defers = df) (u0 : x.tmps.getD 0 undef = .slice (some ⟨gF, oF, none⟩) n cF) (u5 : x.tmps.getD 5 undef = .slice (some ⟨gD, oD, none⟩) n cD) (u11 : x.tmps.getD 11 undef = .int .i64 (i : Nat))
    (p25 : dbk16_val gD oD gF oF n cD cF i P pB B cB f 25 (x.tmps.getD 103 undef) w)
    (p37 : dbk16_val gD oD gF oF n cD cF i P pB B cB f 37 (x.tmps.getD 115 undef) w)
    : wpOpIn Fc nC Try.prog dbk16_ops Q 38 (fun a' w' => ∃ v, a' = x.put (some 116) v ∧ (v = .bool false) ∧ Below w.heap.size w w') x w := by
  have ho : dbk16_ops[38]? = some dbk16_o38 := rfl
  simp only [Array.getD_eq_getD_getElem?] at u0 u5 u11
  have q25 : x.tmps.getD 103 undef = .bool false := p25
  have q37 : x.tmps.getD 115 undef = .bool false := p37
  simp only [Array.getD_eq_getD_getElem?] at q25 q37
  refine wpOpIn_plain ho rfl (oper_inK hF.fn (fun K hK => ?_))
  clear ho
  rw [Oper.semAt_plain Fc _ _ (by intro c h; cases h)]
  simp only [dbk16_o38]
  go_simp
  exact hK _ _ ⟨_, act_putD x hdef _ _, rfl, Below.refl _ _⟩
set_option maxRecDepth 100000 in
set_option maxHeartbeats 2000000 in
theorem dbk16_s39 {Fc : Fence} (hF : Wide Fc) {nC : Nat} (gD oD gF oF n cD cF i : Nat) (P : List UInt8) (pB : Option Addr) (B : List Nat) (cB : Nat) (f : Nat → DT) (Q : Exit → Act → World → Prop) (df : List Deferred) (w0 : World)
    (hi : i < n) (hn : n ≤ 4000) (d0 : w0.cell? ⟨gD, oD + i * 4, none⟩ = some (by8 P)) (d1 : w0.cell? ⟨gD, oD + i * 4 + 1, none⟩ = some (by8 (ofL P))) (d2 : w0.cell? ⟨gD, oD + i * 4 + 2, none⟩ = some (.int .u32 (crcL B : Nat))) (d3 : w0.cell? ⟨gD, oD + i * 4 + 3, none⟩ = some (.int .i64 (B.length : Nat))) (f0 : w0.cell? ⟨gF, oF + i * 2, none⟩ = some (by8 P)) (f1 : w0.cell? ⟨gF, oF + i * 2 + 1, none⟩ = some (.slice pB (B.length) cB)) (hp : P.length ≤ 1000000) (hl : B.length ≤ cB) (hm : cB ≤ 9223372036854775807) (hz : BL w0 pB B) (hrow : RowK w0 (some ⟨gD, oD, none⟩) 4 n (fun k => cellD (f k))) (hfind : findN P 0 (pathsN (fun k => (f k).P) n) = (i : Int))
    (x : Act) (w : World) (hB : Below w0.heap.size w0 w) (hdef : x.defers = df) (u0 : x.tmps.getD 0 undef = .slice (some ⟨gF, oF, none⟩) n cF) (u5 : x.tmps.getD 5 undef = .slice (some ⟨gD, oD, none⟩) n cD) (u11 : x.tmps.getD 11 undef = .int .i64 (i : Nat))
    (p38 : dbk16_val gD oD gF oF n cD cF i P pB B cB f 38 (x.tmps.getD 116 undef) w)
    : wpOpIn Fc nC Try.prog dbk16_ops Q 39 (fun a' w' => ∃ v, a' = x.put (some 117) v ∧ (v = .bool false) ∧ Below w.heap.size w w') x w := by
  have ho : dbk16_ops[39]? = some dbk16_o39 := rfl
  simp only [Array.getD_eq_getD_getElem?] at u0 u5 u11
  have q38 : x.tmps.getD 116 undef = .bool false := p38
  simp only [Array.getD_eq_getD_getElem?] at q38
  refine wpOpIn_plain ho rfl (oper_inK hF.fn (fun K hK => ?_))
  clear ho
  rw [Oper.semAt_plain Fc _ _ (by intro c h; cases h)]
  simp only [dbk16_o39]
  go_simp
  exact hK _ _ ⟨_, act_putD x hdef _ _, rfl, Below.refl _ _⟩
set_option maxRecDepth 100000 in
set_option maxHeartbeats 2000000 in
theorem dbk16_s40 {Fc : Fence} (hF : Wide Fc) {nC : Nat} (gD oD gF oF n cD cF i : Nat) (P : List UInt8) (pB : Option Addr) (B : List Nat) (cB : Nat) (f : Nat → DT) (Q : Exit → Act → World → Prop) (df : List Deferred) (w0 : World)
    (hi : i < n) (hn : n ≤ 4000) (d0 : w0.cell? ⟨gD, oD + i * 4, none⟩ = some (by8 P)) (d1 : w0.cell? ⟨gD, oD + i * 4 + 1, none⟩ = some (by8 (ofL P))) (d2 : w0.cell? ⟨gD, oD + i * 4 + 2, none⟩ = some (.int .u32 (crcL B : Nat))) (d3 : w0.cell? ⟨gD, oD + i * 4 + 3, none⟩ = some (.int .i64 (B.length : Nat))) (f0 : w0.cell? ⟨gF, oF + i * 2, none⟩ = some (by8 P)) (f1 : w0.cell? ⟨gF, oF + i * 2 + 1, none⟩ = some (.slice pB (B.length) cB)) (hp : P.length ≤ 1000000) (hl : B.length ≤ cB) (hm : cB ≤ 9223372036854775807) (hz : BL w0 pB B) (hrow : RowK w0 (some ⟨gD, oD, none⟩) 4 n (fun k => cellD (f k))) (hfind : findN P 0 (pathsN (fun k => (f k).P) n) = (i : Int))
    (x : Act) (w : World) (hB : Below w0.heap.size w0 w) (hdef : x.defers = df) (u0 : x.tmps.getD 0 undef = .slice (some ⟨gF, oF, none⟩) n cF) (u5 : x.tmps.getD 5 undef = .slice (some ⟨gD, oD, none⟩) n cD) (u11 : x.tmps.getD 11 undef = .int .i64 (i : Nat))
    (p39 : dbk16_val gD oD gF oF n cD cF i P pB B cB f 39 (x.tmps.getD 117 undef) w)
    : wpOpIn Fc nC Try.prog dbk16_ops Q 40 (fun a' w' => ∃ v, a' = x.put (some 118) v ∧ (v = .slice (some ⟨gD, oD, none⟩) n cD) ∧ Below w.heap.size w w') x w := by
  have ho : dbk16_ops[40]? = some dbk16_o40 := rfl
  simp only [Array.getD_eq_getD_getElem?] at u0 u5 u11
  have q39 : x.tmps.getD 117 undef = .bool false := p39
  simp only [Array.getD_eq_getD_getElem?] at q39
  have e39 : (dbk16_ops[39]?.bind fun x => x.dst) = some 117 := rfl
  have g39 := get_someT q39 (fun h => by cases h)
  refine wpOpIn_stepT hF ho (fun K hK => ?_)
  clear ho
  rw [Oper.semAt_plain Fc _ _ (by intro c h; cases h)]
  simp only [dbk16_o40]
  go_simp
  exact hK _ _ ⟨_, act_putD x hdef _ _, rfl, Below.refl _ _⟩
set_option maxRecDepth 100000 in
set_option maxHeartbeats 2000000 in
theorem dbk16_s41 {Fc : Fence} (hF : Wide Fc) {nC : Nat} (gD oD gF oF n cD cF i : Nat) (P : List UInt8) (pB : Option Addr) (B : List Nat) (cB : Nat) (f : Nat → DT) (Q : Exit → Act → World → Prop) (df : List Deferred) (w0 : World)
    (hi : i < n) (hn : n ≤ 4000) (d0 : w0.cell? ⟨gD, oD + i * 4, none⟩ = some (by8 P)) (d1 : w0.cell? ⟨gD, oD + i * 4 + 1, none⟩ = some (by8 (ofL P))) (d2 : w0.cell? ⟨gD, oD + i * 4 + 2, none⟩ = some (.int .u32 (crcL B : Nat))) (d3 : w0.cell? ⟨gD, oD + i * 4 + 3, none⟩ = some (.int .i64 (B.length : Nat))) (f0 : w0.cell? ⟨gF, oF + i * 2, none⟩ = some (by8 P)) (f1 : w0.cell? ⟨gF, oF + i * 2 + 1, none⟩ = some (.slice pB (B.length) cB)) (hp : P.length ≤ 1000000) (hl : B.length ≤ cB) (hm : cB ≤ 9223372036854775807) (hz : BL w0 pB B) (hrow : RowK w0 (some ⟨gD, oD, none⟩) 4 n (fun k => cellD (f k))) (hfind : findN P 0 (pathsN (fun k => (f k).P) n) = (i : Int))
    (x : Act) (w : World) (hB : Below w0.heap.size w0 w) (hdef : x.defers = df) (u0 : x.tmps.getD 0 undef = .slice (some ⟨gF, oF, none⟩) n cF) (u5 : x.tmps.getD 5 undef = .slice (some ⟨gD, oD, none⟩) n cD) (u11 : x.tmps.getD 11 undef = .int .i64 (i : Nat))
    (p39 : dbk16_val gD oD gF oF n cD cF i P pB B cB f 39 (x.tmps.getD 117 undef) w)
    : wpOpIn Fc nC Try.prog dbk16_ops Q 41 (fun a' w' => ∃ v, a' = x.put (some 119) v ∧ (v = .int .i64 (i : Nat)) ∧ Below w.heap.size w w') x w := by
  have ho : dbk16_ops[41]? = some dbk16_o41 := rfl
  simp only [Array.getD_eq_getD_getElem?] at u0 u5 u11
  have q39 : x.tmps.getD 117 undef = .bool false := p39
  simp only [Array.getD_eq_getD_getElem?] at q39
  have e39 : (dbk16_ops[39]?.bind fun x => x.dst) = some 117 := rfl
  have g39 := get_someT q39 (fun h => by cases h)
  refine wpOpIn_stepT hF ho (fun K hK => ?_)
  clear ho
  rw [Oper.semAt_plain Fc _ _ (by intro c h; cases h)]
  simp only [dbk16_o41]
  go_simp
  exact hK _ _ ⟨_, act_putD x hdef _ _, rfl, Below.refl _ _⟩
set_option maxRecDepth 100000 in
set_option maxHeartbeats 2000000 in
theorem dbk16_s42 {Fc : Fence} (hF : Wide Fc) {nC : Nat} (gD oD gF oF n cD cF i : Nat) (P : List UInt8) (pB : Option Addr) (B : List Nat) (cB : Nat) (f : Nat → DT) (Q : Exit → Act → World → Prop) (df : List Deferred) (w0 : World)
    (hi : i < n) (hn : n ≤ 4000) (d0 : w0.cell? ⟨gD, oD + i * 4, none⟩ = some (by8 P)) (d1 : w0.cell? ⟨gD, oD + i * 4 + 1, none⟩ = some (by8 (ofL P))) (d2 : w0.cell? ⟨gD, oD + i * 4 + 2, none⟩ = some (.int .u32 (crcL B : Nat))) (d3 : w0.cell? ⟨gD, oD + i * 4 + 3, none⟩ = some (.int .i64 (B.length : Nat))) (f0 : w0.cell? ⟨gF, oF + i * 2, none⟩ = some (by8 P)) (f1 : w0.cell? ⟨gF, oF + i * 2 + 1, none⟩ = some (.slice pB (B.length) cB)) (hp : P.length ≤ 1000000) (hl : B.length ≤ cB) (hm : cB ≤ 9223372036854775807) (hz : BL w0 pB B) (hrow : RowK w0 (some ⟨gD, oD, none⟩) 4 n (fun k => cellD (f k))) (hfind : findN P 0 (pathsN (fun k => (f k).P) n) = (i : Int))
    (x : Act) (w : World) (hB : Below w0.heap.size w0 w) (hdef : x.defers = df) (u0 : x.tmps.getD 0 undef = .slice (some ⟨gF, oF, none⟩) n cF) (u5 : x.tmps.getD 5 undef = .slice (some ⟨gD, oD, none⟩) n cD) (u11 : x.tmps.getD 11 undef = .int .i64 (i : Nat))
    (p40 : dbk16_val gD oD gF oF n cD cF i P pB B cB f 40 (x.tmps.getD 118 undef) w)
    (p41 : dbk16_val gD oD gF oF n cD cF i P pB B cB f 41 (x.tmps.getD 119 undef) w)
    (p39 : dbk16_val gD oD gF oF n cD cF i P pB B cB f 39 (x.tmps.getD 117 undef) w)
    : wpOpIn Fc nC Try.prog dbk16_ops Q 42 (fun a' w' => ∃ v, a' = x.put (some 120) v ∧ (v = .pointer (some ⟨gD, oD + i * 4, none⟩)) ∧ Below w.heap.size w w') x w := by
  have ho : dbk16_ops[42]? = some dbk16_o42 := rfl
  simp only [Array.getD_eq_getD_getElem?] at u0 u5 u11
  have q40 : x.tmps.getD 118 undef = .slice (some ⟨gD, oD, none⟩) n cD := p40
  have q41 : x.tmps.getD 119 undef = .int .i64 (i : Nat) := p41
  have q39 : x.tmps.getD 117 undef = .bool false := p39
  simp only [Array.getD_eq_getD_getElem?] at q40 q41 q39
  have e39 : (dbk16_ops[39]?.bind fun x => x.dst) = some 117 := rfl
  have g39 := get_someT q39 (fun h => by cases h)
  have i0 : (0 : Int) ≤ (i : Int) := by omega
  have i1 : (i : Int) < (n : Int) := by omega
  refine wpOpIn_stepT hF ho (fun K hK => ?_)
  clear ho
  rw [Oper.semAt_plain Fc _ _ (by intro c h; cases h)]
  simp only [dbk16_o42]
  go_simp
  exact hK _ _ ⟨_, act_putD x hdef _ _, rfl, Below.refl _ _⟩
set_option maxRecDepth 100000 in
set_option maxHeartbeats 2000000 in
theorem dbk16_s43 {Fc : Fence} (hF : Wide Fc) {nC : Nat} (gD oD gF oF n cD cF i : Nat) (P : List UInt8) (pB : Option Addr) (B : List Nat) (cB : Nat) (f : Nat → DT) (Q : Exit → Act → World → Prop) (df : List Deferred) (w0 : World)
    (hi : i < n) (hn : n ≤ 4000) (d0 : w0.cell? ⟨gD, oD + i * 4, none⟩ = some (by8 P)) (d1 : w0.cell? ⟨gD, oD + i * 4 + 1, none⟩ = some (by8 (ofL P))) (d2 : w0.cell? ⟨gD, oD + i * 4 + 2, none⟩ = some (.int .u32 (crcL B : Nat))) (d3 : w0.cell? ⟨gD, oD + i * 4 + 3, none⟩ = some (.int .i64 (B.length : Nat))) (f0 : w0.cell? ⟨gF, oF + i * 2, none⟩ = some (by8 P)) (f1 : w0.cell? ⟨gF, oF + i * 2 + 1, none⟩ = some (.slice pB (B.length) cB)) (hp : P.length ≤ 1000000) (hl : B.length ≤ cB) (hm : cB ≤ 9223372036854775807) (hz : BL w0 pB B) (hrow : RowK w0 (some ⟨gD, oD, none⟩) 4 n (fun k => cellD (f k))) (hfind : findN P 0 (pathsN (fun k => (f k).P) n) = (i : Int))
    (x : Act) (w : World) (hB : Below w0.heap.size w0 w) (hdef : x.defers = df) (u0 : x.tmps.getD 0 undef = .slice (some ⟨gF, oF, none⟩) n cF) (u5 : x.tmps.getD 5 undef = .slice (some ⟨gD, oD, none⟩) n cD) (u11 : x.tmps.getD 11 undef = .int .i64 (i : Nat))
    (p42 : dbk16_val gD oD gF oF n cD cF i P pB B cB f 42 (x.tmps.getD 120 undef) w)
    (p39 : dbk16_val gD oD gF oF n cD cF i P pB B cB f 39 (x.tmps.getD 117 undef) w)
    : wpOpIn Fc nC Try.prog dbk16_ops Q 43 (fun a' w' => ∃ v, a' = x.put (some 121) v ∧ (v = .pointer (some ⟨gD, oD + i * 4 + 2, none⟩)) ∧ Below w.heap.size w w') x w := by
  have ho : dbk16_ops[43]? = some dbk16_o43 := rfl
  simp only [Array.getD_eq_getD_getElem?] at u0 u5 u11
  have q42 : x.tmps.getD 120 undef = .pointer (some ⟨gD, oD + i * 4, none⟩) := p42
  have q39 : x.tmps.getD 117 undef = .bool false := p39
  simp only [Array.getD_eq_getD_getElem?] at q42 q39
  have e39 : (dbk16_ops[39]?.bind fun x => x.dst) = some 117 := rfl
  have g39 := get_someT q39 (fun h => by cases h)
  refine wpOpIn_stepT hF ho (fun K hK => ?_)
  clear ho
  rw [Oper.semAt_plain Fc _ _ (by intro c h; cases h)]
  simp only [dbk16_o43]
  go_simp
  exact hK _ _ ⟨_, act_putD x hdef _ _, rfl, Below.refl _ _⟩
set_option maxRecDepth 100000 in
set_option maxHeartbeats 2000000 in
theorem dbk16_s44 {Fc : Fence} (hF : Wide Fc) {nC : Nat} (gD oD gF oF n cD cF i : Nat) (P : List UInt8) (pB : Option Addr) (B : List Nat) (cB : Nat) (f : Nat → DT) (Q : Exit → Act → World → Prop) (df : List Deferred) (w0 : World)
    (hi : i < n) (hn : n ≤ 4000) (d0 : w0.cell? ⟨gD, oD + i * 4, none⟩ = some (by8 P)) (d1 : w0.cell? ⟨gD, oD + i * 4 + 1, none⟩ = some (by8 (ofL P))) (d2 : w0.cell? ⟨gD, oD + i * 4 + 2, none⟩ = some (.int .u32 (crcL B : Nat))) (d3 : w0.cell? ⟨gD, oD + i * 4 + 3, none⟩ = some (.int .i64 (B.length : Nat))) (f0 : w0.cell? ⟨gF, oF + i * 2, none⟩ = some (by8 P)) (f1 : w0.cell? ⟨gF, oF + i * 2 + 1, none⟩ = some (.slice pB (B.length) cB)) (hp : P.length ≤ 1000000) (hl : B.length ≤ cB) (hm : cB ≤ 9223372036854775807) (hz : BL w0 pB B) (hrow : RowK w0 (some ⟨gD, oD, none⟩) 4 n (fun k => cellD (f k))) (hfind : findN P 0 (pathsN (fun k => (f k).P) n) = (i : Int))
    (x : Act) (w : World) (hB : Below w0.heap.size w0 w) (hdef : x.defers = df) (u0 : x.tmps.getD 0 undef = .slice (some ⟨gF, oF, none⟩) n cF) (u5 : x.tmps.getD 5 undef = .slice (some ⟨gD, oD, none⟩) n cD) (u11 : x.tmps.getD 11 undef = .int .i64 (i : Nat))
    (p43 : dbk16_val gD oD gF oF n cD cF i P pB B cB f 43 (x.tmps.getD 121 undef) w)
    (p39 : dbk16_val gD oD gF oF n cD cF i P pB B cB f 39 (x.tmps.getD 117 undef) w)
    : wpOpIn Fc nC Try.prog dbk16_ops Q 44 (fun a' w' => ∃ v, a' = x.put (some 122) v ∧ (v = .int .u32 (crcL B : Nat)) ∧ Below w.heap.size w w') x w := by
  have ho : dbk16_ops[44]? = some dbk16_o44 := rfl
  simp only [Array.getD_eq_getD_getElem?] at u0 u5 u11
  have q43 : x.tmps.getD 121 undef = .pointer (some ⟨gD, oD + i * 4 + 2, none⟩) := p43
  have q39 : x.tmps.getD 117 undef = .bool false := p39
  simp only [Array.getD_eq_getD_getElem?] at q43 q39
  have e39 : (dbk16_ops[39]?.bind fun x => x.dst) = some 117 := rfl
  have g39 := get_someT q39 (fun h => by cases h)
  have m := cell_thru d2 hB
  refine wpOpIn_stepT hF ho (fun K hK => ?_)
  clear ho
  rw [Oper.semAt_plain Fc _ _ (by intro c h; cases h)]
  simp only [dbk16_o44]
  go_simp
  exact hK _ _ ⟨_, act_putD x hdef _ _, rfl, Below.refl _ _⟩
set_option maxRecDepth 100000 in
set_option maxHeartbeats 2000000 in
theorem dbk16_s45 {Fc : Fence} (hF : Wide Fc) {nC : Nat} (gD oD gF oF n cD cF i : Nat) (P : List UInt8) (pB : Option Addr) (B : List Nat) (cB : Nat) (f : Nat → DT) (Q : Exit → Act → World → Prop) (df : List Deferred) (w0 : World)
    (hi : i < n) (hn : n ≤ 4000) (d0 : w0.cell? ⟨gD, oD + i * 4, none⟩ = some (by8 P)) (d1 : w0.cell? ⟨gD, oD + i * 4 + 1, none⟩ = some (by8 (ofL P))) (d2 : w0.cell? ⟨gD, oD + i * 4 + 2, none⟩ = some (.int .u32 (crcL B : Nat))) (d3 : w0.cell? ⟨gD, oD + i * 4 + 3, none⟩ = some (.int .i64 (B.length : Nat))) (f0 : w0.cell? ⟨gF, oF + i * 2, none⟩ = some (by8 P)) (f1 : w0.cell? ⟨gF, oF + i * 2 + 1, none⟩ = some (.slice pB (B.length) cB)) (hp : P.length ≤ 1000000) (hl : B.length ≤ cB) (hm : cB ≤ 9223372036854775807) (hz : BL w0 pB B) (hrow : RowK w0 (some ⟨gD, oD, none⟩) 4 n (fun k => cellD (f k))) (hfind : findN P 0 (pathsN (fun k => (f k).P) n) = (i : Int))
    (x : Act) (w : World) (hB : Below w0.heap.size w0 w) (hdef : x.defers = df) (u0 : x.tmps.getD 0 undef = .slice (some ⟨gF, oF, none⟩) n cF) (u5 : x.tmps.getD 5 undef = .slice (some ⟨gD, oD, none⟩) n cD) (u11 : x.tmps.getD 11 undef = .int .i64 (i : Nat))
    (p39 : dbk16_val gD oD gF oF n cD cF i P pB B cB f 39 (x.tmps.getD 117 undef) w)
    : wpOpIn Fc nC Try.prog dbk16_ops Q 45 (fun a' w' => ∃ v, a' = x.put (some 123) v ∧ (v = .slice (some ⟨gF, oF, none⟩) n cF) ∧ Below w.heap.size w w') x w := by
  have ho : dbk16_ops[45]? = some dbk16_o45 := rfl
  simp only [Array.getD_eq_getD_getElem?] at u0 u5 u11
  have q39 : x.tmps.getD 117 undef = .bool false := p39
  simp only [Array.getD_eq_getD_getElem?] at q39
  have e39 : (dbk16_ops[39]?.bind fun x => x.dst) = some 117 := rfl
  have g39 := get_someT q39 (fun h => by cases h)
  refine wpOpIn_stepT hF ho (fun K hK => ?_)
  clear ho
  rw [Oper.semAt_plain Fc _ _ (by intro c h; cases h)]
  simp only [dbk16_o45]
  go_simp
  exact hK _ _ ⟨_, act_putD x hdef _ _, rfl, Below.refl _ _⟩
set_option maxRecDepth 100000 in
set_option maxHeartbeats 2000000 in
theorem dbk16_s46 {Fc : Fence} (hF : Wide Fc) {nC : Nat} (gD oD gF oF n cD cF i : Nat) (P : List UInt8) (pB : Option Addr) (B : List Nat) (cB : Nat) (f : Nat → DT) (Q : Exit → Act → World → Prop) (df : List Deferred) (w0 : World)
    (hi : i < n) (hn : n ≤ 4000) (d0 : w0.cell? ⟨gD, oD + i * 4, none⟩ = some (by8 P)) (d1 : w0.cell? ⟨gD, oD + i * 4 + 1, none⟩ = some (by8 (ofL P))) (d2 : w0.cell? ⟨gD, oD + i * 4 + 2, none⟩ = some (.int .u32 (crcL B : Nat))) (d3 : w0.cell? ⟨gD, oD + i * 4 + 3, none⟩ = some (.int .i64 (B.length : Nat))) (f0 : w0.cell? ⟨gF, oF + i * 2, none⟩ = some (by8 P)) (f1 : w0.cell? ⟨gF, oF + i * 2 + 1, none⟩ = some (.slice pB (B.length) cB)) (hp : P.length ≤ 1000000) (hl : B.length ≤ cB) (hm : cB ≤ 9223372036854775807) (hz : BL w0 pB B) (hrow : RowK w0 (some ⟨gD, oD, none⟩) 4 n (fun k => cellD (f k))) (hfind : findN P 0 (pathsN (fun k => (f k).P) n) = (i : Int))
    (x : Act) (w : World) (hB : Below w0.heap.size w0 w) (hdef : x.defers = df) (u0 : x.tmps.getD 0 undef = .slice (some ⟨gF, oF, none⟩) n cF) (u5 : x.tmps.getD 5 undef = .slice (some ⟨gD, oD, none⟩) n cD) (u11 : x.tmps.getD 11 undef = .int .i64 (i : Nat))
    (p39 : dbk16_val gD oD gF oF n cD cF i P pB B cB f 39 (x.tmps.getD 117 undef) w)
    : wpOpIn Fc nC Try.prog dbk16_ops Q 46 (fun a' w' => ∃ v, a' = x.put (some 124) v ∧ (v = .int .i64 (i : Nat)) ∧ Below w.heap.size w w') x w := by
  have ho : dbk16_ops[46]? = some dbk16_o46 := rfl
  simp only [Array.getD_eq_getD_getElem?] at u0 u5 u11
  have q39 : x.tmps.getD 117 undef = .bool false := p39
  simp only [Array.getD_eq_getD_getElem?] at q39
  have e39 : (dbk16_ops[39]?.bind fun x => x.dst) = some 117 := rfl
  have g39 := get_someT q39 (fun h => by cases h)
  refine wpOpIn_stepT hF ho (fun K hK => ?_)
  clear ho
  rw [Oper.semAt_plain Fc _ _ (by intro c h; cases h)]
  simp only [dbk16_o46]
  go_simp
  exact hK _ _ ⟨_, act_putD x hdef _ _, rfl, Below.refl _ _⟩
set_option maxRecDepth 100000 in
set_option maxHeartbeats 2000000 in
theorem dbk16_s47 {Fc : Fence} (hF : Wide Fc) {nC : Nat} (gD oD gF oF n cD cF i : Nat) (P : List UInt8) (pB : Option Addr) (B : List Nat) (cB : Nat) (f : Nat → DT) (Q : Exit → Act → World → Prop) (df : List Deferred) (w0 : World)
    (hi : i < n) (hn : n ≤ 4000) (d0 : w0.cell? ⟨gD, oD + i * 4, none⟩ = some (by8 P)) (d1 : w0.cell? ⟨gD, oD + i * 4 + 1, none⟩ = some (by8 (ofL P))) (d2 : w0.cell? ⟨gD, oD + i * 4 + 2, none⟩ = some (.int .u32 (crcL B : Nat))) (d3 : w0.cell? ⟨gD, oD + i * 4 + 3, none⟩ = some (.int .i64 (B.length : Nat))) (f0 : w0.cell? ⟨gF, oF + i * 2, none⟩ = some (by8 P)) (f1 : w0.cell? ⟨gF, oF + i * 2 + 1, none⟩ = some (.slice pB (B.length) cB)) (hp : P.length ≤ 1000000) (hl : B.length ≤ cB) (hm : cB ≤ 9223372036854775807) (hz : BL w0 pB B) (hrow : RowK w0 (some ⟨gD, oD, none⟩) 4 n (fun k => cellD (f k))) (hfind : findN P 0 (pathsN (fun k => (f k).P) n) = (i : Int))
    (x : Act) (w : World) (hB : Below w0.heap.size w0 w) (hdef : x.defers = df) (u0 : x.tmps.getD 0 undef = .slice (some ⟨gF, oF, none⟩) n cF) (u5 : x.tmps.getD 5 undef = .slice (some ⟨gD, oD, none⟩) n cD) (u11 : x.tmps.getD 11 undef = .int .i64 (i : Nat))
    (p45 : dbk16_val gD oD gF oF n cD cF i P pB B cB f 45 (x.tmps.getD 123 undef) w)
    (p46 : dbk16_val gD oD gF oF n cD cF i P pB B cB f 46 (x.tmps.getD 124 undef) w)
    (p39 : dbk16_val gD oD gF oF n cD cF i P pB B cB f 39 (x.tmps.getD 117 undef) w)
    : wpOpIn Fc nC Try.prog dbk16_ops Q 47 (fun a' w' => ∃ v, a' = x.put (some 125) v ∧ (v = .pointer (some ⟨gF, oF + i * 2, none⟩)) ∧ Below w.heap.size w w') x w := by
  have ho : dbk16_ops[47]? = some dbk16_o47 := rfl
  simp only [Array.getD_eq_getD_getElem?] at u0 u5 u11
  have q45 : x.tmps.getD 123 undef = .slice (some ⟨gF, oF, none⟩) n cF := p45
  have q46 : x.tmps.getD 124 undef = .int .i64 (i : Nat) := p46
  have q39 : x.tmps.getD 117 undef = .bool false := p39
  simp only [Array.getD_eq_getD_getElem?] at q45 q46 q39
  have e39 : (dbk16_ops[39]?.bind fun x => x.dst) = some 117 := rfl
  have g39 := get_someT q39 (fun h => by cases h)
  have i0 : (0 : Int) ≤ (i : Int) := by omega
  have i1 : (i : Int) < (n : Int) := by omega
  refine wpOpIn_stepT hF ho (fun K hK => ?_)
  clear ho
  rw [Oper.semAt_plain Fc _ _ (by intro c h; cases h)]
  simp only [dbk16_o47]
  go_simp
  exact hK _ _ ⟨_, act_putD x hdef _ _, rfl, Below.refl _ _⟩
set_option maxRecDepth 100000 in
set_option maxHeartbeats 2000000 in
theorem dbk16_s48 {Fc : Fence} (hF : Wide Fc) {nC : Nat} (gD oD gF oF n cD cF i : Nat) (P : List UInt8) (pB : Option Addr) (B : List Nat) (cB : Nat) (f : Nat → DT) (Q : Exit → Act → World → Prop) (df : List Deferred) (w0 : World)
    (hi : i < n) (hn : n ≤ 4000) (d0 : w0.cell? ⟨gD, oD + i * 4, none⟩ = some (by8 P)) (d1 : w0.cell? ⟨gD, oD + i * 4 + 1, none⟩ = some (by8 (ofL P))) (d2 : w0.cell? ⟨gD, oD + i * 4 + 2, none⟩ = some (.int .u32 (crcL B : Nat))) (d3 : w0.cell? ⟨gD, oD + i * 4 + 3, none⟩ = some (.int .i64 (B.length : Nat))) (f0 : w0.cell? ⟨gF, oF + i * 2, none⟩ = some (by8 P)) (f1 : w0.cell? ⟨gF, oF + i * 2 + 1, none⟩ = some (.slice pB (B.length) cB)) (hp : P.length ≤ 1000000) (hl : B.length ≤ cB) (hm : cB ≤ 9223372036854775807) (hz : BL w0 pB B) (hrow : RowK w0 (some ⟨gD, oD, none⟩) 4 n (fun k => cellD (f k))) (hfind : findN P 0 (pathsN (fun k => (f k).P) n) = (i : Int))
    (x : Act) (w : World) (hB : Below w0.heap.size w0 w) (hdef : x.defers = df) (u0 : x.tmps.getD 0 undef = .slice (some ⟨gF, oF, none⟩) n cF) (u5 : x.tmps.getD 5 undef = .slice (some ⟨gD, oD, none⟩) n cD) (u11 : x.tmps.getD 11 undef = .int .i64 (i : Nat))
    (p47 : dbk16_val gD oD gF oF n cD cF i P pB B cB f 47 (x.tmps.getD 125 undef) w)
    (p39 : dbk16_val gD oD gF oF n cD cF i P pB B cB f 39 (x.tmps.getD 117 undef) w)
    : wpOpIn Fc nC Try.prog dbk16_ops Q 48 (fun a' w' => ∃ v, a' = x.put (some 126) v ∧ (v = .pointer (some ⟨gF, oF + i * 2 + 1, none⟩)) ∧ Below w.heap.size w w') x w := by
  have ho : dbk16_ops[48]? = some dbk16_o48 := rfl
  simp only [Array.getD_eq_getD_getElem?] at u0 u5 u11
  have q47 : x.tmps.getD 125 undef = .pointer (some ⟨gF, oF + i * 2, none⟩) := p47
  have q39 : x.tmps.getD 117 undef = .bool false := p39
  simp only [Array.getD_eq_getD_getElem?] at q47 q39
  have e39 : (dbk16_ops[39]?.bind fun x => x.dst) = some 117 := rfl
  have g39 := get_someT q39 (fun h => by cases h)
  refine wpOpIn_stepT hF ho (fun K hK => ?_)
  clear ho
  rw [Oper.semAt_plain Fc _ _ (by intro c h; cases h)]
  simp only [dbk16_o48]
  go_simp
  exact hK _ _ ⟨_, act_putD x hdef _ _, rfl, Below.refl _ _⟩
set_option maxRecDepth 100000 in
set_option maxHeartbeats 2000000 in
theorem dbk16_s49 {Fc : Fence} (hF : Wide Fc) {nC : Nat} (gD oD gF oF n cD cF i : Nat) (P : List UInt8) (pB : Option Addr) (B : List Nat) (cB : Nat) (f : Nat → DT) (Q : Exit → Act → World → Prop) (df : List Deferred) (w0 : World)
    (hi : i < n) (hn : n ≤ 4000) (d0 : w0.cell? ⟨gD, oD + i * 4, none⟩ = some (by8 P)) (d1 : w0.cell? ⟨gD, oD + i * 4 + 1, none⟩ = some (by8 (ofL P))) (d2 : w0.cell? ⟨gD, oD + i * 4 + 2, none⟩ = some (.int .u32 (crcL B : Nat))) (d3 : w0.cell? ⟨gD, oD + i * 4 + 3, none⟩ = some (.int .i64 (B.length : Nat))) (f0 : w0.cell? ⟨gF, oF + i * 2, none⟩ = some (by8 P)) (f1 : w0.cell? ⟨gF, oF + i * 2 + 1, none⟩ = some (.slice pB (B.length) cB)) (hp : P.length ≤ 1000000) (hl : B.length ≤ cB) (hm : cB ≤ 9223372036854775807) (hz : BL w0 pB B) (hrow : RowK w0 (some ⟨gD, oD, none⟩) 4 n (fun k => cellD (f k))) (hfind : findN P 0 (pathsN (fun k => (f k).P) n) = (i : Int))
    (x : Act) (w : World) (hB : Below w0.heap.size w0 w) (hdef : x.defers = df) (u0 : x.tmps.getD 0 undef = .slice (some ⟨gF, oF, none⟩) n cF) (u5 : x.tmps.getD 5 undef = .slice (some ⟨gD, oD, none⟩) n cD) (u11 : x.tmps.getD 11 undef = .int .i64 (i : Nat))
    (p48 : dbk16_val gD oD gF oF n cD cF i P pB B cB f 48 (x.tmps.getD 126 undef) w)
    (p39 : dbk16_val gD oD gF oF n cD cF i P pB B cB f 39 (x.tmps.getD 117 undef) w)
    : wpOpIn Fc nC Try.prog dbk16_ops Q 49 (fun a' w' => ∃ v, a' = x.put (some 127) v ∧ (v = .slice pB (B.length) cB) ∧ Below w.heap.size w w') x w := by
  have ho : dbk16_ops[49]? = some dbk16_o49 := rfl
  simp only [Array.getD_eq_getD_getElem?] at u0 u5 u11
  have q48 : x.tmps.getD 126 undef = .pointer (some ⟨gF, oF + i * 2 + 1, none⟩) := p48
  have q39 : x.tmps.getD 117 undef = .bool false := p39
  simp only [Array.getD_eq_getD_getElem?] at q48 q39
  have e39 : (dbk16_ops[39]?.bind fun x => x.dst) = some 117 := rfl
  have g39 := get_someT q39 (fun h => by cases h)
  have m := cell_thru f1 hB
  refine wpOpIn_stepT hF ho (fun K hK => ?_)
  clear ho
  rw [Oper.semAt_plain Fc _ _ (by intro c h; cases h)]
  simp only [dbk16_o49]
  go_simp
  exact hK _ _ ⟨_, act_putD x hdef _ _, rfl, Below.refl _ _⟩
set_option maxRecDepth 100000 in
set_option maxHeartbeats 2000000 in
theorem dbk16_s50 {Fc : Fence} (hF : Wide Fc) {nC : Nat} (gD oD gF oF n cD cF i : Nat) (P : List UInt8) (pB : Option Addr) (B : List Nat) (cB : Nat) (f : Nat → DT) (Q : Exit → Act → World → Prop) (df : List Deferred) (w0 : World)
    (hi : i < n) (hn : n ≤ 4000) (d0 : w0.cell? ⟨gD, oD + i * 4, none⟩ = some (by8 P)) (d1 : w0.cell? ⟨gD, oD + i * 4 + 1, none⟩ = some (by8 (ofL P))) (d2 : w0.cell? ⟨gD, oD + i * 4 + 2, none⟩ = some (.int .u32 (crcL B : Nat))) (d3 : w0.cell? ⟨gD, oD + i * 4 + 3, none⟩ = some (.int .i64 (B.length : Nat))) (f0 : w0.cell? ⟨gF, oF + i * 2, none⟩ = some (by8 P)) (f1 : w0.cell? ⟨gF, oF + i * 2 + 1, none⟩ = some (.slice pB (B.length) cB)) (hp : P.length ≤ 1000000) (hl : B.length ≤ cB) (hm : cB ≤ 9223372036854775807) (hz : BL w0 pB B) (hrow : RowK w0 (some ⟨gD, oD, none⟩) 4 n (fun k => cellD (f k))) (hfind : findN P 0 (pathsN (fun k => (f k).P) n) = (i : Int))
    (x : Act) (w : World) (hB : Below w0.heap.size w0 w) (hdef : x.defers = df) (u0 : x.tmps.getD 0 undef = .slice (some ⟨gF, oF, none⟩) n cF) (u5 : x.tmps.getD 5 undef = .slice (some ⟨gD, oD, none⟩) n cD) (u11 : x.tmps.getD 11 undef = .int .i64 (i : Nat))
    (p49 : dbk16_val gD oD gF oF n cD cF i P pB B cB f 49 (x.tmps.getD 127 undef) w)
    (p39 : dbk16_val gD oD gF oF n cD cF i P pB B cB f 39 (x.tmps.getD 117 undef) w)
    : wpOpIn Fc nC Try.prog dbk16_ops Q 50 (fun a' w' => ∃ v, a' = x.put (some 128) v ∧ (∃ g, v = .slice (some ⟨g, 0, none⟩) 1 1 ∧ w'.cell? ⟨g, 0, none⟩ = some (.slice pB (B.length) cB)) ∧ Below w.heap.size w w') x w := by
  have ho : dbk16_ops[50]? = some dbk16_o50 := rfl
  simp only [Array.getD_eq_getD_getElem?] at u0 u5 u11
  have q49 : x.tmps.getD 127 undef = .slice pB (B.length) cB := p49
  have q39 : x.tmps.getD 117 undef = .bool false := p39
  simp only [Array.getD_eq_getD_getElem?] at q49 q39
  have e39 : (dbk16_ops[39]?.bind fun x => x.dst) = some 117 := rfl
  have g39 := get_someT q39 (fun h => by cases h)
  refine wpOpIn_stepT hF ho (fun K hK => ?_)
  clear ho
  rw [Oper.semAt_plain Fc _ _ (by intro c h; cases h)]
  simp only [dbk16_o50]
  go_simp
  exact hK _ _ ⟨_, act_putD x hdef _ _, ⟨_, rfl, (cell_new_l w _ _).1⟩, below_alloc _ _⟩
set_option maxRecDepth 100000 in
set_option maxHeartbeats 2000000 in
theorem dbk16_s51 {Fc : Fence} (hF : Wide Fc) {nC : Nat} (gD oD gF oF n cD cF i : Nat) (P : List UInt8) (pB : Option Addr) (B : List Nat) (cB : Nat) (f : Nat → DT) (Q : Exit → Act → World → Prop) (df : List Deferred) (w0 : World)
    (hi : i < n) (hn : n ≤ 4000) (d0 : w0.cell? ⟨gD, oD + i * 4, none⟩ = some (by8 P)) (d1 : w0.cell? ⟨gD, oD + i * 4 + 1, none⟩ = some (by8 (ofL P))) (d2 : w0.cell? ⟨gD, oD + i * 4 + 2, none⟩ = some (.int .u32 (crcL B : Nat))) (d3 : w0.cell? ⟨gD, oD + i * 4 + 3, none⟩ = some (.int .i64 (B.length : Nat))) (f0 : w0.cell? ⟨gF, oF + i * 2, none⟩ = some (by8 P)) (f1 : w0.cell? ⟨gF, oF + i * 2 + 1, none⟩ = some (.slice pB (B.length) cB)) (hp : P.length ≤ 1000000) (hl : B.length ≤ cB) (hm : cB ≤ 9223372036854775807) (hz : BL w0 pB B) (hrow : RowK w0 (some ⟨gD, oD, none⟩) 4 n (fun k => cellD (f k))) (hfind : findN P 0 (pathsN (fun k => (f k).P) n) = (i : Int))
    (x : Act) (w : World) (hB : Below w0.heap.size w0 w) (hdef : x.defers = df) (u0 : x.tmps.getD 0 undef = .slice (some ⟨gF, oF, none⟩) n cF) (u5 : x.tmps.getD 5 undef = .slice (some ⟨gD, oD, none⟩) n cD) (u11 : x.tmps.getD 11 undef = .int .i64 (i : Nat))
    (p50 : dbk16_val gD oD gF oF n cD cF i P pB B cB f 50 (x.tmps.getD 128 undef) w)
    (p39 : dbk16_val gD oD gF oF n cD cF i P pB B cB f 39 (x.tmps.getD 117 undef) w)
    : wpOpIn Fc nC Try.prog dbk16_ops Q 51 (fun a' w' => ∃ v, a' = x.put (some 129) v ∧ (v = .int .u32 (crcL B : Nat)) ∧ Below w.heap.size w w') x w := by
  have ho : dbk16_ops[51]? = some dbk16_o51 := rfl
  simp only [Array.getD_eq_getD_getElem?] at u0 u5 u11
  obtain ⟨g50, q50, p50⟩ := p50
  have q50 : x.tmps.getD 128 undef = .slice (some ⟨g50, 0, none⟩) 1 1 := q50
  have q39 : x.tmps.getD 117 undef = .bool false := p39
  simp only [Array.getD_eq_getD_getElem?] at q50 q39
  have e39 : (dbk16_ops[39]?.bind fun x => x.dst) = some 117 := rfl
  have g39 := get_someT q39 (fun h => by cases h)
  refine wpOpIn_stepT hF ho (fun K hK => ?_)
  clear ho
  rw [Oper.semAt_plain Fc _ _ (by intro c h; cases h)]
  simp only [dbk16_o51]
  go_simp
  refine ⟨hF.deep, (hF.call (sum_one g50 pB B.length cB (fun i => B.getD i 0) w hl hm p50 (hz.below hB))).mono ?_⟩
  rintro e w' ⟨rfl, hb⟩
  exact hK _ _ ⟨_, act_putD x hdef _ _, rfl, hb⟩
set_option maxRecDepth 100000 in
set_option maxHeartbeats 2000000 in
theorem dbk16_s52 {Fc : Fence} (hF : Wide Fc) {nC : Nat} (gD oD gF oF n cD cF i : Nat) (P : List UInt8) (pB : Option Addr) (B : List Nat) (cB : Nat) (f : Nat → DT) (Q : Exit → Act → World → Prop) (df : List Deferred) (w0 : World)
    (hi : i < n) (hn : n ≤ 4000) (d0 : w0.cell? ⟨gD, oD + i * 4, none⟩ = some (by8 P)) (d1 : w0.cell? ⟨gD, oD + i * 4 + 1, none⟩ = some (by8 (ofL P))) (d2 : w0.cell? ⟨gD, oD + i * 4 + 2, none⟩ = some (.int .u32 (crcL B : Nat))) (d3 : w0.cell? ⟨gD, oD + i * 4 + 3, none⟩ = some (.int .i64 (B.length : Nat))) (f0 : w0.cell? ⟨gF, oF + i * 2, none⟩ = some (by8 P)) (f1 : w0.cell? ⟨gF, oF + i * 2 + 1, none⟩ = some (.slice pB (B.length) cB)) (hp : P.length ≤ 1000000) (hl : B.length ≤ cB) (hm : cB ≤ 9223372036854775807) (hz : BL w0 pB B) (hrow : RowK w0 (some ⟨gD, oD, none⟩) 4 n (fun k => cellD (f k))) (hfind : findN P 0 (pathsN (fun k => (f k).P) n) = (i : Int))
    (x : Act) (w : World) (hB : Below w0.heap.size w0 w) (hdef : x.defers = df) (u0 : x.tmps.getD 0 undef = .slice (some ⟨gF, oF, none⟩) n cF) (u5 : x.tmps.getD 5 undef = .slice (some ⟨gD, oD, none⟩) n cD) (u11 : x.tmps.getD 11 undef = .int .i64 (i : Nat))
    (p44 : dbk16_val gD oD gF oF n cD cF i P pB B cB f 44 (x.tmps.getD 122 undef) w)
    (p51 : dbk16_val gD oD gF oF n cD cF i P pB B cB f 51 (x.tmps.getD 129 undef) w)
    (p39 : dbk16_val gD oD gF oF n cD cF i P pB B cB f 39 (x.tmps.getD 117 undef) w)
    : wpOpIn Fc nC Try.prog dbk16_ops Q 52 (fun a' w' => ∃ v, a' = x.put (some 130) v ∧ (v = .bool false) ∧ Below w.heap.size w w') x w := by
  have ho : dbk16_ops[52]? = some dbk16_o52 := rfl
  simp only [Array.getD_eq_getD_getElem?] at u0 u5 u11
  have q44 : x.tmps.getD 122 undef = .int .u32 (crcL B : Nat) := p44
  have q51 : x.tmps.getD 129 undef = .int .u32 (crcL B : Nat) := p51
  have q39 : x.tmps.getD 117 undef = .bool false := p39
  simp only [Array.getD_eq_getD_getElem?] at q44 q51 q39
  have e39 : (dbk16_ops[39]?.bind fun x => x.dst) = some 117 := rfl
  have g39 := get_someT q39 (fun h => by cases h)
  refine wpOpIn_stepT hF ho (fun K hK => ?_)
  clear ho
  rw [Oper.semAt_plain Fc _ _ (by intro c h; cases h)]
  simp only [dbk16_o52]
  go_simp
  exact hK _ _ ⟨_, act_putD x hdef _ _, rfl, Below.refl _ _⟩
set_option maxRecDepth 100000 in
set_option maxHeartbeats 2000000 in
theorem dbk16_s53 {Fc : Fence} (hF : Wide Fc) {nC : Nat} (gD oD gF oF n cD cF i : Nat) (P : List UInt8) (pB : Option Addr) (B : List Nat) (cB : Nat) (f : Nat → DT) (Q : Exit → Act → World → Prop) (df : List Deferred) (w0 : World)
    (hi : i < n) (hn : n ≤ 4000) (d0 : w0.cell? ⟨gD, oD + i * 4, none⟩ = some (by8 P)) (d1 : w0.cell? ⟨gD, oD + i * 4 + 1, none⟩ = some (by8 (ofL P))) (d2 : w0.cell? ⟨gD, oD + i * 4 + 2, none⟩ = some (.int .u32 (crcL B : Nat))) (d3 : w0.cell? ⟨gD, oD + i * 4 + 3, none⟩ = some (.int .i64 (B.length : Nat))) (f0 : w0.cell? ⟨gF, oF + i * 2, none⟩ = some (by8 P)) (f1 : w0.cell? ⟨gF, oF + i * 2 + 1, none⟩ = some (.slice pB (B.length) cB)) (hp : P.length ≤ 1000000) (hl : B.length ≤ cB) (hm : cB ≤ 9223372036854775807) (hz : BL w0 pB B) (hrow : RowK w0 (some ⟨gD, oD, none⟩) 4 n (fun k => cellD (f k))) (hfind : findN P 0 (pathsN (fun k => (f k).P) n) = (i : Int))
    (x : Act) (w : World) (hB : Below w0.heap.size w0 w) (hdef : x.defers = df) (u0 : x.tmps.getD 0 undef = .slice (some ⟨gF, oF, none⟩) n cF) (u5 : x.tmps.getD 5 undef = .slice (some ⟨gD, oD, none⟩) n cD) (u11 : x.tmps.getD 11 undef = .int .i64 (i : Nat))
    (p39 : dbk16_val gD oD gF oF n cD cF i P pB B cB f 39 (x.tmps.getD 117 undef) w)
    (p52 : dbk16_val gD oD gF oF n cD cF i P pB B cB f 52 (x.tmps.getD 130 undef) w)
    : wpOpIn Fc nC Try.prog dbk16_ops Q 53 (fun a' w' => ∃ v, a' = x.put (some 131) v ∧ (v = .bool false) ∧ Below w.heap.size w w') x w := by
  have ho : dbk16_ops[53]? = some dbk16_o53 := rfl
  simp only [Array.getD_eq_getD_getElem?] at u0 u5 u11
  have q39 : x.tmps.getD 117 undef = .bool false := p39
  have q52 : x.tmps.getD 130 undef = .bool false := p52
  simp only [Array.getD_eq_getD_getElem?] at q39 q52
  refine wpOpIn_plain ho rfl (oper_inK hF.fn (fun K hK => ?_))
  clear ho
  rw [Oper.semAt_plain Fc _ _ (by intro c h; cases h)]
  simp only [dbk16_o53]
  go_simp
  exact hK _ _ ⟨_, act_putD x hdef _ _, rfl, Below.refl _ _⟩
set_option maxRecDepth 100000 in
set_option maxHeartbeats 2000000 in
theorem dbk16_s54 {Fc : Fence} (hF : Wide Fc) {nC : Nat} (gD oD gF oF n cD cF i : Nat) (P : List UInt8) (pB : Option Addr) (B : List Nat) (cB : Nat) (f : Nat → DT) (Q : Exit → Act → World → Prop) (df : List Deferred) (w0 : World)
    (hi : i < n) (hn : n ≤ 4000) (d0 : w0.cell? ⟨gD, oD + i * 4, none⟩ = some (by8 P)) (d1 : w0.cell? ⟨gD, oD + i * 4 + 1, none⟩ = some (by8 (ofL P))) (d2 : w0.cell? ⟨gD, oD + i * 4 + 2, none⟩ = some (.int .u32 (crcL B : Nat))) (d3 : w0.cell? ⟨gD, oD + i * 4 + 3, none⟩ = some (.int .i64 (B.length : Nat))) (f0 : w0.cell? ⟨gF, oF + i * 2, none⟩ = some (by8 P)) (f1 : w0.cell? ⟨gF, oF + i * 2 + 1, none⟩ = some (.slice pB (B.length) cB)) (hp : P.length ≤ 1000000) (hl : B.length ≤ cB) (hm : cB ≤ 9223372036854775807) (hz : BL w0 pB B) (hrow : RowK w0 (some ⟨gD, oD, none⟩) 4 n (fun k => cellD (f k))) (hfind : findN P 0 (pathsN (fun k => (f k).P) n) = (i : Int))
    (x : Act) (w : World) (hB : Below w0.heap.size w0 w) (hdef : x.defers = df) (u0 : x.tmps.getD 0 undef = .slice (some ⟨gF, oF, none⟩) n cF) (u5 : x.tmps.getD 5 undef = .slice (some ⟨gD, oD, none⟩) n cD) (u11 : x.tmps.getD 11 undef = .int .i64 (i : Nat))
    (p53 : dbk16_val gD oD gF oF n cD cF i P pB B cB f 53 (x.tmps.getD 131 undef) w)
    : wpOpIn Fc nC Try.prog dbk16_ops Q 54 (fun a' w' => ∃ v, a' = x.put (some 132) v ∧ (v = .bool false) ∧ Below w.heap.size w w') x w := by
  have ho : dbk16_ops[54]? = some dbk16_o54 := rfl
  simp only [Array.getD_eq_getD_getElem?] at u0 u5 u11
  have q53 : x.tmps.getD 131 undef = .bool false := p53
  simp only [Array.getD_eq_getD_getElem?] at q53
  refine wpOpIn_plain ho rfl (oper_inK hF.fn (fun K hK => ?_))
  clear ho
  rw [Oper.semAt_plain Fc _ _ (by intro c h; cases h)]
  simp only [dbk16_o54]
  go_simp
  exact hK _ _ ⟨_, act_putD x hdef _ _, rfl, Below.refl _ _⟩
set_option maxRecDepth 100000 in
set_option maxHeartbeats 2000000 in
theorem dbk16_s55 {Fc : Fence} (hF : Wide Fc) {nC : Nat} (gD oD gF oF n cD cF i : Nat) (P : List UInt8) (pB : Option Addr) (B : List Nat) (cB : Nat) (f : Nat → DT) (Q : Exit → Act → World → Prop) (df : List Deferred) (w0 : World)
    (hi : i < n) (hn : n ≤ 4000) (d0 : w0.cell? ⟨gD, oD + i * 4, none⟩ = some (by8 P)) (d1 : w0.cell? ⟨gD, oD + i * 4 + 1, none⟩ = some (by8 (ofL P))) (d2 : w0.cell? ⟨gD, oD + i * 4 + 2, none⟩ = some (.int .u32 (crcL B : Nat))) (d3 : w0.cell? ⟨gD, oD + i * 4 + 3, none⟩ = some (.int .i64 (B.length : Nat))) (f0 : w0.cell? ⟨gF, oF + i * 2, none⟩ = some (by8 P)) (f1 : w0.cell? ⟨gF, oF + i * 2 + 1, none⟩ = some (.slice pB (B.length) cB)) (hp : P.length ≤ 1000000) (hl : B.length ≤ cB) (hm : cB ≤ 9223372036854775807) (hz : BL w0 pB B) (hrow : RowK w0 (some ⟨gD, oD, none⟩) 4 n (fun k => cellD (f k))) (hfind : findN P 0 (pathsN (fun k => (f k).P) n) = (i : Int))
    (x : Act) (w : World) (hB : Below w0.heap.size w0 w) (hdef : x.defers = df) (u0 : x.tmps.getD 0 undef = .slice (some ⟨gF, oF, none⟩) n cF) (u5 : x.tmps.getD 5 undef = .slice (some ⟨gD, oD, none⟩) n cD) (u11 : x.tmps.getD 11 undef = .int .i64 (i : Nat))
    (p54 : dbk16_val gD oD gF oF n cD cF i P pB B cB f 54 (x.tmps.getD 132 undef) w)
    : wpOpIn Fc nC Try.prog dbk16_ops Q 55 (fun a' w' => ∃ v, a' = x.put (some 133) v ∧ (v = .slice (some ⟨gD, oD, none⟩) n cD) ∧ Below w.heap.size w w') x w := by
  have ho : dbk16_ops[55]? = some dbk16_o55 := rfl
  simp only [Array.getD_eq_getD_getElem?] at u0 u5 u11
  have q54 : x.tmps.getD 132 undef = .bool false := p54
  simp only [Array.getD_eq_getD_getElem?] at q54
  have e54 : (dbk16_ops[54]?.bind fun x => x.dst) = some 132 := rfl
  have g54 := get_someT q54 (fun h => by cases h)
  refine wpOpIn_stepT hF ho (fun K hK => ?_)
  clear ho
  rw [Oper.semAt_plain Fc _ _ (by intro c h; cases h)]
  simp only [dbk16_o55]
  go_simp
  exact hK _ _ ⟨_, act_putD x hdef _ _, rfl, Below.refl _ _⟩
set_option maxRecDepth 100000 in
set_option maxHeartbeats 2000000 in
theorem dbk16_s56 {Fc : Fence} (hF : Wide Fc) {nC : Nat} (gD oD gF oF n cD cF i : Nat) (P : List UInt8) (pB : Option Addr) (B : List Nat) (cB : Nat) (f : Nat → DT) (Q : Exit → Act → World → Prop) (df : List Deferred) (w0 : World)
    (hi : i < n) (hn : n ≤ 4000) (d0 : w0.cell? ⟨gD, oD + i * 4, none⟩ = some (by8 P)) (d1 : w0.cell? ⟨gD, oD + i * 4 + 1, none⟩ = some (by8 (ofL P))) (d2 : w0.cell? ⟨gD, oD + i * 4 + 2, none⟩ = some (.int .u32 (crcL B : Nat))) (d3 : w0.cell? ⟨gD, oD + i * 4 + 3, none⟩ = some (.int .i64 (B.length : Nat))) (f0 : w0.cell? ⟨gF, oF + i * 2, none⟩ = some (by8 P)) (f1 : w0.cell? ⟨gF, oF + i * 2 + 1, none⟩ = some (.slice pB (B.length) cB)) (hp : P.length ≤ 1000000) (hl : B.length ≤ cB) (hm : cB ≤ 9223372036854775807) (hz : BL w0 pB B) (hrow : RowK w0 (some ⟨gD, oD, none⟩) 4 n (fun k => cellD (f k))) (hfind : findN P 0 (pathsN (fun k => (f k).P) n) = (i : Int))
    (x : Act) (w : World) (hB : Below w0.heap.size w0 w) (hdef : x.defers = df) (u0 : x.tmps.getD 0 undef = .slice (some ⟨gF, oF, none⟩) n cF) (u5 : x.tmps.getD 5 undef = .slice (some ⟨gD, oD, none⟩) n cD) (u11 : x.tmps.getD 11 undef = .int .i64 (i : Nat))
    (p54 : dbk16_val gD oD gF oF n cD cF i P pB B cB f 54 (x.tmps.getD 132 undef) w)
    : wpOpIn Fc nC Try.prog dbk16_ops Q 56 (fun a' w' => ∃ v, a' = x.put (some 134) v ∧ (v = .slice (some ⟨gF, oF, none⟩) n cF) ∧ Below w.heap.size w w') x w := by
  have ho : dbk16_ops[56]? = some dbk16_o56 := rfl
  simp only [Array.getD_eq_getD_getElem?] at u0 u5 u11
  have q54 : x.tmps.getD 132 undef = .bool false := p54
  simp only [Array.getD_eq_getD_getElem?] at q54
  have e54 : (dbk16_ops[54]?.bind fun x => x.dst) = some 132 := rfl
  have g54 := get_someT q54 (fun h => by cases h)
  refine wpOpIn_stepT hF ho (fun K hK => ?_)
  clear ho
  rw [Oper.semAt_plain Fc _ _ (by intro c h; cases h)]
  simp only [dbk16_o56]
  go_simp
  exact hK _ _ ⟨_, act_putD x hdef _ _, rfl, Below.refl _ _⟩
set_option maxRecDepth 100000 in
set_option maxHeartbeats 2000000 in
theorem dbk16_s57 {Fc : Fence} (hF : Wide Fc) {nC : Nat} (gD oD gF oF n cD cF i : Nat) (P : List UInt8) (pB : Option Addr) (B : List Nat) (cB : Nat) (f : Nat → DT) (Q : Exit → Act → World → Prop) (df : List Deferred) (w0 : World)
    (hi : i < n) (hn : n ≤ 4000) (d0 : w0.cell? ⟨gD, oD + i * 4, none⟩ = some (by8 P)) (d1 : w0.cell? ⟨gD, oD + i * 4 + 1, none⟩ = some (by8 (ofL P))) (d2 : w0.cell? ⟨gD, oD + i * 4 + 2, none⟩ = some (.int .u32 (crcL B : Nat))) (d3 : w0.cell? ⟨gD, oD + i * 4 + 3, none⟩ = some (.int .i64 (B.length : Nat))) (f0 : w0.cell? ⟨gF, oF + i * 2, none⟩ = some (by8 P)) (f1 : w0.cell? ⟨gF, oF + i * 2 + 1, none⟩ = some (.slice pB (B.length) cB)) (hp : P.length ≤ 1000000) (hl : B.length ≤ cB) (hm : cB ≤ 9223372036854775807) (hz : BL w0 pB B) (hrow : RowK w0 (some ⟨gD, oD, none⟩) 4 n (fun k => cellD (f k))) (hfind : findN P 0 (pathsN (fun k => (f k).P) n) = (i : Int))
    (x : Act) (w : World) (hB : Below w0.heap.size w0 w) (hdef : x.defers = df) (u0 : x.tmps.getD 0 undef = .slice (some ⟨gF, oF, none⟩) n cF) (u5 : x.tmps.getD 5 undef = .slice (some ⟨gD, oD, none⟩) n cD) (u11 : x.tmps.getD 11 undef = .int .i64 (i : Nat))
    (p54 : dbk16_val gD oD gF oF n cD cF i P pB B cB f 54 (x.tmps.getD 132 undef) w)
    : wpOpIn Fc nC Try.prog dbk16_ops Q 57 (fun a' w' => ∃ v, a' = x.put (some 135) v ∧ (v = .int .i64 (i : Nat)) ∧ Below w.heap.size w w') x w := by
  have ho : dbk16_ops[57]? = some dbk16_o57 := rfl
  simp only [Array.getD_eq_getD_getElem?] at u0 u5 u11
  have q54 : x.tmps.getD 132 undef = .bool false := p54
  simp only [Array.getD_eq_getD_getElem?] at q54
  have e54 : (dbk16_ops[54]?.bind fun x => x.dst) = some 132 := rfl
  have g54 := get_someT q54 (fun h => by cases h)
  refine wpOpIn_stepT hF ho (fun K hK => ?_)
  clear ho
  rw [Oper.semAt_plain Fc _ _ (by intro c h; cases h)]
  simp only [dbk16_o57]
  go_simp
  exact hK _ _ ⟨_, act_putD x hdef _ _, rfl, Below.refl _ _⟩
set_option maxRecDepth 100000 in
set_option maxHeartbeats 2000000 in
theorem dbk16_s58 {Fc : Fence} (hF : Wide Fc) {nC : Nat} (gD oD gF oF n cD cF i : Nat) (P : List UInt8) (pB : Option Addr) (B : List Nat) (cB : Nat) (f : Nat → DT) (Q : Exit → Act → World → Prop) (df : List Deferred) (w0 : World)
    (hi : i < n) (hn : n ≤ 4000) (d0 : w0.cell? ⟨gD, oD + i * 4, none⟩ = some (by8 P)) (d1 : w0.cell? ⟨gD, oD + i * 4 + 1, none⟩ = some (by8 (ofL P))) (d2 : w0.cell? ⟨gD, oD + i * 4 + 2, none⟩ = some (.int .u32 (crcL B : Nat))) (d3 : w0.cell? ⟨gD, oD + i * 4 + 3, none⟩ = some (.int .i64 (B.length : Nat))) (f0 : w0.cell? ⟨gF, oF + i * 2, none⟩ = some (by8 P)) (f1 : w0.cell? ⟨gF, oF + i * 2 + 1, none⟩ = some (.slice pB (B.length) cB)) (hp : P.length ≤ 1000000) (hl : B.length ≤ cB) (hm : cB ≤ 9223372036854775807) (hz : BL w0 pB B) (hrow : RowK w0 (some ⟨gD, oD, none⟩) 4 n (fun k => cellD (f k))) (hfind : findN P 0 (pathsN (fun k => (f k).P) n) = (i : Int))
    (x : Act) (w : World) (hB : Below w0.heap.size w0 w) (hdef : x.defers = df) (u0 : x.tmps.getD 0 undef = .slice (some ⟨gF, oF, none⟩) n cF) (u5 : x.tmps.getD 5 undef = .slice (some ⟨gD, oD, none⟩) n cD) (u11 : x.tmps.getD 11 undef = .int .i64 (i : Nat))
    (p56 : dbk16_val gD oD gF oF n cD cF i P pB B cB f 56 (x.tmps.getD 134 undef) w)
    (p57 : dbk16_val gD oD gF oF n cD cF i P pB B cB f 57 (x.tmps.getD 135 undef) w)
    (p54 : dbk16_val gD oD gF oF n cD cF i P pB B cB f 54 (x.tmps.getD 132 undef) w)
    : wpOpIn Fc nC Try.prog dbk16_ops Q 58 (fun a' w' => ∃ v, a' = x.put (some 136) v ∧ (v = .pointer (some ⟨gF, oF + i * 2, none⟩)) ∧ Below w.heap.size w w') x w := by
  have ho : dbk16_ops[58]? = some dbk16_o58 := rfl
  simp only [Array.getD_eq_getD_getElem?] at u0 u5 u11
  have q56 : x.tmps.getD 134 undef = .slice (some ⟨gF, oF, none⟩) n cF := p56
  have q57 : x.tmps.getD 135 undef = .int .i64 (i : Nat) := p57
  have q54 : x.tmps.getD 132 undef = .bool false := p54
  simp only [Array.getD_eq_getD_getElem?] at q56 q57 q54
  have e54 : (dbk16_ops[54]?.bind fun x => x.dst) = some 132 := rfl
  have g54 := get_someT q54 (fun h => by cases h)
  have i0 : (0 : Int) ≤ (i : Int) := by omega
  have i1 : (i : Int) < (n : Int) := by omega
  refine wpOpIn_stepT hF ho (fun K hK => ?_)
  clear ho
  rw [Oper.semAt_plain Fc _ _ (by intro c h; cases h)]
  simp only [dbk16_o58]
  go_simp
  exact hK _ _ ⟨_, act_putD x hdef _ _, rfl, Below.refl _ _⟩
set_option maxRecDepth 100000 in
set_option maxHeartbeats 2000000 in
theorem dbk16_s59 {Fc : Fence} (hF : Wide Fc) {nC : Nat} (gD oD gF oF n cD cF i : Nat) (P : List UInt8) (pB : Option Addr) (B : List Nat) (cB : Nat) (f : Nat → DT) (Q : Exit → Act → World → Prop) (df : List Deferred) (w0 : World)
    (hi : i < n) (hn : n ≤ 4000) (d0 : w0.cell? ⟨gD, oD + i * 4, none⟩ = some (by8 P)) (d1 : w0.cell? ⟨gD, oD + i * 4 + 1, none⟩ = some (by8 (ofL P))) (d2 : w0.cell? ⟨gD, oD + i * 4 + 2, none⟩ = some (.int .u32 (crcL B : Nat))) (d3 : w0.cell? ⟨gD, oD + i * 4 + 3, none⟩ = some (.int .i64 (B.length : Nat))) (f0 : w0.cell? ⟨gF, oF + i * 2, none⟩ = some (by8 P)) (f1 : w0.cell? ⟨gF, oF + i * 2 + 1, none⟩ = some (.slice pB (B.length) cB)) (hp : P.length ≤ 1000000) (hl : B.length ≤ cB) (hm : cB ≤ 9223372036854775807) (hz : BL w0 pB B) (hrow : RowK w0 (some ⟨gD, oD, none⟩) 4 n (fun k => cellD (f k))) (hfind : findN P 0 (pathsN (fun k => (f k).P) n) = (i : Int))
    (x : Act) (w : World) (hB : Below w0.heap.size w0 w) (hdef : x.defers = df) (u0 : x.tmps.getD 0 undef = .slice (some ⟨gF, oF, none⟩) n cF) (u5 : x.tmps.getD 5 undef = .slice (some ⟨gD, oD, none⟩) n cD) (u11 : x.tmps.getD 11 undef = .int .i64 (i : Nat))
    (p58 : dbk16_val gD oD gF oF n cD cF i P pB B cB f 58 (x.tmps.getD 136 undef) w)
    (p54 : dbk16_val gD oD gF oF n cD cF i P pB B cB f 54 (x.tmps.getD 132 undef) w)
    : wpOpIn Fc nC Try.prog dbk16_ops Q 59 (fun a' w' => ∃ v, a' = x.put (some 137) v ∧ (v = .pointer (some ⟨gF, oF + i * 2, none⟩)) ∧ Below w.heap.size w w') x w := by
  have ho : dbk16_ops[59]? = some dbk16_o59 := rfl
  simp only [Array.getD_eq_getD_getElem?] at u0 u5 u11
  have q58 : x.tmps.getD 136 undef = .pointer (some ⟨gF, oF + i * 2, none⟩) := p58
  have q54 : x.tmps.getD 132 undef = .bool false := p54
  simp only [Array.getD_eq_getD_getElem?] at q58 q54
  have e54 : (dbk16_ops[54]?.bind fun x => x.dst) = some 132 := rfl
  have g54 := get_someT q54 (fun h => by cases h)
  refine wpOpIn_stepT hF ho (fun K hK => ?_)
  clear ho
  rw [Oper.semAt_plain Fc _ _ (by intro c h; cases h)]
  simp only [dbk16_o59]
  go_simp
  exact hK _ _ ⟨_, act_putD x hdef _ _, rfl, Below.refl _ _⟩
set_option maxRecDepth 100000 in
set_option maxHeartbeats 2000000 in
theorem dbk16_s60 {Fc : Fence} (hF : Wide Fc) {nC : Nat} (gD oD gF oF n cD cF i : Nat) (P : List UInt8) (pB : Option Addr) (B : List Nat) (cB : Nat) (f : Nat → DT) (Q : Exit → Act → World → Prop) (df : List Deferred) (w0 : World)
    (hi : i < n) (hn : n ≤ 4000) (d0 : w0.cell? ⟨gD, oD + i * 4, none⟩ = some (by8 P)) (d1 : w0.cell? ⟨gD, oD + i * 4 + 1, none⟩ = some (by8 (ofL P))) (d2 : w0.cell? ⟨gD, oD + i * 4 + 2, none⟩ = some (.int .u32 (crcL B : Nat))) (d3 : w0.cell? ⟨gD, oD + i * 4 + 3, none⟩ = some (.int .i64 (B.length : Nat))) (f0 : w0.cell? ⟨gF, oF + i * 2, none⟩ = some (by8 P)) (f1 : w0.cell? ⟨gF, oF + i * 2 + 1, none⟩ = some (.slice pB (B.length) cB)) (hp : P.length ≤ 1000000) (hl : B.length ≤ cB) (hm : cB ≤ 9223372036854775807) (hz : BL w0 pB B) (hrow : RowK w0 (some ⟨gD, oD, none⟩) 4 n (fun k => cellD (f k))) (hfind : findN P 0 (pathsN (fun k => (f k).P) n) = (i : Int))
    (x : Act) (w : World) (hB : Below w0.heap.size w0 w) (hdef : x.defers = df) (u0 : x.tmps.getD 0 undef = .slice (some ⟨gF, oF, none⟩) n cF) (u5 : x.tmps.getD 5 undef = .slice (some ⟨gD, oD, none⟩) n cD) (u11 : x.tmps.getD 11 undef = .int .i64 (i : Nat))
    (p59 : dbk16_val gD oD gF oF n cD cF i P pB B cB f 59 (x.tmps.getD 137 undef) w)
    (p54 : dbk16_val gD oD gF oF n cD cF i P pB B cB f 54 (x.tmps.getD 132 undef) w)
    : wpOpIn Fc nC Try.prog dbk16_ops Q 60 (fun a' w' => ∃ v, a' = x.put (some 138) v ∧ (v = by8 P) ∧ Below w.heap.size w w') x w := by
  have ho : dbk16_ops[60]? = some dbk16_o60 := rfl
  simp only [Array.getD_eq_getD_getElem?] at u0 u5 u11
  have q59 : x.tmps.getD 137 undef = .pointer (some ⟨gF, oF + i * 2, none⟩) := p59
  have q54 : x.tmps.getD 132 undef = .bool false := p54
  simp only [Array.getD_eq_getD_getElem?] at q59 q54
  have e54 : (dbk16_ops[54]?.bind fun x => x.dst) = some 132 := rfl
  have g54 := get_someT q54 (fun h => by cases h)
  have m := cell_thru f0 hB
  refine wpOpIn_stepT hF ho (fun K hK => ?_)
  clear ho
  rw [Oper.semAt_plain Fc _ _ (by intro c h; cases h)]
  simp only [dbk16_o60]
  go_simp
  exact hK _ _ ⟨_, act_putD x hdef _ _, rfl, Below.refl _ _⟩
set_option maxRecDepth 100000 in
set_option maxHeartbeats 2000000 in
theorem dbk16_s61 {Fc : Fence} (hF : Wide Fc) {nC : Nat} (gD oD gF oF n cD cF i : Nat) (P : List UInt8) (pB : Option Addr) (B : List Nat) (cB : Nat) (f : Nat → DT) (Q : Exit → Act → World → Prop) (df : List Deferred) (w0 : World)
    (hi : i < n) (hn : n ≤ 4000) (d0 : w0.cell? ⟨gD, oD + i * 4, none⟩ = some (by8 P)) (d1 : w0.cell? ⟨gD, oD + i * 4 + 1, none⟩ = some (by8 (ofL P))) (d2 : w0.cell? ⟨gD, oD + i * 4 + 2, none⟩ = some (.int .u32 (crcL B : Nat))) (d3 : w0.cell? ⟨gD, oD + i * 4 + 3, none⟩ = some (.int .i64 (B.length : Nat))) (f0 : w0.cell? ⟨gF, oF + i * 2, none⟩ = some (by8 P)) (f1 : w0.cell? ⟨gF, oF + i * 2 + 1, none⟩ = some (.slice pB (B.length) cB)) (hp : P.length ≤ 1000000) (hl : B.length ≤ cB) (hm : cB ≤ 9223372036854775807) (hz : BL w0 pB B) (hrow : RowK w0 (some ⟨gD, oD, none⟩) 4 n (fun k => cellD (f k))) (hfind : findN P 0 (pathsN (fun k => (f k).P) n) = (i : Int))
    (x : Act) (w : World) (hB : Below w0.heap.size w0 w) (hdef : x.defers = df) (u0 : x.tmps.getD 0 undef = .slice (some ⟨gF, oF, none⟩) n cF) (u5 : x.tmps.getD 5 undef = .slice (some ⟨gD, oD, none⟩) n cD) (u11 : x.tmps.getD 11 undef = .int .i64 (i : Nat))
    (p55 : dbk16_val gD oD gF oF n cD cF i P pB B cB f 55 (x.tmps.getD 133 undef) w)
    (p60 : dbk16_val gD oD gF oF n cD cF i P pB B cB f 60 (x.tmps.getD 138 undef) w)
    (p54 : dbk16_val gD oD gF oF n cD cF i P pB B cB f 54 (x.tmps.getD 132 undef) w)
    : wpOpIn Fc nC Try.prog dbk16_ops Q 61 (fun a' w' => ∃ v, a' = x.put (some 139) v ∧ (v = .int .i64 (i : Nat)) ∧ Below w.heap.size w w') x w := by
  have ho : dbk16_ops[61]? = some dbk16_o61 := rfl
  simp only [Array.getD_eq_getD_getElem?] at u0 u5 u11
  have q55 : x.tmps.getD 133 undef = .slice (some ⟨gD, oD, none⟩) n cD := p55
  have q60 : x.tmps.getD 138 undef = by8 P := p60
  have q54 : x.tmps.getD 132 undef = .bool false := p54
  simp only [Array.getD_eq_getD_getElem?] at q55 q60 q54
  have e54 : (dbk16_ops[54]?.bind fun x => x.dst) = some 132 := rfl
  have g54 := get_someT q54 (fun h => by cases h)
  refine wpOpIn_stepT hF ho (fun K hK => ?_)
  clear ho
  rw [Oper.semAt_plain Fc _ _ (by intro c h; cases h)]
  simp only [dbk16_o61]
  go_simp
  refine ⟨hF.deep, (hF.call (callsIn_wide.1 (find_in 40 (by omega) (some ⟨gD, oD, none⟩) n cD f P w (by omega) (hrow.below hB)))).mono ?_⟩
  rintro e w' ⟨rfl, hb⟩
  rw [hfind]
  exact hK _ _ ⟨_, act_putD x hdef _ _, rfl, hb⟩
set_option maxRecDepth 100000 in
set_option maxHeartbeats 2000000 in
theorem dbk16_s62 {Fc : Fence} (hF : Wide Fc) {nC : Nat} (gD oD gF oF n cD cF i : Nat) (P : List UInt8) (pB : Option Addr) (B : List Nat) (cB : Nat) (f : Nat → DT) (Q : Exit → Act → World → Prop) (df : List Deferred) (w0 : World)
    (hi : i < n) (hn : n ≤ 4000) (d0 : w0.cell? ⟨gD, oD + i * 4, none⟩ = some (by8 P)) (d1 : w0.cell? ⟨gD, oD + i * 4 + 1, none⟩ = some (by8 (ofL P))) (d2 : w0.cell? ⟨gD, oD + i * 4 + 2, none⟩ = some (.int .u32 (crcL B : Nat))) (d3 : w0.cell? ⟨gD, oD + i * 4 + 3, none⟩ = some (.int .i64 (B.length : Nat))) (f0 : w0.cell? ⟨gF, oF + i * 2, none⟩ = some (by8 P)) (f1 : w0.cell? ⟨gF, oF + i * 2 + 1, none⟩ = some (.slice pB (B.length) cB)) (hp : P.length ≤ 1000000) (hl : B.length ≤ cB) (hm : cB ≤ 9223372036854775807) (hz : BL w0 pB B) (hrow : RowK w0 (some ⟨gD, oD, none⟩) 4 n (fun k => cellD (f k))) (hfind : findN P 0 (pathsN (fun k => (f k).P) n) = (i : Int))
    (x : Act) (w : World) (hB : Below w0.heap.size w0 w) (hdef : x.defers = df) (u0 : x.tmps.getD 0 undef = .slice (some ⟨gF, oF, none⟩) n cF) (u5 : x.tmps.getD 5 undef = .slice (some ⟨gD, oD, none⟩) n cD) (u11 : x.tmps.getD 11 undef = .int .i64 (i : Nat))
    (p54 : dbk16_val gD oD gF oF n cD cF i P pB B cB f 54 (x.tmps.getD 132 undef) w)
    : wpOpIn Fc nC Try.prog dbk16_ops Q 62 (fun a' w' => ∃ v, a' = x.put (some 140) v ∧ (v = .int .i64 (i : Nat)) ∧ Below w.heap.size w w') x w := by
  have ho : dbk16_ops[62]? = some dbk16_o62 := rfl
  simp only [Array.getD_eq_getD_getElem?] at u0 u5 u11
  have q54 : x.tmps.getD 132 undef = .bool false := p54
  simp only [Array.getD_eq_getD_getElem?] at q54
  have e54 : (dbk16_ops[54]?.bind fun x => x.dst) = some 132 := rfl
  have g54 := get_someT q54 (fun h => by cases h)
  refine wpOpIn_stepT hF ho (fun K hK => ?_)
  clear ho
  rw [Oper.semAt_plain Fc _ _ (by intro c h; cases h)]
  simp only [dbk16_o62]
  go_simp
  exact hK _ _ ⟨_, act_putD x hdef _ _, rfl, Below.refl _ _⟩
set_option maxRecDepth 100000 in
set_option maxHeartbeats 2000000 in
theorem dbk16_s63 {Fc : Fence} (hF : Wide Fc) {nC : Nat} (gD oD gF oF n cD cF i : Nat) (P : List UInt8) (pB : Option Addr) (B : List Nat) (cB : Nat) (f : Nat → DT) (Q : Exit → Act → World → Prop) (df : List Deferred) (w0 : World)
    (hi : i < n) (hn : n ≤ 4000) (d0 : w0.cell? ⟨gD, oD + i * 4, none⟩ = some (by8 P)) (d1 : w0.cell? ⟨gD, oD + i * 4 + 1, none⟩ = some (by8 (ofL P))) (d2 : w0.cell? ⟨gD, oD + i * 4 + 2, none⟩ = some (.int .u32 (crcL B : Nat))) (d3 : w0.cell? ⟨gD, oD + i * 4 + 3, none⟩ = some (.int .i64 (B.length : Nat))) (f0 : w0.cell? ⟨gF, oF + i * 2, none⟩ = some (by8 P)) (f1 : w0.cell? ⟨gF, oF + i * 2 + 1, none⟩ = some (.slice pB (B.length) cB)) (hp : P.length ≤ 1000000) (hl : B.length ≤ cB) (hm : cB ≤ 9223372036854775807) (hz : BL w0 pB B) (hrow : RowK w0 (some ⟨gD, oD, none⟩) 4 n (fun k => cellD (f k))) (hfind : findN P 0 (pathsN (fun k => (f k).P) n) = (i : Int))
    (x : Act) (w : World) (hB : Below w0.heap.size w0 w) (hdef : x.defers = df) (u0 : x.tmps.getD 0 undef = .slice (some ⟨gF, oF, none⟩) n cF) (u5 : x.tmps.getD 5 undef = .slice (some ⟨gD, oD, none⟩) n cD) (u11 : x.tmps.getD 11 undef = .int .i64 (i : Nat))
    (p61 : dbk16_val gD oD gF oF n cD cF i P pB B cB f 61 (x.tmps.getD 139 undef) w)
    (p62 : dbk16_val gD oD gF oF n cD cF i P pB B cB f 62 (x.tmps.getD 140 undef) w)
    (p54 : dbk16_val gD oD gF oF n cD cF i P pB B cB f 54 (x.tmps.getD 132 undef) w)
    : wpOpIn Fc nC Try.prog dbk16_ops Q 63 (fun a' w' => ∃ v, a' = x.put (some 141) v ∧ (v = .bool false) ∧ Below w.heap.size w w') x w := by
  have ho : dbk16_ops[63]? = some dbk16_o63 := rfl
  simp only [Array.getD_eq_getD_getElem?] at u0 u5 u11
  have q61 : x.tmps.getD 139 undef = .int .i64 (i : Nat) := p61
  have q62 : x.tmps.getD 140 undef = .int .i64 (i : Nat) := p62
  have q54 : x.tmps.getD 132 undef = .bool false := p54
  simp only [Array.getD_eq_getD_getElem?] at q61 q62 q54
  have e54 : (dbk16_ops[54]?.bind fun x => x.dst) = some 132 := rfl
  have g54 := get_someT q54 (fun h => by cases h)
  refine wpOpIn_stepT hF ho (fun K hK => ?_)
  clear ho
  rw [Oper.semAt_plain Fc _ _ (by intro c h; cases h)]
  simp only [dbk16_o63]
  go_simp
  exact hK _ _ ⟨_, act_putD x hdef _ _, rfl, Below.refl _ _⟩
set_option maxRecDepth 100000 in
set_option maxHeartbeats 2000000 in
theorem dbk16_s64 {Fc : Fence} (hF : Wide Fc) {nC : Nat} (gD oD gF oF n cD cF i : Nat) (P : List UInt8) (pB : Option Addr) (B : List Nat) (cB : Nat) (f : Nat → DT) (Q : Exit → Act → World → Prop) (df : List Deferred) (w0 : World)
    (hi : i < n) (hn : n ≤ 4000) (d0 : w0.cell? ⟨gD, oD + i * 4, none⟩ = some (by8 P)) (d1 : w0.cell? ⟨gD, oD + i * 4 + 1, none⟩ = some (by8 (ofL P))) (d2 : w0.cell? ⟨gD, oD + i * 4 + 2, none⟩ = some (.int .u32 (crcL B : Nat))) (d3 : w0.cell? ⟨gD, oD + i * 4 + 3, none⟩ = some (.int .i64 (B.length : Nat))) (f0 : w0.cell? ⟨gF, oF + i * 2, none⟩ = some (by8 P)) (f1 : w0.cell? ⟨gF, oF + i * 2 + 1, none⟩ = some (.slice pB (B.length) cB)) (hp : P.length ≤ 1000000) (hl : B.length ≤ cB) (hm : cB ≤ 9223372036854775807) (hz : BL w0 pB B) (hrow : RowK w0 (some ⟨gD, oD, none⟩) 4 n (fun k => cellD (f k))) (hfind : findN P 0 (pathsN (fun k => (f k).P) n) = (i : Int))
    (x : Act) (w : World) (hB : Below w0.heap.size w0 w) (hdef : x.defers = df) (u0 : x.tmps.getD 0 undef = .slice (some ⟨gF, oF, none⟩) n cF) (u5 : x.tmps.getD 5 undef = .slice (some ⟨gD, oD, none⟩) n cD) (u11 : x.tmps.getD 11 undef = .int .i64 (i : Nat))
    (p54 : dbk16_val gD oD gF oF n cD cF i P pB B cB f 54 (x.tmps.getD 132 undef) w)
    (p63 : dbk16_val gD oD gF oF n cD cF i P pB B cB f 63 (x.tmps.getD 141 undef) w)
    : wpOpIn Fc nC Try.prog dbk16_ops Q 64 (fun a' w' => ∃ v, a' = x.put (some 142) v ∧ (v = .bool false) ∧ Below w.heap.size w w') x w := by
  have ho : dbk16_ops[64]? = some dbk16_o64 := rfl
  simp only [Array.getD_eq_getD_getElem?] at u0 u5 u11
  have q54 : x.tmps.getD 132 undef = .bool false := p54
  have q63 : x.tmps.getD 141 undef = .bool false := p63
  simp only [Array.getD_eq_getD_getElem?] at q54 q63
  refine wpOpIn_plain ho rfl (oper_inK hF.fn (fun K hK => ?_))
  clear ho
  rw [Oper.semAt_plain Fc _ _ (by intro c h; cases h)]
  simp only [dbk16_o64]
  go_simp
  exact hK _ _ ⟨_, act_putD x hdef _ _, rfl, Below.refl _ _⟩

set_option maxRecDepth 100000 in
set_option maxHeartbeats 4000000 in
theorem dbk16 {Fc : Fence} (hF : Wide Fc) {nC : Nat} (gD oD gF oF n cD cF i : Nat) (P : List UInt8) (pB : Option Addr) (B : List Nat) (cB : Nat) (f : Nat → DT) (Q : Exit → Act → World → Prop) (t0 : Array Value) (df : List Deferred) (w0 : World) (ht : t0.size = 173)
    (hs0 : t0.getD 0 undef = .slice (some ⟨gF, oF, none⟩) n cF) (hs5 : t0.getD 5 undef = .slice (some ⟨gD, oD, none⟩) n cD) (hs11 : t0.getD 11 undef = .int .i64 (i : Nat))
    (hi : i < n) (hn : n ≤ 4000) (d0 : w0.cell? ⟨gD, oD + i * 4, none⟩ = some (by8 P)) (d1 : w0.cell? ⟨gD, oD + i * 4 + 1, none⟩ = some (by8 (ofL P))) (d2 : w0.cell? ⟨gD, oD + i * 4 + 2, none⟩ = some (.int .u32 (crcL B : Nat))) (d3 : w0.cell? ⟨gD, oD + i * 4 + 3, none⟩ = some (.int .i64 (B.length : Nat))) (f0 : w0.cell? ⟨gF, oF + i * 2, none⟩ = some (by8 P)) (f1 : w0.cell? ⟨gF, oF + i * 2 + 1, none⟩ = some (.slice pB (B.length) cB)) (hp : P.length ≤ 1000000) (hl : B.length ≤ cB) (hm : cB ≤ 9223372036854775807) (hz : BL w0 pB B) (hrow : RowK w0 (some ⟨gD, oD, none⟩) 4 n (fun k => cellD (f k))) (hfind : findN P 0 (pathsN (fun k => (f k).P) n) = (i : Int))
    (hQ : ∀ (vs : Nat → Value) (w : World), Below w0.heap.size w0 w → (vs 142 = .bool false) → Q .normal { tmps := [78, 79, 80, 81, 82, 83, 84, 85, 86, 87, 88, 89, 90, 91, 92, 93, 94, 95, 96, 97, 98, 99, 100, 101, 102, 103, 104, 105, 106, 107, 108, 109, 110, 111, 112, 113, 114, 115, 116, 117, 118, 119, 120, 121, 122, 123, 124, 125, 126, 127, 128, 129, 130, 131, 132, 133, 134, 135, 136, 137, 138, 139, 140, 141, 142].foldl (fun y d => y.setIfInBounds d (vs d)) t0, defers := df } w) :
    (Code.region 16 dbk16_ops true).wpIn Fc nC Try.prog Q { tmps := t0, defers := df } w0 := by
  refine wpIn_region_tail 65 (by decide) (by kernel_rfl) (fun a b => Below a.heap.size a b) (dbk16_val gD oD gF oF n cD cF i P pB B cB f) t0 df w0 (by rw [ht]; kernel_rfl) (by kernel_rfl) (by kernel_rfl) (by kernel_rfl) ((Below.refl _ _).drew) (fun _ _ _ h k => h.trans (k.mono h.size)) (dbk16_below gD oD gF oF n cD cF i P pB B cB f) ?_ ?_
  · intro j o ho hj x w hB hdef hsz hs hdeps
    have hs' : ∀ s, ¬ dbk16_mem s → x.tmps.getD s undef = t0.getD s undef := fun s hn => hs s (fun j hj e => hn (by rw [e]; exact dbk16_slots j hj))
    have u0 := (hs' 0 (by decide)).trans hs0
    have u5 := (hs' 5 (by decide)).trans hs5
    have u11 := (hs' 11 (by decide)).trans hs11
    match j, ho, hj with
    | 0, ho, _ =>
      have e : o = dbk16_o0 := (Option.some.inj ho).symm
      subst e
      exact dbk16_s0 hF gD oD gF oF n cD cF i P pB B cB f Q df w0 hi hn d0 d1 d2 d3 f0 f1 hp hl hm hz hrow hfind x w hB hdef u0 u5 u11 
    | 1, ho, _ =>
      have e : o = dbk16_o1 := (Option.some.inj ho).symm
      subst e
      exact dbk16_s1 hF gD oD gF oF n cD cF i P pB B cB f Q df w0 hi hn d0 d1 d2 d3 f0 f1 hp hl hm hz hrow hfind x w hB hdef u0 u5 u11 
    | 2, ho, _ =>
      have e : o = dbk16_o2 := (Option.some.inj ho).symm
      subst e
      exact dbk16_s2 hF gD oD gF oF n cD cF i P pB B cB f Q df w0 hi hn d0 d1 d2 d3 f0 f1 hp hl hm hz hrow hfind x w hB hdef u0 u5 u11 (hdeps { on := 0, ground := Ground.data } (by simp) rfl) (hdeps { on := 1, ground := Ground.data } (by simp) rfl)
    | 3, ho, _ =>
      have e : o = dbk16_o3 := (Option.some.inj ho).symm
      subst e
      exact dbk16_s3 hF gD oD gF oF n cD cF i P pB B cB f Q df w0 hi hn d0 d1 d2 d3 f0 f1 hp hl hm hz hrow hfind x w hB hdef u0 u5 u11 (hdeps { on := 2, ground := Ground.data } (by simp) rfl)
    | 4, ho, _ =>
      have e : o = dbk16_o4 := (Option.some.inj ho).symm
      subst e
      exact dbk16_s4 hF gD oD gF oF n cD cF i P pB B cB f Q df w0 hi hn d0 d1 d2 d3 f0 f1 hp hl hm hz hrow hfind x w hB hdef u0 u5 u11 (hdeps { on := 3, ground := Ground.data } (by simp) rfl)
    | 5, ho, _ =>
      have e : o = dbk16_o5 := (Option.some.inj ho).symm
      subst e
      exact dbk16_s5 hF gD oD gF oF n cD cF i P pB B cB f Q df w0 hi hn d0 d1 d2 d3 f0 f1 hp hl hm hz hrow hfind x w hB hdef u0 u5 u11 
    | 6, ho, _ =>
      have e : o = dbk16_o6 := (Option.some.inj ho).symm
      subst e
      exact dbk16_s6 hF gD oD gF oF n cD cF i P pB B cB f Q df w0 hi hn d0 d1 d2 d3 f0 f1 hp hl hm hz hrow hfind x w hB hdef u0 u5 u11 
    | 7, ho, _ =>
      have e : o = dbk16_o7 := (Option.some.inj ho).symm
      subst e
      exact dbk16_s7 hF gD oD gF oF n cD cF i P pB B cB f Q df w0 hi hn d0 d1 d2 d3 f0 f1 hp hl hm hz hrow hfind x w hB hdef u0 u5 u11 (hdeps { on := 5, ground := Ground.data } (by simp) rfl) (hdeps { on := 6, ground := Ground.data } (by simp) rfl)
    | 8, ho, _ =>
      have e : o = dbk16_o8 := (Option.some.inj ho).symm
      subst e
      exact dbk16_s8 hF gD oD gF oF n cD cF i P pB B cB f Q df w0 hi hn d0 d1 d2 d3 f0 f1 hp hl hm hz hrow hfind x w hB hdef u0 u5 u11 (hdeps { on := 7, ground := Ground.data } (by simp) rfl)
    | 9, ho, _ =>
      have e : o = dbk16_o9 := (Option.some.inj ho).symm
      subst e
      exact dbk16_s9 hF gD oD gF oF n cD cF i P pB B cB f Q df w0 hi hn d0 d1 d2 d3 f0 f1 hp hl hm hz hrow hfind x w hB hdef u0 u5 u11 (hdeps { on := 8, ground := Ground.data } (by simp) rfl)
    | 10, ho, _ =>
      have e : o = dbk16_o10 := (Option.some.inj ho).symm
      subst e
      exact dbk16_s10 hF gD oD gF oF n cD cF i P pB B cB f Q df w0 hi hn d0 d1 d2 d3 f0 f1 hp hl hm hz hrow hfind x w hB hdef u0 u5 u11 (hdeps { on := 4, ground := Ground.data } (by simp) rfl) (hdeps { on := 9, ground := Ground.data } (by simp) rfl)
    | 11, ho, _ =>
      have e : o = dbk16_o11 := (Option.some.inj ho).symm
      subst e
      exact dbk16_s11 hF gD oD gF oF n cD cF i P pB B cB f Q df w0 hi hn d0 d1 d2 d3 f0 f1 hp hl hm hz hrow hfind x w hB hdef u0 u5 u11 (hdeps { on := 10, ground := Ground.data } (by simp) rfl)
    | 12, ho, _ =>
      have e : o = dbk16_o12 := (Option.some.inj ho).symm
      subst e
      exact dbk16_s12 hF gD oD gF oF n cD cF i P pB B cB f Q df w0 hi hn d0 d1 d2 d3 f0 f1 hp hl hm hz hrow hfind x w hB hdef u0 u5 u11 (hdeps { on := 11, ground := Ground.guard } (by simp) rfl)
    | 13, ho, _ =>
      have e : o = dbk16_o13 := (Option.some.inj ho).symm
      subst e
      exact dbk16_s13 hF gD oD gF oF n cD cF i P pB B cB f Q df w0 hi hn d0 d1 d2 d3 f0 f1 hp hl hm hz hrow hfind x w hB hdef u0 u5 u11 (hdeps { on := 11, ground := Ground.guard } (by simp) rfl)
    | 14, ho, _ =>
      have e : o = dbk16_o14 := (Option.some.inj ho).symm
      subst e
      exact dbk16_s14 hF gD oD gF oF n cD cF i P pB B cB f Q df w0 hi hn d0 d1 d2 d3 f0 f1 hp hl hm hz hrow hfind x w hB hdef u0 u5 u11 (hdeps { on := 12, ground := Ground.data } (by simp) rfl) (hdeps { on := 13, ground := Ground.data } (by simp) rfl) (hdeps { on := 11, ground := Ground.guard } (by simp) rfl)
    | 15, ho, _ =>
      have e : o = dbk16_o15 := (Option.some.inj ho).symm
      subst e
      exact dbk16_s15 hF gD oD gF oF n cD cF i P pB B cB f Q df w0 hi hn d0 d1 d2 d3 f0 f1 hp hl hm hz hrow hfind x w hB hdef u0 u5 u11 (hdeps { on := 14, ground := Ground.data } (by simp) rfl) (hdeps { on := 11, ground := Ground.guard } (by simp) rfl)
    | 16, ho, _ =>
      have e : o = dbk16_o16 := (Option.some.inj ho).symm
      subst e
      exact dbk16_s16 hF gD oD gF oF n cD cF i P pB B cB f Q df w0 hi hn d0 d1 d2 d3 f0 f1 hp hl hm hz hrow hfind x w hB hdef u0 u5 u11 (hdeps { on := 15, ground := Ground.data } (by simp) rfl) (hdeps { on := 11, ground := Ground.guard } (by simp) rfl)
    | 17, ho, _ =>
      have e : o = dbk16_o17 := (Option.some.inj ho).symm
      subst e
      exact dbk16_s17 hF gD oD gF oF n cD cF i P pB B cB f Q df w0 hi hn d0 d1 d2 d3 f0 f1 hp hl hm hz hrow hfind x w hB hdef u0 u5 u11 (hdeps { on := 11, ground := Ground.guard } (by simp) rfl)
    | 18, ho, _ =>
      have e : o = dbk16_o18 := (Option.some.inj ho).symm
      subst e
      exact dbk16_s18 hF gD oD gF oF n cD cF i P pB B cB f Q df w0 hi hn d0 d1 d2 d3 f0 f1 hp hl hm hz hrow hfind x w hB hdef u0 u5 u11 (hdeps { on := 11, ground := Ground.guard } (by simp) rfl)
    | 19, ho, _ =>
      have e : o = dbk16_o19 := (Option.some.inj ho).symm
      subst e
      exact dbk16_s19 hF gD oD gF oF n cD cF i P pB B cB f Q df w0 hi hn d0 d1 d2 d3 f0 f1 hp hl hm hz hrow hfind x w hB hdef u0 u5 u11 (hdeps { on := 17, ground := Ground.data } (by simp) rfl) (hdeps { on := 18, ground := Ground.data } (by simp) rfl) (hdeps { on := 11, ground := Ground.guard } (by simp) rfl)
    | 20, ho, _ =>
      have e : o = dbk16_o20 := (Option.some.inj ho).symm
      subst e
      exact dbk16_s20 hF gD oD gF oF n cD cF i P pB B cB f Q df w0 hi hn d0 d1 d2 d3 f0 f1 hp hl hm hz hrow hfind x w hB hdef u0 u5 u11 (hdeps { on := 19, ground := Ground.data } (by simp) rfl) (hdeps { on := 11, ground := Ground.guard } (by simp) rfl)
    | 21, ho, _ =>
      have e : o = dbk16_o21 := (Option.some.inj ho).symm
      subst e
      exact dbk16_s21 hF gD oD gF oF n cD cF i P pB B cB f Q df w0 hi hn d0 d1 d2 d3 f0 f1 hp hl hm hz hrow hfind x w hB hdef u0 u5 u11 (hdeps { on := 20, ground := Ground.data } (by simp) rfl) (hdeps { on := 11, ground := Ground.guard } (by simp) rfl)
    | 22, ho, _ =>
      have e : o = dbk16_o22 := (Option.some.inj ho).symm
      subst e
      exact dbk16_s22 hF gD oD gF oF n cD cF i P pB B cB f Q df w0 hi hn d0 d1 d2 d3 f0 f1 hp hl hm hz hrow hfind x w hB hdef u0 u5 u11 (hdeps { on := 21, ground := Ground.data } (by simp) rfl) (hdeps { on := 11, ground := Ground.guard } (by simp) rfl)
    | 23, ho, _ =>
      have e : o = dbk16_o23 := (Option.some.inj ho).symm
      subst e
      exact dbk16_s23 hF gD oD gF oF n cD cF i P pB B cB f Q df w0 hi hn d0 d1 d2 d3 f0 f1 hp hl hm hz hrow hfind x w hB hdef u0 u5 u11 (hdeps { on := 16, ground := Ground.data } (by simp) rfl) (hdeps { on := 22, ground := Ground.data } (by simp) rfl) (hdeps { on := 11, ground := Ground.guard } (by simp) rfl)
    | 24, ho, _ =>
      have e : o = dbk16_o24 := (Option.some.inj ho).symm
      subst e
      exact dbk16_s24 hF gD oD gF oF n cD cF i P pB B cB f Q df w0 hi hn d0 d1 d2 d3 f0 f1 hp hl hm hz hrow hfind x w hB hdef u0 u5 u11 (hdeps { on := 11, ground := Ground.data } (by simp) rfl) (hdeps { on := 23, ground := Ground.data } (by simp) rfl)
    | 25, ho, _ =>
      have e : o = dbk16_o25 := (Option.some.inj ho).symm
      subst e
      exact dbk16_s25 hF gD oD gF oF n cD cF i P pB B cB f Q df w0 hi hn d0 d1 d2 d3 f0 f1 hp hl hm hz hrow hfind x w hB hdef u0 u5 u11 (hdeps { on := 24, ground := Ground.data } (by simp) rfl)
    | 26, ho, _ =>
      have e : o = dbk16_o26 := (Option.some.inj ho).symm
      subst e
      exact dbk16_s26 hF gD oD gF oF n cD cF i P pB B cB f Q df w0 hi hn d0 d1 d2 d3 f0 f1 hp hl hm hz hrow hfind x w hB hdef u0 u5 u11 (hdeps { on := 25, ground := Ground.guard } (by simp) rfl)
    | 27, ho, _ =>
      have e : o = dbk16_o27 := (Option.some.inj ho).symm
      subst e
      exact dbk16_s27 hF gD oD gF oF n cD cF i P pB B cB f Q df w0 hi hn d0 d1 d2 d3 f0 f1 hp hl hm hz hrow hfind x w hB hdef u0 u5 u11 (hdeps { on := 25, ground := Ground.guard } (by simp) rfl)
    | 28, ho, _ =>
      have e : o = dbk16_o28 := (Option.some.inj ho).symm
      subst e
      exact dbk16_s28 hF gD oD gF oF n cD cF i P pB B cB f Q df w0 hi hn d0 d1 d2 d3 f0 f1 hp hl hm hz hrow hfind x w hB hdef u0 u5 u11 (hdeps { on := 26, ground := Ground.data } (by simp) rfl) (hdeps { on := 27, ground := Ground.data } (by simp) rfl) (hdeps { on := 25, ground := Ground.guard } (by simp) rfl)
    | 29, ho, _ =>
      have e : o = dbk16_o29 := (Option.some.inj ho).symm
      subst e
      exact dbk16_s29 hF gD oD gF oF n cD cF i P pB B cB f Q df w0 hi hn d0 d1 d2 d3 f0 f1 hp hl hm hz hrow hfind x w hB hdef u0 u5 u11 (hdeps { on := 28, ground := Ground.data } (by simp) rfl) (hdeps { on := 25, ground := Ground.guard } (by simp) rfl)
    | 30, ho, _ =>
      have e : o = dbk16_o30 := (Option.some.inj ho).symm
      subst e
      exact dbk16_s30 hF gD oD gF oF n cD cF i P pB B cB f Q df w0 hi hn d0 d1 d2 d3 f0 f1 hp hl hm hz hrow hfind x w hB hdef u0 u5 u11 (hdeps { on := 29, ground := Ground.data } (by simp) rfl) (hdeps { on := 25, ground := Ground.guard } (by simp) rfl)
    | 31, ho, _ =>
      have e : o = dbk16_o31 := (Option.some.inj ho).symm
      subst e
      exact dbk16_s31 hF gD oD gF oF n cD cF i P pB B cB f Q df w0 hi hn d0 d1 d2 d3 f0 f1 hp hl hm hz hrow hfind x w hB hdef u0 u5 u11 (hdeps { on := 25, ground := Ground.guard } (by simp) rfl)
    | 32, ho, _ =>
      have e : o = dbk16_o32 := (Option.some.inj ho).symm
      subst e
      exact dbk16_s32 hF gD oD gF oF n cD cF i P pB B cB f Q df w0 hi hn d0 d1 d2 d3 f0 f1 hp hl hm hz hrow hfind x w hB hdef u0 u5 u11 (hdeps { on := 25, ground := Ground.guard } (by simp) rfl)
    | 33, ho, _ =>
      have e : o = dbk16_o33 := (Option.some.inj ho).symm
      subst e
      exact dbk16_s33 hF gD oD gF oF n cD cF i P pB B cB f Q df w0 hi hn d0 d1 d2 d3 f0 f1 hp hl hm hz hrow hfind x w hB hdef u0 u5 u11 (hdeps { on := 31, ground := Ground.data } (by simp) rfl) (hdeps { on := 32, ground := Ground.data } (by simp) rfl) (hdeps { on := 25, ground := Ground.guard } (by simp) rfl)
    | 34, ho, _ =>
      have e : o = dbk16_o34 := (Option.some.inj ho).symm
      subst e
      exact dbk16_s34 hF gD oD gF oF n cD cF i P pB B cB f Q df w0 hi hn d0 d1 d2 d3 f0 f1 hp hl hm hz hrow hfind x w hB hdef u0 u5 u11 (hdeps { on := 33, ground := Ground.data } (by simp) rfl) (hdeps { on := 25, ground := Ground.guard } (by simp) rfl)
    | 35, ho, _ =>
      have e : o = dbk16_o35 := (Option.some.inj ho).symm
      subst e
      exact dbk16_s35 hF gD oD gF oF n cD cF i P pB B cB f Q df w0 hi hn d0 d1 d2 d3 f0 f1 hp hl hm hz hrow hfind x w hB hdef u0 u5 u11 (hdeps { on := 34, ground := Ground.data } (by simp) rfl) (hdeps { on := 25, ground := Ground.guard } (by simp) rfl)
    | 36, ho, _ =>
      have e : o = dbk16_o36 := (Option.some.inj ho).symm
      subst e
      exact dbk16_s36 hF gD oD gF oF n cD cF i P pB B cB f Q df w0 hi hn d0 d1 d2 d3 f0 f1 hp hl hm hz hrow hfind x w hB hdef u0 u5 u11 (hdeps { on := 35, ground := Ground.data } (by simp) rfl) (hdeps { on := 25, ground := Ground.guard } (by simp) rfl)
    | 37, ho, _ =>
      have e : o = dbk16_o37 := (Option.some.inj ho).symm
      subst e
      exact dbk16_s37 hF gD oD gF oF n cD cF i P pB B cB f Q df w0 hi hn d0 d1 d2 d3 f0 f1 hp hl hm hz hrow hfind x w hB hdef u0 u5 u11 (hdeps { on := 30, ground := Ground.data } (by simp) rfl) (hdeps { on := 36, ground := Ground.data } (by simp) rfl) (hdeps { on := 25, ground := Ground.guard } (by simp) rfl)
    | 38, ho, _ =>
      have e : o = dbk16_o38 := (Option.some.inj ho).symm
      subst e
      exact dbk16_s38 hF gD oD gF oF n cD cF i P pB B cB f Q df w0 hi hn d0 d1 d2 d3 f0 f1 hp hl hm hz hrow hfind x w hB hdef u0 u5 u11 (hdeps { on := 25, ground := Ground.data } (by simp) rfl) (hdeps { on := 37, ground := Ground.data } (by simp) rfl)
    | 39, ho, _ =>
      have e : o = dbk16_o39 := (Option.some.inj ho).symm
      subst e
      exact dbk16_s39 hF gD oD gF oF n cD cF i P pB B cB f Q df w0 hi hn d0 d1 d2 d3 f0 f1 hp hl hm hz hrow hfind x w hB hdef u0 u5 u11 (hdeps { on := 38, ground := Ground.data } (by simp) rfl)
    | 40, ho, _ =>
      have e : o = dbk16_o40 := (Option.some.inj ho).symm
      subst e
      exact dbk16_s40 hF gD oD gF oF n cD cF i P pB B cB f Q df w0 hi hn d0 d1 d2 d3 f0 f1 hp hl hm hz hrow hfind x w hB hdef u0 u5 u11 (hdeps { on := 39, ground := Ground.guard } (by simp) rfl)
    | 41, ho, _ =>
      have e : o = dbk16_o41 := (Option.some.inj ho).symm
      subst e
      exact dbk16_s41 hF gD oD gF oF n cD cF i P pB B cB f Q df w0 hi hn d0 d1 d2 d3 f0 f1 hp hl hm hz hrow hfind x w hB hdef u0 u5 u11 (hdeps { on := 39, ground := Ground.guard } (by simp) rfl)
    | 42, ho, _ =>
      have e : o = dbk16_o42 := (Option.some.inj ho).symm
      subst e
      exact dbk16_s42 hF gD oD gF oF n cD cF i P pB B cB f Q df w0 hi hn d0 d1 d2 d3 f0 f1 hp hl hm hz hrow hfind x w hB hdef u0 u5 u11 (hdeps { on := 40, ground := Ground.data } (by simp) rfl) (hdeps { on := 41, ground := Ground.data } (by simp) rfl) (hdeps { on := 39, ground := Ground.guard } (by simp) rfl)
    | 43, ho, _ =>
      have e : o = dbk16_o43 := (Option.some.inj ho).symm
      subst e
      exact dbk16_s43 hF gD oD gF oF n cD cF i P pB B cB f Q df w0 hi hn d0 d1 d2 d3 f0 f1 hp hl hm hz hrow hfind x w hB hdef u0 u5 u11 (hdeps { on := 42, ground := Ground.data } (by simp) rfl) (hdeps { on := 39, ground := Ground.guard } (by simp) rfl)
    | 44, ho, _ =>
      have e : o = dbk16_o44 := (Option.some.inj ho).symm
      subst e
      exact dbk16_s44 hF gD oD gF oF n cD cF i P pB B cB f Q df w0 hi hn d0 d1 d2 d3 f0 f1 hp hl hm hz hrow hfind x w hB hdef u0 u5 u11 (hdeps { on := 43, ground := Ground.data } (by simp) rfl) (hdeps { on := 39, ground := Ground.guard } (by simp) rfl)
    | 45, ho, _ =>
      have e : o = dbk16_o45 := (Option.some.inj ho).symm
      subst e
      exact dbk16_s45 hF gD oD gF oF n cD cF i P pB B cB f Q df w0 hi hn d0 d1 d2 d3 f0 f1 hp hl hm hz hrow hfind x w hB hdef u0 u5 u11 (hdeps { on := 39, ground := Ground.guard } (by simp) rfl)
    | 46, ho, _ =>
      have e : o = dbk16_o46 := (Option.some.inj ho).symm
      subst e
      exact dbk16_s46 hF gD oD gF oF n cD cF i P pB B cB f Q df w0 hi hn d0 d1 d2 d3 f0 f1 hp hl hm hz hrow hfind x w hB hdef u0 u5 u11 (hdeps { on := 39, ground := Ground.guard } (by simp) rfl)
    | 47, ho, _ =>
      have e : o = dbk16_o47 := (Option.some.inj ho).symm
      subst e
      exact dbk16_s47 hF gD oD gF oF n cD cF i P pB B cB f Q df w0 hi hn d0 d1 d2 d3 f0 f1 hp hl hm hz hrow hfind x w hB hdef u0 u5 u11 (hdeps { on := 45, ground := Ground.data } (by simp) rfl) (hdeps { on := 46, ground := Ground.data } (by simp) rfl) (hdeps { on := 39, ground := Ground.guard } (by simp) rfl)
    | 48, ho, _ =>
      have e : o = dbk16_o48 := (Option.some.inj ho).symm
      subst e
      exact dbk16_s48 hF gD oD gF oF n cD cF i P pB B cB f Q df w0 hi hn d0 d1 d2 d3 f0 f1 hp hl hm hz hrow hfind x w hB hdef u0 u5 u11 (hdeps { on := 47, ground := Ground.data } (by simp) rfl) (hdeps { on := 39, ground := Ground.guard } (by simp) rfl)
    | 49, ho, _ =>
      have e : o = dbk16_o49 := (Option.some.inj ho).symm
      subst e
      exact dbk16_s49 hF gD oD gF oF n cD cF i P pB B cB f Q df w0 hi hn d0 d1 d2 d3 f0 f1 hp hl hm hz hrow hfind x w hB hdef u0 u5 u11 (hdeps { on := 48, ground := Ground.data } (by simp) rfl) (hdeps { on := 39, ground := Ground.guard } (by simp) rfl)
    | 50, ho, _ =>
      have e : o = dbk16_o50 := (Option.some.inj ho).symm
      subst e
      exact dbk16_s50 hF gD oD gF oF n cD cF i P pB B cB f Q df w0 hi hn d0 d1 d2 d3 f0 f1 hp hl hm hz hrow hfind x w hB hdef u0 u5 u11 (hdeps { on := 49, ground := Ground.data } (by simp) rfl) (hdeps { on := 39, ground := Ground.guard } (by simp) rfl)
    | 51, ho, _ =>
      have e : o = dbk16_o51 := (Option.some.inj ho).symm
      subst e
      exact dbk16_s51 hF gD oD gF oF n cD cF i P pB B cB f Q df w0 hi hn d0 d1 d2 d3 f0 f1 hp hl hm hz hrow hfind x w hB hdef u0 u5 u11 (hdeps { on := 50, ground := Ground.data } (by simp) rfl) (hdeps { on := 39, ground := Ground.guard } (by simp) rfl)
    | 52, ho, _ =>
      have e : o = dbk16_o52 := (Option.some.inj ho).symm
      subst e
      exact dbk16_s52 hF gD oD gF oF n cD cF i P pB B cB f Q df w0 hi hn d0 d1 d2 d3 f0 f1 hp hl hm hz hrow hfind x w hB hdef u0 u5 u11 (hdeps { on := 44, ground := Ground.data } (by simp) rfl) (hdeps { on := 51, ground := Ground.data } (by simp) rfl) (hdeps { on := 39, ground := Ground.guard } (by simp) rfl)
    | 53, ho, _ =>
      have e : o = dbk16_o53 := (Option.some.inj ho).symm
      subst e
      exact dbk16_s53 hF gD oD gF oF n cD cF i P pB B cB f Q df w0 hi hn d0 d1 d2 d3 f0 f1 hp hl hm hz hrow hfind x w hB hdef u0 u5 u11 (hdeps { on := 39, ground := Ground.data } (by simp) rfl) (hdeps { on := 52, ground := Ground.data } (by simp) rfl)
    | 54, ho, _ =>
      have e : o = dbk16_o54 := (Option.some.inj ho).symm
      subst e
      exact dbk16_s54 hF gD oD gF oF n cD cF i P pB B cB f Q df w0 hi hn d0 d1 d2 d3 f0 f1 hp hl hm hz hrow hfind x w hB hdef u0 u5 u11 (hdeps { on := 53, ground := Ground.data } (by simp) rfl)
    | 55, ho, _ =>
      have e : o = dbk16_o55 := (Option.some.inj ho).symm
      subst e
      exact dbk16_s55 hF gD oD gF oF n cD cF i P pB B cB f Q df w0 hi hn d0 d1 d2 d3 f0 f1 hp hl hm hz hrow hfind x w hB hdef u0 u5 u11 (hdeps { on := 54, ground := Ground.guard } (by simp) rfl)
    | 56, ho, _ =>
      have e : o = dbk16_o56 := (Option.some.inj ho).symm
      subst e
      exact dbk16_s56 hF gD oD gF oF n cD cF i P pB B cB f Q df w0 hi hn d0 d1 d2 d3 f0 f1 hp hl hm hz hrow hfind x w hB hdef u0 u5 u11 (hdeps { on := 54, ground := Ground.guard } (by simp) rfl)
    | 57, ho, _ =>
      have e : o = dbk16_o57 := (Option.some.inj ho).symm
      subst e
      exact dbk16_s57 hF gD oD gF oF n cD cF i P pB B cB f Q df w0 hi hn d0 d1 d2 d3 f0 f1 hp hl hm hz hrow hfind x w hB hdef u0 u5 u11 (hdeps { on := 54, ground := Ground.guard } (by simp) rfl)
    | 58, ho, _ =>
      have e : o = dbk16_o58 := (Option.some.inj ho).symm
      subst e
      exact dbk16_s58 hF gD oD gF oF n cD cF i P pB B cB f Q df w0 hi hn d0 d1 d2 d3 f0 f1 hp hl hm hz hrow hfind x w hB hdef u0 u5 u11 (hdeps { on := 56, ground := Ground.data } (by simp) rfl) (hdeps { on := 57, ground := Ground.data } (by simp) rfl) (hdeps { on := 54, ground := Ground.guard } (by simp) rfl)
    | 59, ho, _ =>
      have e : o = dbk16_o59 := (Option.some.inj ho).symm
      subst e
      exact dbk16_s59 hF gD oD gF oF n cD cF i P pB B cB f Q df w0 hi hn d0 d1 d2 d3 f0 f1 hp hl hm hz hrow hfind x w hB hdef u0 u5 u11 (hdeps { on := 58, ground := Ground.data } (by simp) rfl) (hdeps { on := 54, ground := Ground.guard } (by simp) rfl)
    | 60, ho, _ =>
      have e : o = dbk16_o60 := (Option.some.inj ho).symm
      subst e
      exact dbk16_s60 hF gD oD gF oF n cD cF i P pB B cB f Q df w0 hi hn d0 d1 d2 d3 f0 f1 hp hl hm hz hrow hfind x w hB hdef u0 u5 u11 (hdeps { on := 59, ground := Ground.data } (by simp) rfl) (hdeps { on := 54, ground := Ground.guard } (by simp) rfl)
    | 61, ho, _ =>
      have e : o = dbk16_o61 := (Option.some.inj ho).symm
      subst e
      exact dbk16_s61 hF gD oD gF oF n cD cF i P pB B cB f Q df w0 hi hn d0 d1 d2 d3 f0 f1 hp hl hm hz hrow hfind x w hB hdef u0 u5 u11 (hdeps { on := 55, ground := Ground.data } (by simp) rfl) (hdeps { on := 60, ground := Ground.data } (by simp) rfl) (hdeps { on := 54, ground := Ground.guard } (by simp) rfl)
    | 62, ho, _ =>
      have e : o = dbk16_o62 := (Option.some.inj ho).symm
      subst e
      exact dbk16_s62 hF gD oD gF oF n cD cF i P pB B cB f Q df w0 hi hn d0 d1 d2 d3 f0 f1 hp hl hm hz hrow hfind x w hB hdef u0 u5 u11 (hdeps { on := 54, ground := Ground.guard } (by simp) rfl)
    | 63, ho, _ =>
      have e : o = dbk16_o63 := (Option.some.inj ho).symm
      subst e
      exact dbk16_s63 hF gD oD gF oF n cD cF i P pB B cB f Q df w0 hi hn d0 d1 d2 d3 f0 f1 hp hl hm hz hrow hfind x w hB hdef u0 u5 u11 (hdeps { on := 61, ground := Ground.data } (by simp) rfl) (hdeps { on := 62, ground := Ground.data } (by simp) rfl) (hdeps { on := 54, ground := Ground.guard } (by simp) rfl)
    | 64, ho, _ =>
      have e : o = dbk16_o64 := (Option.some.inj ho).symm
      subst e
      exact dbk16_s64 hF gD oD gF oF n cD cF i P pB B cB f Q df w0 hi hn d0 d1 d2 d3 f0 f1 hp hl hm hz hrow hfind x w hB hdef u0 u5 u11 (hdeps { on := 54, ground := Ground.data } (by simp) rfl) (hdeps { on := 63, ground := Ground.data } (by simp) rfl)
    | k + 65, _, hj => omega
  · intro x w hB hdef hsz hs hv
    have hx := frame_sets x.tmps t0 hsz [78, 79, 80, 81, 82, 83, 84, 85, 86, 87, 88, 89, 90, 91, 92, 93, 94, 95, 96, 97, 98, 99, 100, 101, 102, 103, 104, 105, 106, 107, 108, 109, 110, 111, 112, 113, 114, 115, 116, 117, 118, 119, 120, 121, 122, 123, 124, 125, 126, 127, 128, 129, 130, 131, 132, 133, 134, 135, 136, 137, 138, 139, 140, 141, 142] (fun s hn => hs s (fun j hj e => hn (by rw [e]; exact dbk16_slots j hj)))
    have hq := hQ (fun d => x.tmps.getD d undef) w hB (hv 64 (by decide))
    obtain ⟨T, Df⟩ := x
    dsimp only at hx hdef hq
    subst hdef
    rw [← hx] at hq
    exact hq
end Go.Proofs.Ytpmldopbjlnknaa
