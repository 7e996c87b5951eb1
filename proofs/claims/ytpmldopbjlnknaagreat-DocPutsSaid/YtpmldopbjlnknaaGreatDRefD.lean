/-
  Drawn regions of mudlarkref22 (written by tools/gen-dref.py).
-/
import Derived.Test.YtpmldopbjlnknaaGreatDAwake
import Derived.Test.YtpmldopbjlnknaaGreatLRefs
import Derived.Test.YtpmldopbjlnknaaGreatRegS
set_option maxHeartbeats 4000000
set_option maxRecDepth 100000
set_option linter.unusedVariables false
set_option linter.unusedSimpArgs false
namespace Go.Proofs.YtpmldopbjlnknaaGreat
open Go.RowKit Go.Shelf
abbrev drr4_o0 : Oper := ⟨some 10, .move (.tmp 0), 22, "ref.go:44", #[], none⟩
abbrev drr4_o1 : Oper := ⟨some 11, .move (.tmp 3), 3, "ref.go:44", #[], none⟩
abbrev drr4_o2 : Oper := ⟨some 12, .indexAddr 22 (.tmp 10) (.tmp 11), 0, "ref.go:44", #[⟨0, .data⟩, ⟨1, .data⟩], none⟩
abbrev drr4_o3 : Oper := ⟨some 13, .fieldAddr 47 (.tmp 12) 0, 0, "ref.go:44", #[⟨2, .data⟩], none⟩
abbrev drr4_o4 : Oper := ⟨some 14, .load 9 (.tmp 13), 9, "ref.go:44", #[⟨3, .data⟩], none⟩
abbrev drr4_o5 : Oper := ⟨some 15, .call ⟨.value (.func 36), #[.tmp 14], #[9]⟩, 4, "ref.go:44", #[⟨4, .data⟩], none⟩
abbrev drr4_o6 : Oper := ⟨some 16, .unOp .not 4 (.tmp 15), 4, "ref.go:44", #[⟨5, .data⟩], none⟩
abbrev drr4_o7 : Oper := ⟨some 17, .move (.tmp 16), 4, "ref.go:44", #[⟨6, .data⟩, ⟨5, .chain⟩], none⟩
abbrev drr4_o8 : Oper := ⟨some 18, .move (.tmp 0), 22, "ref.go:44", #[⟨7, .guard⟩], some (7, false)⟩
abbrev drr4_o9 : Oper := ⟨some 19, .move (.tmp 3), 3, "ref.go:44", #[⟨7, .guard⟩], some (7, false)⟩
abbrev drr4_o10 : Oper := ⟨some 20, .indexAddr 22 (.tmp 18) (.tmp 19), 0, "ref.go:44", #[⟨8, .data⟩, ⟨9, .data⟩, ⟨7, .guard⟩], some (7, false)⟩
abbrev drr4_o11 : Oper := ⟨some 21, .fieldAddr 47 (.tmp 20) 1, 0, "ref.go:44", #[⟨10, .data⟩, ⟨7, .guard⟩], some (7, false)⟩
abbrev drr4_o12 : Oper := ⟨some 22, .load 9 (.tmp 21), 9, "ref.go:44", #[⟨11, .data⟩, ⟨7, .guard⟩], some (7, false)⟩
abbrev drr4_o13 : Oper := ⟨some 23, .move (.tmp 0), 22, "ref.go:44", #[⟨7, .guard⟩], some (7, false)⟩
abbrev drr4_o14 : Oper := ⟨some 24, .move (.tmp 3), 3, "ref.go:44", #[⟨7, .guard⟩], some (7, false)⟩
abbrev drr4_o15 : Oper := ⟨some 25, .indexAddr 22 (.tmp 23) (.tmp 24), 0, "ref.go:44", #[⟨13, .data⟩, ⟨14, .data⟩, ⟨7, .guard⟩], some (7, false)⟩
abbrev drr4_o16 : Oper := ⟨some 26, .fieldAddr 47 (.tmp 25) 0, 0, "ref.go:44", #[⟨15, .data⟩, ⟨7, .guard⟩], some (7, false)⟩
abbrev drr4_o17 : Oper := ⟨some 27, .load 9 (.tmp 26), 9, "ref.go:44", #[⟨16, .data⟩, ⟨7, .guard⟩], some (7, false)⟩
abbrev drr4_o18 : Oper := ⟨some 28, .call ⟨.value (.func 37), #[.tmp 27], #[9]⟩, 9, "ref.go:44", #[⟨17, .data⟩, ⟨7, .chain⟩, ⟨7, .guard⟩], some (7, false)⟩
abbrev drr4_o19 : Oper := ⟨some 29, .binOp .neq 9 (.tmp 22) (.tmp 28) 9, 4, "ref.go:44", #[⟨12, .data⟩, ⟨18, .data⟩, ⟨7, .guard⟩], some (7, false)⟩
abbrev drr4_o20 : Oper := ⟨some 30, .pick (.tmp 17) (.const (.bool true)) (.tmp 29), 4, "ref.go:44", #[⟨7, .data⟩, ⟨19, .data⟩], none⟩
abbrev drr4_o21 : Oper := ⟨some 31, .move (.tmp 30), 4, "ref.go:44", #[⟨20, .data⟩, ⟨18, .chain⟩], none⟩
abbrev drr4_o22 : Oper := ⟨some 32, .move (.tmp 0), 22, "ref.go:44", #[⟨21, .guard⟩], some (21, false)⟩
abbrev drr4_o23 : Oper := ⟨some 33, .move (.tmp 3), 3, "ref.go:44", #[⟨21, .guard⟩], some (21, false)⟩
abbrev drr4_o24 : Oper := ⟨some 34, .indexAddr 22 (.tmp 32) (.tmp 33), 0, "ref.go:44", #[⟨22, .data⟩, ⟨23, .data⟩, ⟨21, .guard⟩], some (21, false)⟩
abbrev drr4_o25 : Oper := ⟨some 35, .fieldAddr 47 (.tmp 34) 3, 0, "ref.go:44", #[⟨24, .data⟩, ⟨21, .guard⟩], some (21, false)⟩
abbrev drr4_o26 : Oper := ⟨some 36, .load 3 (.tmp 35), 3, "ref.go:44", #[⟨25, .data⟩, ⟨21, .guard⟩], some (21, false)⟩
abbrev drr4_o27 : Oper := ⟨some 37, .binOp .lss 3 (.tmp 36) (.const (.int .i64 0)) 3, 4, "ref.go:44", #[⟨26, .data⟩, ⟨21, .guard⟩], some (21, false)⟩
abbrev drr4_o28 : Oper := ⟨some 38, .pick (.tmp 31) (.const (.bool true)) (.tmp 37), 4, "ref.go:44", #[⟨21, .data⟩, ⟨27, .data⟩], none⟩
abbrev drr4_o29 : Oper := ⟨some 39, .move (.tmp 38), 4, "ref.go:44", #[⟨28, .data⟩, ⟨21, .chain⟩], none⟩
abbrev drr4_o30 : Oper := ⟨some 40, .move (.tmp 0), 22, "ref.go:44", #[⟨29, .guard⟩], some (29, false)⟩
abbrev drr4_o31 : Oper := ⟨some 41, .move (.tmp 3), 3, "ref.go:44", #[⟨29, .guard⟩], some (29, false)⟩
abbrev drr4_o32 : Oper := ⟨some 42, .indexAddr 22 (.tmp 40) (.tmp 41), 0, "ref.go:44", #[⟨30, .data⟩, ⟨31, .data⟩, ⟨29, .guard⟩], some (29, false)⟩
abbrev drr4_o33 : Oper := ⟨some 43, .fieldAddr 47 (.tmp 42) 3, 0, "ref.go:44", #[⟨32, .data⟩, ⟨29, .guard⟩], some (29, false)⟩
abbrev drr4_o34 : Oper := ⟨some 44, .load 3 (.tmp 43), 3, "ref.go:44", #[⟨33, .data⟩, ⟨29, .guard⟩], some (29, false)⟩
abbrev drr4_o35 : Oper := ⟨some 45, .binOp .gtr 3 (.tmp 44) (.const (.int .i64 1048576)) 3, 4, "ref.go:44", #[⟨34, .data⟩, ⟨29, .guard⟩], some (29, false)⟩
abbrev drr4_o36 : Oper := ⟨some 46, .pick (.tmp 39) (.const (.bool true)) (.tmp 45), 4, "ref.go:44", #[⟨29, .data⟩, ⟨35, .data⟩], none⟩
abbrev drr4_o37 : Oper := ⟨some 47, .move (.tmp 46), 4, "ref.go:44", #[⟨36, .data⟩, ⟨29, .chain⟩], none⟩
abbrev drr4_o38 : Oper := ⟨some 48, .move (.tmp 3), 3, "ref.go:44", #[⟨37, .guard⟩], some (37, false)⟩
abbrev drr4_o39 : Oper := ⟨some 49, .binOp .gtr 3 (.tmp 48) (.const (.int .i64 0)) 3, 4, "ref.go:44", #[⟨38, .data⟩, ⟨37, .guard⟩], some (37, false)⟩
abbrev drr4_o40 : Oper := ⟨some 50, .move (.tmp 49), 4, "ref.go:44", #[⟨39, .data⟩, ⟨37, .chain⟩, ⟨37, .guard⟩], some (37, false)⟩
abbrev drr4_o41 : Oper := ⟨some 51, .move (.tmp 0), 22, "ref.go:44", #[⟨40, .guard⟩], some (40, true)⟩
abbrev drr4_o42 : Oper := ⟨some 52, .move (.tmp 3), 3, "ref.go:44", #[⟨40, .guard⟩], some (40, true)⟩
abbrev drr4_o43 : Oper := ⟨some 53, .binOp .sub 3 (.tmp 52) (.const (.int .i64 1)) 3, 3, "ref.go:44", #[⟨42, .data⟩, ⟨40, .guard⟩], some (40, true)⟩
abbrev drr4_o44 : Oper := ⟨some 54, .indexAddr 22 (.tmp 51) (.tmp 53), 0, "ref.go:44", #[⟨41, .data⟩, ⟨43, .data⟩, ⟨40, .guard⟩], some (40, true)⟩
abbrev drr4_o45 : Oper := ⟨some 55, .fieldAddr 47 (.tmp 54) 0, 0, "ref.go:44", #[⟨44, .data⟩, ⟨40, .guard⟩], some (40, true)⟩
abbrev drr4_o46 : Oper := ⟨some 56, .load 9 (.tmp 55), 9, "ref.go:44", #[⟨45, .data⟩, ⟨40, .guard⟩], some (40, true)⟩
abbrev drr4_o47 : Oper := ⟨some 57, .move (.tmp 0), 22, "ref.go:44", #[⟨40, .guard⟩], some (40, true)⟩
abbrev drr4_o48 : Oper := ⟨some 58, .move (.tmp 3), 3, "ref.go:44", #[⟨40, .guard⟩], some (40, true)⟩
abbrev drr4_o49 : Oper := ⟨some 59, .indexAddr 22 (.tmp 57) (.tmp 58), 0, "ref.go:44", #[⟨47, .data⟩, ⟨48, .data⟩, ⟨40, .guard⟩], some (40, true)⟩
abbrev drr4_o50 : Oper := ⟨some 60, .fieldAddr 47 (.tmp 59) 0, 0, "ref.go:44", #[⟨49, .data⟩, ⟨40, .guard⟩], some (40, true)⟩
abbrev drr4_o51 : Oper := ⟨some 61, .load 9 (.tmp 60), 9, "ref.go:44", #[⟨50, .data⟩, ⟨40, .guard⟩], some (40, true)⟩
abbrev drr4_o52 : Oper := ⟨some 62, .binOp .geq 9 (.tmp 56) (.tmp 61) 9, 4, "ref.go:44", #[⟨46, .data⟩, ⟨51, .data⟩, ⟨40, .guard⟩], some (40, true)⟩
abbrev drr4_o53 : Oper := ⟨some 63, .pick (.tmp 50) (.tmp 62) (.const (.bool false)), 4, "ref.go:44", #[⟨40, .data⟩, ⟨52, .data⟩, ⟨37, .guard⟩], some (37, false)⟩
abbrev drr4_o54 : Oper := ⟨some 64, .pick (.tmp 47) (.const (.bool true)) (.tmp 63), 4, "ref.go:44", #[⟨37, .data⟩, ⟨53, .data⟩], none⟩
def drr4_ops : Array Oper := #[drr4_o0, drr4_o1, drr4_o2, drr4_o3, drr4_o4, drr4_o5, drr4_o6, drr4_o7, drr4_o8, drr4_o9, drr4_o10, drr4_o11, drr4_o12, drr4_o13, drr4_o14, drr4_o15, drr4_o16, drr4_o17, drr4_o18, drr4_o19, drr4_o20, drr4_o21, drr4_o22, drr4_o23, drr4_o24, drr4_o25, drr4_o26, drr4_o27, drr4_o28, drr4_o29, drr4_o30, drr4_o31, drr4_o32, drr4_o33, drr4_o34, drr4_o35, drr4_o36, drr4_o37, drr4_o38, drr4_o39, drr4_o40, drr4_o41, drr4_o42, drr4_o43, drr4_o44, drr4_o45, drr4_o46, drr4_o47, drr4_o48, drr4_o49, drr4_o50, drr4_o51, drr4_o52, drr4_o53, drr4_o54]
abbrev drr4_mem (s : Nat) : Prop := s ∈ [10, 11, 12, 13, 14, 15, 16, 17, 18, 19, 20, 21, 22, 23, 24, 25, 26, 27, 28, 29, 30, 31, 32, 33, 34, 35, 36, 37, 38, 39, 40, 41, 42, 43, 44, 45, 46, 47, 48, 49, 50, 51, 52, 53, 54, 55, 56, 57, 58, 59, 60, 61, 62, 63, 64]
theorem drr4_slots : ∀ j, j < 55 → drr4_mem (slotOf drr4_ops j) := by
 intro j hj
 match j, hj with
 | 0, _ => exact (by decide : drr4_mem 10)
 | 1, _ => exact (by decide : drr4_mem 11)
 | 2, _ => exact (by decide : drr4_mem 12)
 | 3, _ => exact (by decide : drr4_mem 13)
 | 4, _ => exact (by decide : drr4_mem 14)
 | 5, _ => exact (by decide : drr4_mem 15)
 | 6, _ => exact (by decide : drr4_mem 16)
 | 7, _ => exact (by decide : drr4_mem 17)
 | 8, _ => exact (by decide : drr4_mem 18)
 | 9, _ => exact (by decide : drr4_mem 19)
 | 10, _ => exact (by decide : drr4_mem 20)
 | 11, _ => exact (by decide : drr4_mem 21)
 | 12, _ => exact (by decide : drr4_mem 22)
 | 13, _ => exact (by decide : drr4_mem 23)
 | 14, _ => exact (by decide : drr4_mem 24)
 | 15, _ => exact (by decide : drr4_mem 25)
 | 16, _ => exact (by decide : drr4_mem 26)
 | 17, _ => exact (by decide : drr4_mem 27)
 | 18, _ => exact (by decide : drr4_mem 28)
 | 19, _ => exact (by decide : drr4_mem 29)
 | 20, _ => exact (by decide : drr4_mem 30)
 | 21, _ => exact (by decide : drr4_mem 31)
 | 22, _ => exact (by decide : drr4_mem 32)
 | 23, _ => exact (by decide : drr4_mem 33)
 | 24, _ => exact (by decide : drr4_mem 34)
 | 25, _ => exact (by decide : drr4_mem 35)
 | 26, _ => exact (by decide : drr4_mem 36)
 | 27, _ => exact (by decide : drr4_mem 37)
 | 28, _ => exact (by decide : drr4_mem 38)
 | 29, _ => exact (by decide : drr4_mem 39)
 | 30, _ => exact (by decide : drr4_mem 40)
 | 31, _ => exact (by decide : drr4_mem 41)
 | 32, _ => exact (by decide : drr4_mem 42)
 | 33, _ => exact (by decide : drr4_mem 43)
 | 34, _ => exact (by decide : drr4_mem 44)
 | 35, _ => exact (by decide : drr4_mem 45)
 | 36, _ => exact (by decide : drr4_mem 46)
 | 37, _ => exact (by decide : drr4_mem 47)
 | 38, _ => exact (by decide : drr4_mem 48)
 | 39, _ => exact (by decide : drr4_mem 49)
 | 40, _ => exact (by decide : drr4_mem 50)
 | 41, _ => exact (by decide : drr4_mem 51)
 | 42, _ => exact (by decide : drr4_mem 52)
 | 43, _ => exact (by decide : drr4_mem 53)
 | 44, _ => exact (by decide : drr4_mem 54)
 | 45, _ => exact (by decide : drr4_mem 55)
 | 46, _ => exact (by decide : drr4_mem 56)
 | 47, _ => exact (by decide : drr4_mem 57)
 | 48, _ => exact (by decide : drr4_mem 58)
 | 49, _ => exact (by decide : drr4_mem 59)
 | 50, _ => exact (by decide : drr4_mem 60)
 | 51, _ => exact (by decide : drr4_mem 61)
 | 52, _ => exact (by decide : drr4_mem 62)
 | 53, _ => exact (by decide : drr4_mem 63)
 | 54, _ => exact (by decide : drr4_mem 64)
 | k + 55, hj => omega
def drrA_val (gD oD n cD i jp : Nat) (d : DT) (P PQ : List UInt8) : Nat → Value → World → Prop
 | 0, v, w => v = .slice (some ⟨gD, oD, none⟩) n cD
 | 1, v, w => v = .int .i64 (i : Nat)
 | 2, v, w => v = .pointer (some ⟨gD, oD + i * 4, none⟩)
 | 3, v, w => v = .pointer (some ⟨gD, oD + i * 4, none⟩)
 | 4, v, w => v = by8 P
 | 5, v, w => v = .bool true
 | 6, v, w => v = .bool false
 | 7, v, w => v = .bool false
 | 8, v, w => v = .slice (some ⟨gD, oD, none⟩) n cD
 | 9, v, w => v = .int .i64 (i : Nat)
 | 10, v, w => v = .pointer (some ⟨gD, oD + i * 4, none⟩)
 | 11, v, w => v = .pointer (some ⟨gD, oD + i * 4 + 1, none⟩)
 | 12, v, w => v = by8 d.L
 | 13, v, w => v = .slice (some ⟨gD, oD, none⟩) n cD
 | 14, v, w => v = .int .i64 (i : Nat)
 | 15, v, w => v = .pointer (some ⟨gD, oD + i * 4, none⟩)
 | 16, v, w => v = .pointer (some ⟨gD, oD + i * 4, none⟩)
 | 17, v, w => v = by8 P
 | 18, v, w => v = by8 (ofL P)
 | 19, v, w | 20, v, w | 21, v, w => v = .bool false
 | 22, v, w => v = .slice (some ⟨gD, oD, none⟩) n cD
 | 23, v, w => v = .int .i64 (i : Nat)
 | 24, v, w => v = .pointer (some ⟨gD, oD + i * 4, none⟩)
 | 25, v, w => v = .pointer (some ⟨gD, oD + i * 4 + 3, none⟩)
 | 26, v, w => v = .int .i64 d.Z
 | 27, v, w | 28, v, w | 29, v, w => v = .bool false
 | 30, v, w => v = .slice (some ⟨gD, oD, none⟩) n cD
 | 31, v, w => v = .int .i64 (i : Nat)
 | 32, v, w => v = .pointer (some ⟨gD, oD + i * 4, none⟩)
 | 33, v, w => v = .pointer (some ⟨gD, oD + i * 4 + 3, none⟩)
 | 34, v, w => v = .int .i64 d.Z
 | 35, v, w | 36, v, w | 37, v, w => v = .bool false
 | 38, v, w => v = .int .i64 (i : Nat)
 | 39, v, w => v = .bool false
 | 40, v, w => v = .bool false
 | 41, v, w | 42, v, w | 43, v, w | 44, v, w | 45, v, w | 46, v, w | 47, v, w | 48, v, w | 49, v, w | 50, v, w | 51, v, w | 52, v, w => v = undef
 | 53, v, w => v = .bool false
 | 54, v, w => v = .bool false
 | _, _, _ => True
theorem drrA_below (gD oD n cD i jp : Nat) (d : DT) (P PQ : List UInt8) (w w' : World) (hb : Below w.heap.size w w') : ∀ j v, drrA_val gD oD n cD i jp d P PQ j v w → drrA_val gD oD n cD i jp d P PQ j v w' := by
 intro j v h
 match j, h with
 | 0, h | 1, h | 2, h | 3, h | 4, h | 5, h | 6, h | 7, h | 8, h | 9, h | 10, h | 11, h | 12, h | 13, h | 14, h | 15, h | 16, h | 17, h | 18, h | 19, h | 20, h | 21, h | 22, h | 23, h | 24, h | 25, h | 26, h | 27, h | 28, h | 29, h | 30, h | 31, h | 32, h | 33, h | 34, h | 35, h | 36, h | 37, h | 38, h | 39, h | 40, h | 41, h | 42, h | 43, h | 44, h | 45, h | 46, h | 47, h | 48, h | 49, h | 50, h | 51, h | 52, h | 53, h | 54, h => exact h
 | _ + 55, h => exact h
def drrA_H (Fc : Fence) (gD oD n cD i jp : Nat) (d : DT) (P PQ : List UInt8) (df : List Deferred) (w0 : World) (x : Act) (w : World) : Prop :=
 (Wide Fc) ∧ (i < n) ∧ (n ≤ 140737488351232) ∧ (w0.cell? ⟨gD, oD + i * 4, none⟩ = some (by8 P)) ∧ (P.length ≤ 1000000) ∧ (rightP P = true) ∧ (w0.cell? ⟨gD, oD + i * 4 + 1, none⟩ = some (by8 d.L)) ∧ ((!(d.L == ofL P)) = false) ∧ (w0.cell? ⟨gD, oD + i * 4 + 3, none⟩ = some (.int .i64 d.Z)) ∧ (decide (d.Z < 0) = false) ∧ (decide ((1048576 : Int) < d.Z) = false) ∧ (decide (0 < i) = false) ∧ (Below w0.heap.size w0 w) ∧ (x.defers = df) ∧ (x.tmps.getD 0 undef = .slice (some ⟨gD, oD, none⟩) n cD) ∧ (x.tmps.getD 3 undef = .int .i64 (i : Nat))
section
set_option maxRecDepth 100000
set_option maxHeartbeats 2000000
variable {Fc : Fence} {nC : Nat} {gD oD n cD i jp : Nat} {d : DT} {P PQ : List UInt8} {Q : Exit → Act → World → Prop} {df : List Deferred} {w0 : World} {x : Act} {w : World}
theorem drrA_s0 (H : drrA_H Fc gD oD n cD i jp d P PQ df w0 x w) : Stp Fc nC Tryz.prog drr4_ops Q 0 10 (drrA_val gD oD n cD i jp d P PQ 0) x w := by
 (obtain ⟨hF, hi, hn, d0, hp, hr, d1, h2, d3, h3, h4, h5, hB, hdef, u0, u3⟩ := H; have ho : drr4_ops[0]? = some drr4_o0 := rfl; simp only [Array.getD_eq_getD_getElem?] at u0 u3)
 (refine wpOpIn_plain ho rfl (oper_inK hF.fn (fun K hK => ?_)); clear ho; rw [Oper.semAt_plain Fc _ _ (by intro c h; cases h)]; simp only [drr4_o0]; go_simp)
 exact hK _ _ ⟨_, act_putD x hdef _ _, rfl, Below.refl _ _⟩
theorem drrA_s1 (H : drrA_H Fc gD oD n cD i jp d P PQ df w0 x w) : Stp Fc nC Tryz.prog drr4_ops Q 1 11 (drrA_val gD oD n cD i jp d P PQ 1) x w := by
 (obtain ⟨hF, hi, hn, d0, hp, hr, d1, h2, d3, h3, h4, h5, hB, hdef, u0, u3⟩ := H; have ho : drr4_ops[1]? = some drr4_o1 := rfl; simp only [Array.getD_eq_getD_getElem?] at u0 u3)
 (refine wpOpIn_plain ho rfl (oper_inK hF.fn (fun K hK => ?_)); clear ho; rw [Oper.semAt_plain Fc _ _ (by intro c h; cases h)]; simp only [drr4_o1]; go_simp)
 exact hK _ _ ⟨_, act_putD x hdef _ _, rfl, Below.refl _ _⟩
theorem drrA_s2 (H : drrA_H Fc gD oD n cD i jp d P PQ df w0 x w) (p0 : drrA_val gD oD n cD i jp d P PQ 0 (x.tmps.getD 10 undef) w) (p1 : drrA_val gD oD n cD i jp d P PQ 1 (x.tmps.getD 11 undef) w) : Stp Fc nC Tryz.prog drr4_ops Q 2 12 (drrA_val gD oD n cD i jp d P PQ 2) x w := by
 (obtain ⟨hF, hi, hn, d0, hp, hr, d1, h2, d3, h3, h4, h5, hB, hdef, u0, u3⟩ := H; have ho : drr4_ops[2]? = some drr4_o2 := rfl; simp only [Array.getD_eq_getD_getElem?] at u0 u3)
 have q0 : Array.getD (Act.tmps x) 10 undef = .slice (some ⟨gD, oD, none⟩) n cD := p0
 have q1 : Array.getD (Act.tmps x) 11 undef = .int .i64 (i : Nat) := p1
 simp only [Array.getD_eq_getD_getElem?] at q0 q1
 have i0 : (0 : Int) ≤ (i : Int) := by omega
 have i1 : (i : Int) < (n : Int) := by omega
 (refine wpOpIn_plain ho rfl (oper_inK hF.fn (fun K hK => ?_)); clear ho; rw [Oper.semAt_plain Fc _ _ (by intro c h; cases h)]; simp only [drr4_o2]; go_simp)
 exact hK _ _ ⟨_, act_putD x hdef _ _, rfl, Below.refl _ _⟩
theorem drrA_s3 (H : drrA_H Fc gD oD n cD i jp d P PQ df w0 x w) (p2 : drrA_val gD oD n cD i jp d P PQ 2 (x.tmps.getD 12 undef) w) : Stp Fc nC Tryz.prog drr4_ops Q 3 13 (drrA_val gD oD n cD i jp d P PQ 3) x w := by
 (obtain ⟨hF, hi, hn, d0, hp, hr, d1, h2, d3, h3, h4, h5, hB, hdef, u0, u3⟩ := H; have ho : drr4_ops[3]? = some drr4_o3 := rfl; simp only [Array.getD_eq_getD_getElem?] at u0 u3)
 have q2 : Array.getD (Act.tmps x) 12 undef = .pointer (some ⟨gD, oD + i * 4, none⟩) := p2
 simp only [Array.getD_eq_getD_getElem?] at q2
 (refine wpOpIn_plain ho rfl (oper_inK hF.fn (fun K hK => ?_)); clear ho; rw [Oper.semAt_plain Fc _ _ (by intro c h; cases h)]; simp only [drr4_o3]; go_simp)
 exact hK _ _ ⟨_, act_putD x hdef _ _, rfl, Below.refl _ _⟩
theorem drrA_s4 (H : drrA_H Fc gD oD n cD i jp d P PQ df w0 x w) (p3 : drrA_val gD oD n cD i jp d P PQ 3 (x.tmps.getD 13 undef) w) : Stp Fc nC Tryz.prog drr4_ops Q 4 14 (drrA_val gD oD n cD i jp d P PQ 4) x w := by
 (obtain ⟨hF, hi, hn, d0, hp, hr, d1, h2, d3, h3, h4, h5, hB, hdef, u0, u3⟩ := H; have ho : drr4_ops[4]? = some drr4_o4 := rfl; simp only [Array.getD_eq_getD_getElem?] at u0 u3)
 have q3 : Array.getD (Act.tmps x) 13 undef = .pointer (some ⟨gD, oD + i * 4, none⟩) := p3
 simp only [Array.getD_eq_getD_getElem?] at q3
 have m := cell_thru d0 hB
 (refine wpOpIn_plain ho rfl (oper_inK hF.fn (fun K hK => ?_)); clear ho; rw [Oper.semAt_plain Fc _ _ (by intro c h; cases h)]; simp only [drr4_o4]; go_simp)
 exact hK _ _ ⟨_, act_putD x hdef _ _, rfl, Below.refl _ _⟩
theorem drrA_s5 (H : drrA_H Fc gD oD n cD i jp d P PQ df w0 x w) (p4 : drrA_val gD oD n cD i jp d P PQ 4 (x.tmps.getD 14 undef) w) : Stp Fc nC Tryz.prog drr4_ops Q 5 15 (drrA_val gD oD n cD i jp d P PQ 5) x w := by
 (obtain ⟨hF, hi, hn, d0, hp, hr, d1, h2, d3, h3, h4, h5, hB, hdef, u0, u3⟩ := H; have ho : drr4_ops[5]? = some drr4_o5 := rfl; simp only [Array.getD_eq_getD_getElem?] at u0 u3)
 have q4 : Array.getD (Act.tmps x) 14 undef = by8 P := p4
 simp only [Array.getD_eq_getD_getElem?] at q4
 (refine wpOpIn_plain ho rfl (oper_inK hF.fn (fun K hK => ?_)); clear ho; rw [Oper.semAt_plain Fc _ _ (by intro c h; cases h)]; simp only [drr4_o5]; go_simp)
 refine ⟨hF.deep, (hF.call (refRight_any P w hp)).mono ?_⟩
 rintro e w' ⟨rfl, hb⟩
 exact hK _ _ ⟨_, act_putD x hdef _ _, by rw [hr]; exact rfl, hb⟩
theorem drrA_s6 (H : drrA_H Fc gD oD n cD i jp d P PQ df w0 x w) (p5 : drrA_val gD oD n cD i jp d P PQ 5 (x.tmps.getD 15 undef) w) : Stp Fc nC Tryz.prog drr4_ops Q 6 16 (drrA_val gD oD n cD i jp d P PQ 6) x w := by
 (obtain ⟨hF, hi, hn, d0, hp, hr, d1, h2, d3, h3, h4, h5, hB, hdef, u0, u3⟩ := H; have ho : drr4_ops[6]? = some drr4_o6 := rfl; simp only [Array.getD_eq_getD_getElem?] at u0 u3)
 have q5 : Array.getD (Act.tmps x) 15 undef = .bool true := p5
 simp only [Array.getD_eq_getD_getElem?] at q5
 (refine wpOpIn_plain ho rfl (oper_inK hF.fn (fun K hK => ?_)); clear ho; rw [Oper.semAt_plain Fc _ _ (by intro c h; cases h)]; simp only [drr4_o6]; go_simp)
 exact hK _ _ ⟨_, act_putD x hdef _ _, rfl, Below.refl _ _⟩
theorem drrA_s7 (H : drrA_H Fc gD oD n cD i jp d P PQ df w0 x w) (p6 : drrA_val gD oD n cD i jp d P PQ 6 (x.tmps.getD 16 undef) w) : Stp Fc nC Tryz.prog drr4_ops Q 7 17 (drrA_val gD oD n cD i jp d P PQ 7) x w := by
 (obtain ⟨hF, hi, hn, d0, hp, hr, d1, h2, d3, h3, h4, h5, hB, hdef, u0, u3⟩ := H; have ho : drr4_ops[7]? = some drr4_o7 := rfl; simp only [Array.getD_eq_getD_getElem?] at u0 u3)
 have q6 : Array.getD (Act.tmps x) 16 undef = .bool false := p6
 simp only [Array.getD_eq_getD_getElem?] at q6
 (refine wpOpIn_plain ho rfl (oper_inK hF.fn (fun K hK => ?_)); clear ho; rw [Oper.semAt_plain Fc _ _ (by intro c h; cases h)]; simp only [drr4_o7]; go_simp)
 exact hK _ _ ⟨_, act_putD x hdef _ _, rfl, Below.refl _ _⟩
theorem drrA_s8 (H : drrA_H Fc gD oD n cD i jp d P PQ df w0 x w) (p7 : drrA_val gD oD n cD i jp d P PQ 7 (x.tmps.getD 17 undef) w) : Stp Fc nC Tryz.prog drr4_ops Q 8 18 (drrA_val gD oD n cD i jp d P PQ 8) x w := by
 (obtain ⟨hF, hi, hn, d0, hp, hr, d1, h2, d3, h3, h4, h5, hB, hdef, u0, u3⟩ := H; have ho : drr4_ops[8]? = some drr4_o8 := rfl; simp only [Array.getD_eq_getD_getElem?] at u0 u3)
 have q7 : Array.getD (Act.tmps x) 17 undef = .bool false := p7
 simp only [Array.getD_eq_getD_getElem?] at q7
 (have e7 : (drr4_ops[7]?.bind fun x => x.dst) = some 17 := rfl; have g7 := get_someT q7 (fun h => by cases h))
 (refine wpOpIn_stepT hF ho (fun K hK => ?_); clear ho; rw [Oper.semAt_plain Fc _ _ (by intro c h; cases h)]; simp only [drr4_o8]; go_simp)
 exact hK _ _ ⟨_, act_putD x hdef _ _, rfl, Below.refl _ _⟩
theorem drrA_s9 (H : drrA_H Fc gD oD n cD i jp d P PQ df w0 x w) (p7 : drrA_val gD oD n cD i jp d P PQ 7 (x.tmps.getD 17 undef) w) : Stp Fc nC Tryz.prog drr4_ops Q 9 19 (drrA_val gD oD n cD i jp d P PQ 9) x w := by
 (obtain ⟨hF, hi, hn, d0, hp, hr, d1, h2, d3, h3, h4, h5, hB, hdef, u0, u3⟩ := H; have ho : drr4_ops[9]? = some drr4_o9 := rfl; simp only [Array.getD_eq_getD_getElem?] at u0 u3)
 have q7 : Array.getD (Act.tmps x) 17 undef = .bool false := p7
 simp only [Array.getD_eq_getD_getElem?] at q7
 (have e7 : (drr4_ops[7]?.bind fun x => x.dst) = some 17 := rfl; have g7 := get_someT q7 (fun h => by cases h))
 (refine wpOpIn_stepT hF ho (fun K hK => ?_); clear ho; rw [Oper.semAt_plain Fc _ _ (by intro c h; cases h)]; simp only [drr4_o9]; go_simp)
 exact hK _ _ ⟨_, act_putD x hdef _ _, rfl, Below.refl _ _⟩
theorem drrA_s10 (H : drrA_H Fc gD oD n cD i jp d P PQ df w0 x w) (p8 : drrA_val gD oD n cD i jp d P PQ 8 (x.tmps.getD 18 undef) w) (p9 : drrA_val gD oD n cD i jp d P PQ 9 (x.tmps.getD 19 undef) w) (p7 : drrA_val gD oD n cD i jp d P PQ 7 (x.tmps.getD 17 undef) w) : Stp Fc nC Tryz.prog drr4_ops Q 10 20 (drrA_val gD oD n cD i jp d P PQ 10) x w := by
 (obtain ⟨hF, hi, hn, d0, hp, hr, d1, h2, d3, h3, h4, h5, hB, hdef, u0, u3⟩ := H; have ho : drr4_ops[10]? = some drr4_o10 := rfl; simp only [Array.getD_eq_getD_getElem?] at u0 u3)
 have q8 : Array.getD (Act.tmps x) 18 undef = .slice (some ⟨gD, oD, none⟩) n cD := p8
 have q9 : Array.getD (Act.tmps x) 19 undef = .int .i64 (i : Nat) := p9
 have q7 : Array.getD (Act.tmps x) 17 undef = .bool false := p7
 simp only [Array.getD_eq_getD_getElem?] at q8 q9 q7
 (have e7 : (drr4_ops[7]?.bind fun x => x.dst) = some 17 := rfl; have g7 := get_someT q7 (fun h => by cases h))
 have i0 : (0 : Int) ≤ (i : Int) := by omega
 have i1 : (i : Int) < (n : Int) := by omega
 (refine wpOpIn_stepT hF ho (fun K hK => ?_); clear ho; rw [Oper.semAt_plain Fc _ _ (by intro c h; cases h)]; simp only [drr4_o10]; go_simp)
 exact hK _ _ ⟨_, act_putD x hdef _ _, rfl, Below.refl _ _⟩
theorem drrA_s11 (H : drrA_H Fc gD oD n cD i jp d P PQ df w0 x w) (p10 : drrA_val gD oD n cD i jp d P PQ 10 (x.tmps.getD 20 undef) w) (p7 : drrA_val gD oD n cD i jp d P PQ 7 (x.tmps.getD 17 undef) w) : Stp Fc nC Tryz.prog drr4_ops Q 11 21 (drrA_val gD oD n cD i jp d P PQ 11) x w := by
 (obtain ⟨hF, hi, hn, d0, hp, hr, d1, h2, d3, h3, h4, h5, hB, hdef, u0, u3⟩ := H; have ho : drr4_ops[11]? = some drr4_o11 := rfl; simp only [Array.getD_eq_getD_getElem?] at u0 u3)
 have q10 : Array.getD (Act.tmps x) 20 undef = .pointer (some ⟨gD, oD + i * 4, none⟩) := p10
 have q7 : Array.getD (Act.tmps x) 17 undef = .bool false := p7
 simp only [Array.getD_eq_getD_getElem?] at q10 q7
 (have e7 : (drr4_ops[7]?.bind fun x => x.dst) = some 17 := rfl; have g7 := get_someT q7 (fun h => by cases h))
 (refine wpOpIn_stepT hF ho (fun K hK => ?_); clear ho; rw [Oper.semAt_plain Fc _ _ (by intro c h; cases h)]; simp only [drr4_o11]; go_simp)
 exact hK _ _ ⟨_, act_putD x hdef _ _, rfl, Below.refl _ _⟩
theorem drrA_s12 (H : drrA_H Fc gD oD n cD i jp d P PQ df w0 x w) (p11 : drrA_val gD oD n cD i jp d P PQ 11 (x.tmps.getD 21 undef) w) (p7 : drrA_val gD oD n cD i jp d P PQ 7 (x.tmps.getD 17 undef) w) : Stp Fc nC Tryz.prog drr4_ops Q 12 22 (drrA_val gD oD n cD i jp d P PQ 12) x w := by
 (obtain ⟨hF, hi, hn, d0, hp, hr, d1, h2, d3, h3, h4, h5, hB, hdef, u0, u3⟩ := H; have ho : drr4_ops[12]? = some drr4_o12 := rfl; simp only [Array.getD_eq_getD_getElem?] at u0 u3)
 have q11 : Array.getD (Act.tmps x) 21 undef = .pointer (some ⟨gD, oD + i * 4 + 1, none⟩) := p11
 have q7 : Array.getD (Act.tmps x) 17 undef = .bool false := p7
 simp only [Array.getD_eq_getD_getElem?] at q11 q7
 (have e7 : (drr4_ops[7]?.bind fun x => x.dst) = some 17 := rfl; have g7 := get_someT q7 (fun h => by cases h))
 have m := cell_thru d1 hB
 (refine wpOpIn_stepT hF ho (fun K hK => ?_); clear ho; rw [Oper.semAt_plain Fc _ _ (by intro c h; cases h)]; simp only [drr4_o12]; go_simp)
 exact hK _ _ ⟨_, act_putD x hdef _ _, rfl, Below.refl _ _⟩
theorem drrA_s13 (H : drrA_H Fc gD oD n cD i jp d P PQ df w0 x w) (p7 : drrA_val gD oD n cD i jp d P PQ 7 (x.tmps.getD 17 undef) w) : Stp Fc nC Tryz.prog drr4_ops Q 13 23 (drrA_val gD oD n cD i jp d P PQ 13) x w := by
 (obtain ⟨hF, hi, hn, d0, hp, hr, d1, h2, d3, h3, h4, h5, hB, hdef, u0, u3⟩ := H; have ho : drr4_ops[13]? = some drr4_o13 := rfl; simp only [Array.getD_eq_getD_getElem?] at u0 u3)
 have q7 : Array.getD (Act.tmps x) 17 undef = .bool false := p7
 simp only [Array.getD_eq_getD_getElem?] at q7
 (have e7 : (drr4_ops[7]?.bind fun x => x.dst) = some 17 := rfl; have g7 := get_someT q7 (fun h => by cases h))
 (refine wpOpIn_stepT hF ho (fun K hK => ?_); clear ho; rw [Oper.semAt_plain Fc _ _ (by intro c h; cases h)]; simp only [drr4_o13]; go_simp)
 exact hK _ _ ⟨_, act_putD x hdef _ _, rfl, Below.refl _ _⟩
theorem drrA_s14 (H : drrA_H Fc gD oD n cD i jp d P PQ df w0 x w) (p7 : drrA_val gD oD n cD i jp d P PQ 7 (x.tmps.getD 17 undef) w) : Stp Fc nC Tryz.prog drr4_ops Q 14 24 (drrA_val gD oD n cD i jp d P PQ 14) x w := by
 (obtain ⟨hF, hi, hn, d0, hp, hr, d1, h2, d3, h3, h4, h5, hB, hdef, u0, u3⟩ := H; have ho : drr4_ops[14]? = some drr4_o14 := rfl; simp only [Array.getD_eq_getD_getElem?] at u0 u3)
 have q7 : Array.getD (Act.tmps x) 17 undef = .bool false := p7
 simp only [Array.getD_eq_getD_getElem?] at q7
 (have e7 : (drr4_ops[7]?.bind fun x => x.dst) = some 17 := rfl; have g7 := get_someT q7 (fun h => by cases h))
 (refine wpOpIn_stepT hF ho (fun K hK => ?_); clear ho; rw [Oper.semAt_plain Fc _ _ (by intro c h; cases h)]; simp only [drr4_o14]; go_simp)
 exact hK _ _ ⟨_, act_putD x hdef _ _, rfl, Below.refl _ _⟩
theorem drrA_s15 (H : drrA_H Fc gD oD n cD i jp d P PQ df w0 x w) (p13 : drrA_val gD oD n cD i jp d P PQ 13 (x.tmps.getD 23 undef) w) (p14 : drrA_val gD oD n cD i jp d P PQ 14 (x.tmps.getD 24 undef) w) (p7 : drrA_val gD oD n cD i jp d P PQ 7 (x.tmps.getD 17 undef) w) : Stp Fc nC Tryz.prog drr4_ops Q 15 25 (drrA_val gD oD n cD i jp d P PQ 15) x w := by
 (obtain ⟨hF, hi, hn, d0, hp, hr, d1, h2, d3, h3, h4, h5, hB, hdef, u0, u3⟩ := H; have ho : drr4_ops[15]? = some drr4_o15 := rfl; simp only [Array.getD_eq_getD_getElem?] at u0 u3)
 have q13 : Array.getD (Act.tmps x) 23 undef = .slice (some ⟨gD, oD, none⟩) n cD := p13
 have q14 : Array.getD (Act.tmps x) 24 undef = .int .i64 (i : Nat) := p14
 have q7 : Array.getD (Act.tmps x) 17 undef = .bool false := p7
 simp only [Array.getD_eq_getD_getElem?] at q13 q14 q7
 (have e7 : (drr4_ops[7]?.bind fun x => x.dst) = some 17 := rfl; have g7 := get_someT q7 (fun h => by cases h))
 have i0 : (0 : Int) ≤ (i : Int) := by omega
 have i1 : (i : Int) < (n : Int) := by omega
 (refine wpOpIn_stepT hF ho (fun K hK => ?_); clear ho; rw [Oper.semAt_plain Fc _ _ (by intro c h; cases h)]; simp only [drr4_o15]; go_simp)
 exact hK _ _ ⟨_, act_putD x hdef _ _, rfl, Below.refl _ _⟩
theorem drrA_s16 (H : drrA_H Fc gD oD n cD i jp d P PQ df w0 x w) (p15 : drrA_val gD oD n cD i jp d P PQ 15 (x.tmps.getD 25 undef) w) (p7 : drrA_val gD oD n cD i jp d P PQ 7 (x.tmps.getD 17 undef) w) : Stp Fc nC Tryz.prog drr4_ops Q 16 26 (drrA_val gD oD n cD i jp d P PQ 16) x w := by
 (obtain ⟨hF, hi, hn, d0, hp, hr, d1, h2, d3, h3, h4, h5, hB, hdef, u0, u3⟩ := H; have ho : drr4_ops[16]? = some drr4_o16 := rfl; simp only [Array.getD_eq_getD_getElem?] at u0 u3)
 have q15 : Array.getD (Act.tmps x) 25 undef = .pointer (some ⟨gD, oD + i * 4, none⟩) := p15
 have q7 : Array.getD (Act.tmps x) 17 undef = .bool false := p7
 simp only [Array.getD_eq_getD_getElem?] at q15 q7
 (have e7 : (drr4_ops[7]?.bind fun x => x.dst) = some 17 := rfl; have g7 := get_someT q7 (fun h => by cases h))
 (refine wpOpIn_stepT hF ho (fun K hK => ?_); clear ho; rw [Oper.semAt_plain Fc _ _ (by intro c h; cases h)]; simp only [drr4_o16]; go_simp)
 exact hK _ _ ⟨_, act_putD x hdef _ _, rfl, Below.refl _ _⟩
theorem drrA_s17 (H : drrA_H Fc gD oD n cD i jp d P PQ df w0 x w) (p16 : drrA_val gD oD n cD i jp d P PQ 16 (x.tmps.getD 26 undef) w) (p7 : drrA_val gD oD n cD i jp d P PQ 7 (x.tmps.getD 17 undef) w) : Stp Fc nC Tryz.prog drr4_ops Q 17 27 (drrA_val gD oD n cD i jp d P PQ 17) x w := by
 (obtain ⟨hF, hi, hn, d0, hp, hr, d1, h2, d3, h3, h4, h5, hB, hdef, u0, u3⟩ := H; have ho : drr4_ops[17]? = some drr4_o17 := rfl; simp only [Array.getD_eq_getD_getElem?] at u0 u3)
 have q16 : Array.getD (Act.tmps x) 26 undef = .pointer (some ⟨gD, oD + i * 4, none⟩) := p16
 have q7 : Array.getD (Act.tmps x) 17 undef = .bool false := p7
 simp only [Array.getD_eq_getD_getElem?] at q16 q7
 (have e7 : (drr4_ops[7]?.bind fun x => x.dst) = some 17 := rfl; have g7 := get_someT q7 (fun h => by cases h))
 have m := cell_thru d0 hB
 (refine wpOpIn_stepT hF ho (fun K hK => ?_); clear ho; rw [Oper.semAt_plain Fc _ _ (by intro c h; cases h)]; simp only [drr4_o17]; go_simp)
 exact hK _ _ ⟨_, act_putD x hdef _ _, rfl, Below.refl _ _⟩
theorem drrA_s18 (H : drrA_H Fc gD oD n cD i jp d P PQ df w0 x w) (p17 : drrA_val gD oD n cD i jp d P PQ 17 (x.tmps.getD 27 undef) w) (p7 : drrA_val gD oD n cD i jp d P PQ 7 (x.tmps.getD 17 undef) w) : Stp Fc nC Tryz.prog drr4_ops Q 18 28 (drrA_val gD oD n cD i jp d P PQ 18) x w := by
 (obtain ⟨hF, hi, hn, d0, hp, hr, d1, h2, d3, h3, h4, h5, hB, hdef, u0, u3⟩ := H; have ho : drr4_ops[18]? = some drr4_o18 := rfl; simp only [Array.getD_eq_getD_getElem?] at u0 u3)
 have q17 : Array.getD (Act.tmps x) 27 undef = by8 P := p17
 have q7 : Array.getD (Act.tmps x) 17 undef = .bool false := p7
 simp only [Array.getD_eq_getD_getElem?] at q17 q7
 (have e7 : (drr4_ops[7]?.bind fun x => x.dst) = some 17 := rfl; have g7 := get_someT q7 (fun h => by cases h))
 (refine wpOpIn_stepT hF ho (fun K hK => ?_); clear ho; rw [Oper.semAt_plain Fc _ _ (by intro c h; cases h)]; simp only [drr4_o18]; go_simp)
 refine ⟨hF.deep, (hF.call (refOf_any P w hp)).mono ?_⟩
 rintro e w' ⟨rfl, hb⟩
 exact hK _ _ ⟨_, act_putD x hdef _ _, rfl, hb⟩
theorem drrA_s19 (H : drrA_H Fc gD oD n cD i jp d P PQ df w0 x w) (p12 : drrA_val gD oD n cD i jp d P PQ 12 (x.tmps.getD 22 undef) w) (p18 : drrA_val gD oD n cD i jp d P PQ 18 (x.tmps.getD 28 undef) w) (p7 : drrA_val gD oD n cD i jp d P PQ 7 (x.tmps.getD 17 undef) w) : Stp Fc nC Tryz.prog drr4_ops Q 19 29 (drrA_val gD oD n cD i jp d P PQ 19) x w := by
 (obtain ⟨hF, hi, hn, d0, hp, hr, d1, h2, d3, h3, h4, h5, hB, hdef, u0, u3⟩ := H; have ho : drr4_ops[19]? = some drr4_o19 := rfl; simp only [Array.getD_eq_getD_getElem?] at u0 u3)
 have q12 : Array.getD (Act.tmps x) 22 undef = by8 d.L := p12
 have q18 : Array.getD (Act.tmps x) 28 undef = by8 (ofL P) := p18
 have q7 : Array.getD (Act.tmps x) 17 undef = .bool false := p7
 simp only [Array.getD_eq_getD_getElem?] at q12 q18 q7
 (have e7 : (drr4_ops[7]?.bind fun x => x.dst) = some 17 := rfl; have g7 := get_someT q7 (fun h => by cases h))
 have m := h2
 unfold by8 at q12 q18
 (refine wpOpIn_stepT hF ho (fun K hK => ?_); clear ho; rw [Oper.semAt_plain Fc _ _ (by intro c h; cases h)]; simp only [drr4_o19]; go_simp)
 exact hK _ _ ⟨_, act_putD x hdef _ _, rfl, Below.refl _ _⟩
theorem drrA_s20 (H : drrA_H Fc gD oD n cD i jp d P PQ df w0 x w) (p7 : drrA_val gD oD n cD i jp d P PQ 7 (x.tmps.getD 17 undef) w) (p19 : drrA_val gD oD n cD i jp d P PQ 19 (x.tmps.getD 29 undef) w) : Stp Fc nC Tryz.prog drr4_ops Q 20 30 (drrA_val gD oD n cD i jp d P PQ 20) x w := by
 (obtain ⟨hF, hi, hn, d0, hp, hr, d1, h2, d3, h3, h4, h5, hB, hdef, u0, u3⟩ := H; have ho : drr4_ops[20]? = some drr4_o20 := rfl; simp only [Array.getD_eq_getD_getElem?] at u0 u3)
 have q7 : Array.getD (Act.tmps x) 17 undef = .bool false := p7
 have q19 : Array.getD (Act.tmps x) 29 undef = .bool false := p19
 simp only [Array.getD_eq_getD_getElem?] at q7 q19
 (refine wpOpIn_plain ho rfl (oper_inK hF.fn (fun K hK => ?_)); clear ho; rw [Oper.semAt_plain Fc _ _ (by intro c h; cases h)]; simp only [drr4_o20]; go_simp)
 exact hK _ _ ⟨_, act_putD x hdef _ _, rfl, Below.refl _ _⟩
theorem drrA_s21 (H : drrA_H Fc gD oD n cD i jp d P PQ df w0 x w) (p20 : drrA_val gD oD n cD i jp d P PQ 20 (x.tmps.getD 30 undef) w) : Stp Fc nC Tryz.prog drr4_ops Q 21 31 (drrA_val gD oD n cD i jp d P PQ 21) x w := by
 (obtain ⟨hF, hi, hn, d0, hp, hr, d1, h2, d3, h3, h4, h5, hB, hdef, u0, u3⟩ := H; have ho : drr4_ops[21]? = some drr4_o21 := rfl; simp only [Array.getD_eq_getD_getElem?] at u0 u3)
 have q20 : Array.getD (Act.tmps x) 30 undef = .bool false := p20
 simp only [Array.getD_eq_getD_getElem?] at q20
 (refine wpOpIn_plain ho rfl (oper_inK hF.fn (fun K hK => ?_)); clear ho; rw [Oper.semAt_plain Fc _ _ (by intro c h; cases h)]; simp only [drr4_o21]; go_simp)
 exact hK _ _ ⟨_, act_putD x hdef _ _, rfl, Below.refl _ _⟩
theorem drrA_s22 (H : drrA_H Fc gD oD n cD i jp d P PQ df w0 x w) (p21 : drrA_val gD oD n cD i jp d P PQ 21 (x.tmps.getD 31 undef) w) : Stp Fc nC Tryz.prog drr4_ops Q 22 32 (drrA_val gD oD n cD i jp d P PQ 22) x w := by
 (obtain ⟨hF, hi, hn, d0, hp, hr, d1, h2, d3, h3, h4, h5, hB, hdef, u0, u3⟩ := H; have ho : drr4_ops[22]? = some drr4_o22 := rfl; simp only [Array.getD_eq_getD_getElem?] at u0 u3)
 have q21 : Array.getD (Act.tmps x) 31 undef = .bool false := p21
 simp only [Array.getD_eq_getD_getElem?] at q21
 (have e21 : (drr4_ops[21]?.bind fun x => x.dst) = some 31 := rfl; have g21 := get_someT q21 (fun h => by cases h))
 (refine wpOpIn_stepT hF ho (fun K hK => ?_); clear ho; rw [Oper.semAt_plain Fc _ _ (by intro c h; cases h)]; simp only [drr4_o22]; go_simp)
 exact hK _ _ ⟨_, act_putD x hdef _ _, rfl, Below.refl _ _⟩
theorem drrA_s23 (H : drrA_H Fc gD oD n cD i jp d P PQ df w0 x w) (p21 : drrA_val gD oD n cD i jp d P PQ 21 (x.tmps.getD 31 undef) w) : Stp Fc nC Tryz.prog drr4_ops Q 23 33 (drrA_val gD oD n cD i jp d P PQ 23) x w := by
 (obtain ⟨hF, hi, hn, d0, hp, hr, d1, h2, d3, h3, h4, h5, hB, hdef, u0, u3⟩ := H; have ho : drr4_ops[23]? = some drr4_o23 := rfl; simp only [Array.getD_eq_getD_getElem?] at u0 u3)
 have q21 : Array.getD (Act.tmps x) 31 undef = .bool false := p21
 simp only [Array.getD_eq_getD_getElem?] at q21
 (have e21 : (drr4_ops[21]?.bind fun x => x.dst) = some 31 := rfl; have g21 := get_someT q21 (fun h => by cases h))
 (refine wpOpIn_stepT hF ho (fun K hK => ?_); clear ho; rw [Oper.semAt_plain Fc _ _ (by intro c h; cases h)]; simp only [drr4_o23]; go_simp)
 exact hK _ _ ⟨_, act_putD x hdef _ _, rfl, Below.refl _ _⟩
theorem drrA_s24 (H : drrA_H Fc gD oD n cD i jp d P PQ df w0 x w) (p22 : drrA_val gD oD n cD i jp d P PQ 22 (x.tmps.getD 32 undef) w) (p23 : drrA_val gD oD n cD i jp d P PQ 23 (x.tmps.getD 33 undef) w) (p21 : drrA_val gD oD n cD i jp d P PQ 21 (x.tmps.getD 31 undef) w) : Stp Fc nC Tryz.prog drr4_ops Q 24 34 (drrA_val gD oD n cD i jp d P PQ 24) x w := by
 (obtain ⟨hF, hi, hn, d0, hp, hr, d1, h2, d3, h3, h4, h5, hB, hdef, u0, u3⟩ := H; have ho : drr4_ops[24]? = some drr4_o24 := rfl; simp only [Array.getD_eq_getD_getElem?] at u0 u3)
 have q22 : Array.getD (Act.tmps x) 32 undef = .slice (some ⟨gD, oD, none⟩) n cD := p22
 have q23 : Array.getD (Act.tmps x) 33 undef = .int .i64 (i : Nat) := p23
 have q21 : Array.getD (Act.tmps x) 31 undef = .bool false := p21
 simp only [Array.getD_eq_getD_getElem?] at q22 q23 q21
 (have e21 : (drr4_ops[21]?.bind fun x => x.dst) = some 31 := rfl; have g21 := get_someT q21 (fun h => by cases h))
 have i0 : (0 : Int) ≤ (i : Int) := by omega
 have i1 : (i : Int) < (n : Int) := by omega
 (refine wpOpIn_stepT hF ho (fun K hK => ?_); clear ho; rw [Oper.semAt_plain Fc _ _ (by intro c h; cases h)]; simp only [drr4_o24]; go_simp)
 exact hK _ _ ⟨_, act_putD x hdef _ _, rfl, Below.refl _ _⟩
theorem drrA_s25 (H : drrA_H Fc gD oD n cD i jp d P PQ df w0 x w) (p24 : drrA_val gD oD n cD i jp d P PQ 24 (x.tmps.getD 34 undef) w) (p21 : drrA_val gD oD n cD i jp d P PQ 21 (x.tmps.getD 31 undef) w) : Stp Fc nC Tryz.prog drr4_ops Q 25 35 (drrA_val gD oD n cD i jp d P PQ 25) x w := by
 (obtain ⟨hF, hi, hn, d0, hp, hr, d1, h2, d3, h3, h4, h5, hB, hdef, u0, u3⟩ := H; have ho : drr4_ops[25]? = some drr4_o25 := rfl; simp only [Array.getD_eq_getD_getElem?] at u0 u3)
 have q24 : Array.getD (Act.tmps x) 34 undef = .pointer (some ⟨gD, oD + i * 4, none⟩) := p24
 have q21 : Array.getD (Act.tmps x) 31 undef = .bool false := p21
 simp only [Array.getD_eq_getD_getElem?] at q24 q21
 (have e21 : (drr4_ops[21]?.bind fun x => x.dst) = some 31 := rfl; have g21 := get_someT q21 (fun h => by cases h))
 (refine wpOpIn_stepT hF ho (fun K hK => ?_); clear ho; rw [Oper.semAt_plain Fc _ _ (by intro c h; cases h)]; simp only [drr4_o25]; go_simp)
 exact hK _ _ ⟨_, act_putD x hdef _ _, rfl, Below.refl _ _⟩
theorem drrA_s26 (H : drrA_H Fc gD oD n cD i jp d P PQ df w0 x w) (p25 : drrA_val gD oD n cD i jp d P PQ 25 (x.tmps.getD 35 undef) w) (p21 : drrA_val gD oD n cD i jp d P PQ 21 (x.tmps.getD 31 undef) w) : Stp Fc nC Tryz.prog drr4_ops Q 26 36 (drrA_val gD oD n cD i jp d P PQ 26) x w := by
 (obtain ⟨hF, hi, hn, d0, hp, hr, d1, h2, d3, h3, h4, h5, hB, hdef, u0, u3⟩ := H; have ho : drr4_ops[26]? = some drr4_o26 := rfl; simp only [Array.getD_eq_getD_getElem?] at u0 u3)
 have q25 : Array.getD (Act.tmps x) 35 undef = .pointer (some ⟨gD, oD + i * 4 + 3, none⟩) := p25
 have q21 : Array.getD (Act.tmps x) 31 undef = .bool false := p21
 simp only [Array.getD_eq_getD_getElem?] at q25 q21
 (have e21 : (drr4_ops[21]?.bind fun x => x.dst) = some 31 := rfl; have g21 := get_someT q21 (fun h => by cases h))
 have m := cell_thru d3 hB
 (refine wpOpIn_stepT hF ho (fun K hK => ?_); clear ho; rw [Oper.semAt_plain Fc _ _ (by intro c h; cases h)]; simp only [drr4_o26]; go_simp)
 exact hK _ _ ⟨_, act_putD x hdef _ _, rfl, Below.refl _ _⟩
theorem drrA_s27 (H : drrA_H Fc gD oD n cD i jp d P PQ df w0 x w) (p26 : drrA_val gD oD n cD i jp d P PQ 26 (x.tmps.getD 36 undef) w) (p21 : drrA_val gD oD n cD i jp d P PQ 21 (x.tmps.getD 31 undef) w) : Stp Fc nC Tryz.prog drr4_ops Q 27 37 (drrA_val gD oD n cD i jp d P PQ 27) x w := by
 (obtain ⟨hF, hi, hn, d0, hp, hr, d1, h2, d3, h3, h4, h5, hB, hdef, u0, u3⟩ := H; have ho : drr4_ops[27]? = some drr4_o27 := rfl; simp only [Array.getD_eq_getD_getElem?] at u0 u3)
 have q26 : Array.getD (Act.tmps x) 36 undef = .int .i64 d.Z := p26
 have q21 : Array.getD (Act.tmps x) 31 undef = .bool false := p21
 simp only [Array.getD_eq_getD_getElem?] at q26 q21
 (have e21 : (drr4_ops[21]?.bind fun x => x.dst) = some 31 := rfl; have g21 := get_someT q21 (fun h => by cases h))
 have m := h3
 (refine wpOpIn_stepT hF ho (fun K hK => ?_); clear ho; rw [Oper.semAt_plain Fc _ _ (by intro c h; cases h)]; simp only [drr4_o27]; go_simp)
 exact hK _ _ ⟨_, act_putD x hdef _ _, rfl, Below.refl _ _⟩
theorem drrA_s28 (H : drrA_H Fc gD oD n cD i jp d P PQ df w0 x w) (p21 : drrA_val gD oD n cD i jp d P PQ 21 (x.tmps.getD 31 undef) w) (p27 : drrA_val gD oD n cD i jp d P PQ 27 (x.tmps.getD 37 undef) w) : Stp Fc nC Tryz.prog drr4_ops Q 28 38 (drrA_val gD oD n cD i jp d P PQ 28) x w := by
 (obtain ⟨hF, hi, hn, d0, hp, hr, d1, h2, d3, h3, h4, h5, hB, hdef, u0, u3⟩ := H; have ho : drr4_ops[28]? = some drr4_o28 := rfl; simp only [Array.getD_eq_getD_getElem?] at u0 u3)
 have q21 : Array.getD (Act.tmps x) 31 undef = .bool false := p21
 have q27 : Array.getD (Act.tmps x) 37 undef = .bool false := p27
 simp only [Array.getD_eq_getD_getElem?] at q21 q27
 (refine wpOpIn_plain ho rfl (oper_inK hF.fn (fun K hK => ?_)); clear ho; rw [Oper.semAt_plain Fc _ _ (by intro c h; cases h)]; simp only [drr4_o28]; go_simp)
 exact hK _ _ ⟨_, act_putD x hdef _ _, rfl, Below.refl _ _⟩
theorem drrA_s29 (H : drrA_H Fc gD oD n cD i jp d P PQ df w0 x w) (p28 : drrA_val gD oD n cD i jp d P PQ 28 (x.tmps.getD 38 undef) w) : Stp Fc nC Tryz.prog drr4_ops Q 29 39 (drrA_val gD oD n cD i jp d P PQ 29) x w := by
 (obtain ⟨hF, hi, hn, d0, hp, hr, d1, h2, d3, h3, h4, h5, hB, hdef, u0, u3⟩ := H; have ho : drr4_ops[29]? = some drr4_o29 := rfl; simp only [Array.getD_eq_getD_getElem?] at u0 u3)
 have q28 : Array.getD (Act.tmps x) 38 undef = .bool false := p28
 simp only [Array.getD_eq_getD_getElem?] at q28
 (refine wpOpIn_plain ho rfl (oper_inK hF.fn (fun K hK => ?_)); clear ho; rw [Oper.semAt_plain Fc _ _ (by intro c h; cases h)]; simp only [drr4_o29]; go_simp)
 exact hK _ _ ⟨_, act_putD x hdef _ _, rfl, Below.refl _ _⟩
theorem drrA_s30 (H : drrA_H Fc gD oD n cD i jp d P PQ df w0 x w) (p29 : drrA_val gD oD n cD i jp d P PQ 29 (x.tmps.getD 39 undef) w) : Stp Fc nC Tryz.prog drr4_ops Q 30 40 (drrA_val gD oD n cD i jp d P PQ 30) x w := by
 (obtain ⟨hF, hi, hn, d0, hp, hr, d1, h2, d3, h3, h4, h5, hB, hdef, u0, u3⟩ := H; have ho : drr4_ops[30]? = some drr4_o30 := rfl; simp only [Array.getD_eq_getD_getElem?] at u0 u3)
 have q29 : Array.getD (Act.tmps x) 39 undef = .bool false := p29
 simp only [Array.getD_eq_getD_getElem?] at q29
 (have e29 : (drr4_ops[29]?.bind fun x => x.dst) = some 39 := rfl; have g29 := get_someT q29 (fun h => by cases h))
 (refine wpOpIn_stepT hF ho (fun K hK => ?_); clear ho; rw [Oper.semAt_plain Fc _ _ (by intro c h; cases h)]; simp only [drr4_o30]; go_simp)
 exact hK _ _ ⟨_, act_putD x hdef _ _, rfl, Below.refl _ _⟩
theorem drrA_s31 (H : drrA_H Fc gD oD n cD i jp d P PQ df w0 x w) (p29 : drrA_val gD oD n cD i jp d P PQ 29 (x.tmps.getD 39 undef) w) : Stp Fc nC Tryz.prog drr4_ops Q 31 41 (drrA_val gD oD n cD i jp d P PQ 31) x w := by
 (obtain ⟨hF, hi, hn, d0, hp, hr, d1, h2, d3, h3, h4, h5, hB, hdef, u0, u3⟩ := H; have ho : drr4_ops[31]? = some drr4_o31 := rfl; simp only [Array.getD_eq_getD_getElem?] at u0 u3)
 have q29 : Array.getD (Act.tmps x) 39 undef = .bool false := p29
 simp only [Array.getD_eq_getD_getElem?] at q29
 (have e29 : (drr4_ops[29]?.bind fun x => x.dst) = some 39 := rfl; have g29 := get_someT q29 (fun h => by cases h))
 (refine wpOpIn_stepT hF ho (fun K hK => ?_); clear ho; rw [Oper.semAt_plain Fc _ _ (by intro c h; cases h)]; simp only [drr4_o31]; go_simp)
 exact hK _ _ ⟨_, act_putD x hdef _ _, rfl, Below.refl _ _⟩
theorem drrA_s32 (H : drrA_H Fc gD oD n cD i jp d P PQ df w0 x w) (p30 : drrA_val gD oD n cD i jp d P PQ 30 (x.tmps.getD 40 undef) w) (p31 : drrA_val gD oD n cD i jp d P PQ 31 (x.tmps.getD 41 undef) w) (p29 : drrA_val gD oD n cD i jp d P PQ 29 (x.tmps.getD 39 undef) w) : Stp Fc nC Tryz.prog drr4_ops Q 32 42 (drrA_val gD oD n cD i jp d P PQ 32) x w := by
 (obtain ⟨hF, hi, hn, d0, hp, hr, d1, h2, d3, h3, h4, h5, hB, hdef, u0, u3⟩ := H; have ho : drr4_ops[32]? = some drr4_o32 := rfl; simp only [Array.getD_eq_getD_getElem?] at u0 u3)
 have q30 : Array.getD (Act.tmps x) 40 undef = .slice (some ⟨gD, oD, none⟩) n cD := p30
 have q31 : Array.getD (Act.tmps x) 41 undef = .int .i64 (i : Nat) := p31
 have q29 : Array.getD (Act.tmps x) 39 undef = .bool false := p29
 simp only [Array.getD_eq_getD_getElem?] at q30 q31 q29
 (have e29 : (drr4_ops[29]?.bind fun x => x.dst) = some 39 := rfl; have g29 := get_someT q29 (fun h => by cases h))
 have i0 : (0 : Int) ≤ (i : Int) := by omega
 have i1 : (i : Int) < (n : Int) := by omega
 (refine wpOpIn_stepT hF ho (fun K hK => ?_); clear ho; rw [Oper.semAt_plain Fc _ _ (by intro c h; cases h)]; simp only [drr4_o32]; go_simp)
 exact hK _ _ ⟨_, act_putD x hdef _ _, rfl, Below.refl _ _⟩
theorem drrA_s33 (H : drrA_H Fc gD oD n cD i jp d P PQ df w0 x w) (p32 : drrA_val gD oD n cD i jp d P PQ 32 (x.tmps.getD 42 undef) w) (p29 : drrA_val gD oD n cD i jp d P PQ 29 (x.tmps.getD 39 undef) w) : Stp Fc nC Tryz.prog drr4_ops Q 33 43 (drrA_val gD oD n cD i jp d P PQ 33) x w := by
 (obtain ⟨hF, hi, hn, d0, hp, hr, d1, h2, d3, h3, h4, h5, hB, hdef, u0, u3⟩ := H; have ho : drr4_ops[33]? = some drr4_o33 := rfl; simp only [Array.getD_eq_getD_getElem?] at u0 u3)
 have q32 : Array.getD (Act.tmps x) 42 undef = .pointer (some ⟨gD, oD + i * 4, none⟩) := p32
 have q29 : Array.getD (Act.tmps x) 39 undef = .bool false := p29
 simp only [Array.getD_eq_getD_getElem?] at q32 q29
 (have e29 : (drr4_ops[29]?.bind fun x => x.dst) = some 39 := rfl; have g29 := get_someT q29 (fun h => by cases h))
 (refine wpOpIn_stepT hF ho (fun K hK => ?_); clear ho; rw [Oper.semAt_plain Fc _ _ (by intro c h; cases h)]; simp only [drr4_o33]; go_simp)
 exact hK _ _ ⟨_, act_putD x hdef _ _, rfl, Below.refl _ _⟩
theorem drrA_s34 (H : drrA_H Fc gD oD n cD i jp d P PQ df w0 x w) (p33 : drrA_val gD oD n cD i jp d P PQ 33 (x.tmps.getD 43 undef) w) (p29 : drrA_val gD oD n cD i jp d P PQ 29 (x.tmps.getD 39 undef) w) : Stp Fc nC Tryz.prog drr4_ops Q 34 44 (drrA_val gD oD n cD i jp d P PQ 34) x w := by
 (obtain ⟨hF, hi, hn, d0, hp, hr, d1, h2, d3, h3, h4, h5, hB, hdef, u0, u3⟩ := H; have ho : drr4_ops[34]? = some drr4_o34 := rfl; simp only [Array.getD_eq_getD_getElem?] at u0 u3)
 have q33 : Array.getD (Act.tmps x) 43 undef = .pointer (some ⟨gD, oD + i * 4 + 3, none⟩) := p33
 have q29 : Array.getD (Act.tmps x) 39 undef = .bool false := p29
 simp only [Array.getD_eq_getD_getElem?] at q33 q29
 (have e29 : (drr4_ops[29]?.bind fun x => x.dst) = some 39 := rfl; have g29 := get_someT q29 (fun h => by cases h))
 have m := cell_thru d3 hB
 (refine wpOpIn_stepT hF ho (fun K hK => ?_); clear ho; rw [Oper.semAt_plain Fc _ _ (by intro c h; cases h)]; simp only [drr4_o34]; go_simp)
 exact hK _ _ ⟨_, act_putD x hdef _ _, rfl, Below.refl _ _⟩
theorem drrA_s35 (H : drrA_H Fc gD oD n cD i jp d P PQ df w0 x w) (p34 : drrA_val gD oD n cD i jp d P PQ 34 (x.tmps.getD 44 undef) w) (p29 : drrA_val gD oD n cD i jp d P PQ 29 (x.tmps.getD 39 undef) w) : Stp Fc nC Tryz.prog drr4_ops Q 35 45 (drrA_val gD oD n cD i jp d P PQ 35) x w := by
 (obtain ⟨hF, hi, hn, d0, hp, hr, d1, h2, d3, h3, h4, h5, hB, hdef, u0, u3⟩ := H; have ho : drr4_ops[35]? = some drr4_o35 := rfl; simp only [Array.getD_eq_getD_getElem?] at u0 u3)
 have q34 : Array.getD (Act.tmps x) 44 undef = .int .i64 d.Z := p34
 have q29 : Array.getD (Act.tmps x) 39 undef = .bool false := p29
 simp only [Array.getD_eq_getD_getElem?] at q34 q29
 (have e29 : (drr4_ops[29]?.bind fun x => x.dst) = some 39 := rfl; have g29 := get_someT q29 (fun h => by cases h))
 have m := h4
 (refine wpOpIn_stepT hF ho (fun K hK => ?_); clear ho; rw [Oper.semAt_plain Fc _ _ (by intro c h; cases h)]; simp only [drr4_o35]; go_simp)
 exact hK _ _ ⟨_, act_putD x hdef _ _, rfl, Below.refl _ _⟩
theorem drrA_s36 (H : drrA_H Fc gD oD n cD i jp d P PQ df w0 x w) (p29 : drrA_val gD oD n cD i jp d P PQ 29 (x.tmps.getD 39 undef) w) (p35 : drrA_val gD oD n cD i jp d P PQ 35 (x.tmps.getD 45 undef) w) : Stp Fc nC Tryz.prog drr4_ops Q 36 46 (drrA_val gD oD n cD i jp d P PQ 36) x w := by
 (obtain ⟨hF, hi, hn, d0, hp, hr, d1, h2, d3, h3, h4, h5, hB, hdef, u0, u3⟩ := H; have ho : drr4_ops[36]? = some drr4_o36 := rfl; simp only [Array.getD_eq_getD_getElem?] at u0 u3)
 have q29 : Array.getD (Act.tmps x) 39 undef = .bool false := p29
 have q35 : Array.getD (Act.tmps x) 45 undef = .bool false := p35
 simp only [Array.getD_eq_getD_getElem?] at q29 q35
 (refine wpOpIn_plain ho rfl (oper_inK hF.fn (fun K hK => ?_)); clear ho; rw [Oper.semAt_plain Fc _ _ (by intro c h; cases h)]; simp only [drr4_o36]; go_simp)
 exact hK _ _ ⟨_, act_putD x hdef _ _, rfl, Below.refl _ _⟩
theorem drrA_s37 (H : drrA_H Fc gD oD n cD i jp d P PQ df w0 x w) (p36 : drrA_val gD oD n cD i jp d P PQ 36 (x.tmps.getD 46 undef) w) : Stp Fc nC Tryz.prog drr4_ops Q 37 47 (drrA_val gD oD n cD i jp d P PQ 37) x w := by
 (obtain ⟨hF, hi, hn, d0, hp, hr, d1, h2, d3, h3, h4, h5, hB, hdef, u0, u3⟩ := H; have ho : drr4_ops[37]? = some drr4_o37 := rfl; simp only [Array.getD_eq_getD_getElem?] at u0 u3)
 have q36 : Array.getD (Act.tmps x) 46 undef = .bool false := p36
 simp only [Array.getD_eq_getD_getElem?] at q36
 (refine wpOpIn_plain ho rfl (oper_inK hF.fn (fun K hK => ?_)); clear ho; rw [Oper.semAt_plain Fc _ _ (by intro c h; cases h)]; simp only [drr4_o37]; go_simp)
 exact hK _ _ ⟨_, act_putD x hdef _ _, rfl, Below.refl _ _⟩
theorem drrA_s38 (H : drrA_H Fc gD oD n cD i jp d P PQ df w0 x w) (p37 : drrA_val gD oD n cD i jp d P PQ 37 (x.tmps.getD 47 undef) w) : Stp Fc nC Tryz.prog drr4_ops Q 38 48 (drrA_val gD oD n cD i jp d P PQ 38) x w := by
 (obtain ⟨hF, hi, hn, d0, hp, hr, d1, h2, d3, h3, h4, h5, hB, hdef, u0, u3⟩ := H; have ho : drr4_ops[38]? = some drr4_o38 := rfl; simp only [Array.getD_eq_getD_getElem?] at u0 u3)
 have q37 : Array.getD (Act.tmps x) 47 undef = .bool false := p37
 simp only [Array.getD_eq_getD_getElem?] at q37
 (have e37 : (drr4_ops[37]?.bind fun x => x.dst) = some 47 := rfl; have g37 := get_someT q37 (fun h => by cases h))
 (refine wpOpIn_stepT hF ho (fun K hK => ?_); clear ho; rw [Oper.semAt_plain Fc _ _ (by intro c h; cases h)]; simp only [drr4_o38]; go_simp)
 exact hK _ _ ⟨_, act_putD x hdef _ _, rfl, Below.refl _ _⟩
theorem drrA_s39 (H : drrA_H Fc gD oD n cD i jp d P PQ df w0 x w) (p38 : drrA_val gD oD n cD i jp d P PQ 38 (x.tmps.getD 48 undef) w) (p37 : drrA_val gD oD n cD i jp d P PQ 37 (x.tmps.getD 47 undef) w) : Stp Fc nC Tryz.prog drr4_ops Q 39 49 (drrA_val gD oD n cD i jp d P PQ 39) x w := by
 (obtain ⟨hF, hi, hn, d0, hp, hr, d1, h2, d3, h3, h4, h5, hB, hdef, u0, u3⟩ := H; have ho : drr4_ops[39]? = some drr4_o39 := rfl; simp only [Array.getD_eq_getD_getElem?] at u0 u3)
 have q38 : Array.getD (Act.tmps x) 48 undef = .int .i64 (i : Nat) := p38
 have q37 : Array.getD (Act.tmps x) 47 undef = .bool false := p37
 simp only [Array.getD_eq_getD_getElem?] at q38 q37
 (have e37 : (drr4_ops[37]?.bind fun x => x.dst) = some 47 := rfl; have g37 := get_someT q37 (fun h => by cases h))
 have m := h5
 (refine wpOpIn_stepT hF ho (fun K hK => ?_); clear ho; rw [Oper.semAt_plain Fc _ _ (by intro c h; cases h)]; simp only [drr4_o39]; go_simp)
 exact hK _ _ ⟨_, act_putD x hdef _ _, rfl, Below.refl _ _⟩
theorem drrA_s40 (H : drrA_H Fc gD oD n cD i jp d P PQ df w0 x w) (p39 : drrA_val gD oD n cD i jp d P PQ 39 (x.tmps.getD 49 undef) w) (p37 : drrA_val gD oD n cD i jp d P PQ 37 (x.tmps.getD 47 undef) w) : Stp Fc nC Tryz.prog drr4_ops Q 40 50 (drrA_val gD oD n cD i jp d P PQ 40) x w := by
 (obtain ⟨hF, hi, hn, d0, hp, hr, d1, h2, d3, h3, h4, h5, hB, hdef, u0, u3⟩ := H; have ho : drr4_ops[40]? = some drr4_o40 := rfl; simp only [Array.getD_eq_getD_getElem?] at u0 u3)
 have q39 : Array.getD (Act.tmps x) 49 undef = .bool false := p39
 have q37 : Array.getD (Act.tmps x) 47 undef = .bool false := p37
 simp only [Array.getD_eq_getD_getElem?] at q39 q37
 (have e37 : (drr4_ops[37]?.bind fun x => x.dst) = some 47 := rfl; have g37 := get_someT q37 (fun h => by cases h))
 (refine wpOpIn_stepT hF ho (fun K hK => ?_); clear ho; rw [Oper.semAt_plain Fc _ _ (by intro c h; cases h)]; simp only [drr4_o40]; go_simp)
 exact hK _ _ ⟨_, act_putD x hdef _ _, rfl, Below.refl _ _⟩
theorem drrA_s41 (H : drrA_H Fc gD oD n cD i jp d P PQ df w0 x w) (p40 : drrA_val gD oD n cD i jp d P PQ 40 (x.tmps.getD 50 undef) w) : Stp Fc nC Tryz.prog drr4_ops Q 41 51 (drrA_val gD oD n cD i jp d P PQ 41) x w := by
 (obtain ⟨hF, hi, hn, d0, hp, hr, d1, h2, d3, h3, h4, h5, hB, hdef, u0, u3⟩ := H; have ho : drr4_ops[41]? = some drr4_o41 := rfl; simp only [Array.getD_eq_getD_getElem?] at u0 u3)
 have q40 : Array.getD (Act.tmps x) 50 undef = .bool false := p40
 simp only [Array.getD_eq_getD_getElem?] at q40
 (have e40 : (drr4_ops[40]?.bind fun x => x.dst) = some 50 := rfl; have g40 := get_someT q40 (fun h => by cases h))
 (refine wpOpIn_stepT hF ho (fun K hK => ?_); clear ho; rw [Oper.semAt_plain Fc _ _ (by intro c h; cases h)]; simp only [drr4_o41]; go_simp)
 exact hK _ _ ⟨_, act_putD x hdef _ _, rfl, Below.refl _ _⟩
theorem drrA_s42 (H : drrA_H Fc gD oD n cD i jp d P PQ df w0 x w) (p40 : drrA_val gD oD n cD i jp d P PQ 40 (x.tmps.getD 50 undef) w) : Stp Fc nC Tryz.prog drr4_ops Q 42 52 (drrA_val gD oD n cD i jp d P PQ 42) x w := by
 (obtain ⟨hF, hi, hn, d0, hp, hr, d1, h2, d3, h3, h4, h5, hB, hdef, u0, u3⟩ := H; have ho : drr4_ops[42]? = some drr4_o42 := rfl; simp only [Array.getD_eq_getD_getElem?] at u0 u3)
 have q40 : Array.getD (Act.tmps x) 50 undef = .bool false := p40
 simp only [Array.getD_eq_getD_getElem?] at q40
 (have e40 : (drr4_ops[40]?.bind fun x => x.dst) = some 50 := rfl; have g40 := get_someT q40 (fun h => by cases h))
 (refine wpOpIn_stepT hF ho (fun K hK => ?_); clear ho; rw [Oper.semAt_plain Fc _ _ (by intro c h; cases h)]; simp only [drr4_o42]; go_simp)
 exact hK _ _ ⟨_, act_putD x hdef _ _, rfl, Below.refl _ _⟩
theorem drrA_s43 (H : drrA_H Fc gD oD n cD i jp d P PQ df w0 x w) (p42 : drrA_val gD oD n cD i jp d P PQ 42 (x.tmps.getD 52 undef) w) (p40 : drrA_val gD oD n cD i jp d P PQ 40 (x.tmps.getD 50 undef) w) : Stp Fc nC Tryz.prog drr4_ops Q 43 53 (drrA_val gD oD n cD i jp d P PQ 43) x w := by
 (obtain ⟨hF, hi, hn, d0, hp, hr, d1, h2, d3, h3, h4, h5, hB, hdef, u0, u3⟩ := H; have ho : drr4_ops[43]? = some drr4_o43 := rfl; simp only [Array.getD_eq_getD_getElem?] at u0 u3)
 have q42 : Array.getD (Act.tmps x) 52 undef = undef := p42
 have q40 : Array.getD (Act.tmps x) 50 undef = .bool false := p40
 simp only [Array.getD_eq_getD_getElem?] at q42 q40
 (have e40 : (drr4_ops[40]?.bind fun x => x.dst) = some 50 := rfl; have g40 := get_someT q40 (fun h => by cases h))
 (refine wpOpIn_stepT hF ho (fun K hK => ?_); clear ho; rw [Oper.semAt_plain Fc _ _ (by intro c h; cases h)]; simp only [drr4_o43]; go_simp)
 exact hK _ _ ⟨_, act_putD x hdef _ _, rfl, Below.refl _ _⟩
theorem drrA_s44 (H : drrA_H Fc gD oD n cD i jp d P PQ df w0 x w) (p41 : drrA_val gD oD n cD i jp d P PQ 41 (x.tmps.getD 51 undef) w) (p43 : drrA_val gD oD n cD i jp d P PQ 43 (x.tmps.getD 53 undef) w) (p40 : drrA_val gD oD n cD i jp d P PQ 40 (x.tmps.getD 50 undef) w) : Stp Fc nC Tryz.prog drr4_ops Q 44 54 (drrA_val gD oD n cD i jp d P PQ 44) x w := by
 (obtain ⟨hF, hi, hn, d0, hp, hr, d1, h2, d3, h3, h4, h5, hB, hdef, u0, u3⟩ := H; have ho : drr4_ops[44]? = some drr4_o44 := rfl; simp only [Array.getD_eq_getD_getElem?] at u0 u3)
 have q41 : Array.getD (Act.tmps x) 51 undef = undef := p41
 have q43 : Array.getD (Act.tmps x) 53 undef = undef := p43
 have q40 : Array.getD (Act.tmps x) 50 undef = .bool false := p40
 simp only [Array.getD_eq_getD_getElem?] at q41 q43 q40
 (have e40 : (drr4_ops[40]?.bind fun x => x.dst) = some 50 := rfl; have g40 := get_someT q40 (fun h => by cases h))
 (refine wpOpIn_stepT hF ho (fun K hK => ?_); clear ho; rw [Oper.semAt_plain Fc _ _ (by intro c h; cases h)]; simp only [drr4_o44]; go_simp)
 exact hK _ _ ⟨_, act_putD x hdef _ _, rfl, Below.refl _ _⟩
theorem drrA_s45 (H : drrA_H Fc gD oD n cD i jp d P PQ df w0 x w) (p44 : drrA_val gD oD n cD i jp d P PQ 44 (x.tmps.getD 54 undef) w) (p40 : drrA_val gD oD n cD i jp d P PQ 40 (x.tmps.getD 50 undef) w) : Stp Fc nC Tryz.prog drr4_ops Q 45 55 (drrA_val gD oD n cD i jp d P PQ 45) x w := by
 (obtain ⟨hF, hi, hn, d0, hp, hr, d1, h2, d3, h3, h4, h5, hB, hdef, u0, u3⟩ := H; have ho : drr4_ops[45]? = some drr4_o45 := rfl; simp only [Array.getD_eq_getD_getElem?] at u0 u3)
 have q44 : Array.getD (Act.tmps x) 54 undef = undef := p44
 have q40 : Array.getD (Act.tmps x) 50 undef = .bool false := p40
 simp only [Array.getD_eq_getD_getElem?] at q44 q40
 (have e40 : (drr4_ops[40]?.bind fun x => x.dst) = some 50 := rfl; have g40 := get_someT q40 (fun h => by cases h))
 (refine wpOpIn_stepT hF ho (fun K hK => ?_); clear ho; rw [Oper.semAt_plain Fc _ _ (by intro c h; cases h)]; simp only [drr4_o45]; go_simp)
 exact hK _ _ ⟨_, act_putD x hdef _ _, rfl, Below.refl _ _⟩
theorem drrA_s46 (H : drrA_H Fc gD oD n cD i jp d P PQ df w0 x w) (p45 : drrA_val gD oD n cD i jp d P PQ 45 (x.tmps.getD 55 undef) w) (p40 : drrA_val gD oD n cD i jp d P PQ 40 (x.tmps.getD 50 undef) w) : Stp Fc nC Tryz.prog drr4_ops Q 46 56 (drrA_val gD oD n cD i jp d P PQ 46) x w := by
 (obtain ⟨hF, hi, hn, d0, hp, hr, d1, h2, d3, h3, h4, h5, hB, hdef, u0, u3⟩ := H; have ho : drr4_ops[46]? = some drr4_o46 := rfl; simp only [Array.getD_eq_getD_getElem?] at u0 u3)
 have q45 : Array.getD (Act.tmps x) 55 undef = undef := p45
 have q40 : Array.getD (Act.tmps x) 50 undef = .bool false := p40
 simp only [Array.getD_eq_getD_getElem?] at q45 q40
 (have e40 : (drr4_ops[40]?.bind fun x => x.dst) = some 50 := rfl; have g40 := get_someT q40 (fun h => by cases h))
 (refine wpOpIn_stepT hF ho (fun K hK => ?_); clear ho; rw [Oper.semAt_plain Fc _ _ (by intro c h; cases h)]; simp only [drr4_o46]; go_simp)
 exact hK _ _ ⟨_, act_putD x hdef _ _, rfl, Below.refl _ _⟩
theorem drrA_s47 (H : drrA_H Fc gD oD n cD i jp d P PQ df w0 x w) (p40 : drrA_val gD oD n cD i jp d P PQ 40 (x.tmps.getD 50 undef) w) : Stp Fc nC Tryz.prog drr4_ops Q 47 57 (drrA_val gD oD n cD i jp d P PQ 47) x w := by
 (obtain ⟨hF, hi, hn, d0, hp, hr, d1, h2, d3, h3, h4, h5, hB, hdef, u0, u3⟩ := H; have ho : drr4_ops[47]? = some drr4_o47 := rfl; simp only [Array.getD_eq_getD_getElem?] at u0 u3)
 have q40 : Array.getD (Act.tmps x) 50 undef = .bool false := p40
 simp only [Array.getD_eq_getD_getElem?] at q40
 (have e40 : (drr4_ops[40]?.bind fun x => x.dst) = some 50 := rfl; have g40 := get_someT q40 (fun h => by cases h))
 (refine wpOpIn_stepT hF ho (fun K hK => ?_); clear ho; rw [Oper.semAt_plain Fc _ _ (by intro c h; cases h)]; simp only [drr4_o47]; go_simp)
 exact hK _ _ ⟨_, act_putD x hdef _ _, rfl, Below.refl _ _⟩
theorem drrA_s48 (H : drrA_H Fc gD oD n cD i jp d P PQ df w0 x w) (p40 : drrA_val gD oD n cD i jp d P PQ 40 (x.tmps.getD 50 undef) w) : Stp Fc nC Tryz.prog drr4_ops Q 48 58 (drrA_val gD oD n cD i jp d P PQ 48) x w := by
 (obtain ⟨hF, hi, hn, d0, hp, hr, d1, h2, d3, h3, h4, h5, hB, hdef, u0, u3⟩ := H; have ho : drr4_ops[48]? = some drr4_o48 := rfl; simp only [Array.getD_eq_getD_getElem?] at u0 u3)
 have q40 : Array.getD (Act.tmps x) 50 undef = .bool false := p40
 simp only [Array.getD_eq_getD_getElem?] at q40
 (have e40 : (drr4_ops[40]?.bind fun x => x.dst) = some 50 := rfl; have g40 := get_someT q40 (fun h => by cases h))
 (refine wpOpIn_stepT hF ho (fun K hK => ?_); clear ho; rw [Oper.semAt_plain Fc _ _ (by intro c h; cases h)]; simp only [drr4_o48]; go_simp)
 exact hK _ _ ⟨_, act_putD x hdef _ _, rfl, Below.refl _ _⟩
theorem drrA_s49 (H : drrA_H Fc gD oD n cD i jp d P PQ df w0 x w) (p47 : drrA_val gD oD n cD i jp d P PQ 47 (x.tmps.getD 57 undef) w) (p48 : drrA_val gD oD n cD i jp d P PQ 48 (x.tmps.getD 58 undef) w) (p40 : drrA_val gD oD n cD i jp d P PQ 40 (x.tmps.getD 50 undef) w) : Stp Fc nC Tryz.prog drr4_ops Q 49 59 (drrA_val gD oD n cD i jp d P PQ 49) x w := by
 (obtain ⟨hF, hi, hn, d0, hp, hr, d1, h2, d3, h3, h4, h5, hB, hdef, u0, u3⟩ := H; have ho : drr4_ops[49]? = some drr4_o49 := rfl; simp only [Array.getD_eq_getD_getElem?] at u0 u3)
 have q47 : Array.getD (Act.tmps x) 57 undef = undef := p47
 have q48 : Array.getD (Act.tmps x) 58 undef = undef := p48
 have q40 : Array.getD (Act.tmps x) 50 undef = .bool false := p40
 simp only [Array.getD_eq_getD_getElem?] at q47 q48 q40
 (have e40 : (drr4_ops[40]?.bind fun x => x.dst) = some 50 := rfl; have g40 := get_someT q40 (fun h => by cases h))
 (refine wpOpIn_stepT hF ho (fun K hK => ?_); clear ho; rw [Oper.semAt_plain Fc _ _ (by intro c h; cases h)]; simp only [drr4_o49]; go_simp)
 exact hK _ _ ⟨_, act_putD x hdef _ _, rfl, Below.refl _ _⟩
theorem drrA_s50 (H : drrA_H Fc gD oD n cD i jp d P PQ df w0 x w) (p49 : drrA_val gD oD n cD i jp d P PQ 49 (x.tmps.getD 59 undef) w) (p40 : drrA_val gD oD n cD i jp d P PQ 40 (x.tmps.getD 50 undef) w) : Stp Fc nC Tryz.prog drr4_ops Q 50 60 (drrA_val gD oD n cD i jp d P PQ 50) x w := by
 (obtain ⟨hF, hi, hn, d0, hp, hr, d1, h2, d3, h3, h4, h5, hB, hdef, u0, u3⟩ := H; have ho : drr4_ops[50]? = some drr4_o50 := rfl; simp only [Array.getD_eq_getD_getElem?] at u0 u3)
 have q49 : Array.getD (Act.tmps x) 59 undef = undef := p49
 have q40 : Array.getD (Act.tmps x) 50 undef = .bool false := p40
 simp only [Array.getD_eq_getD_getElem?] at q49 q40
 (have e40 : (drr4_ops[40]?.bind fun x => x.dst) = some 50 := rfl; have g40 := get_someT q40 (fun h => by cases h))
 (refine wpOpIn_stepT hF ho (fun K hK => ?_); clear ho; rw [Oper.semAt_plain Fc _ _ (by intro c h; cases h)]; simp only [drr4_o50]; go_simp)
 exact hK _ _ ⟨_, act_putD x hdef _ _, rfl, Below.refl _ _⟩
theorem drrA_s51 (H : drrA_H Fc gD oD n cD i jp d P PQ df w0 x w) (p50 : drrA_val gD oD n cD i jp d P PQ 50 (x.tmps.getD 60 undef) w) (p40 : drrA_val gD oD n cD i jp d P PQ 40 (x.tmps.getD 50 undef) w) : Stp Fc nC Tryz.prog drr4_ops Q 51 61 (drrA_val gD oD n cD i jp d P PQ 51) x w := by
 (obtain ⟨hF, hi, hn, d0, hp, hr, d1, h2, d3, h3, h4, h5, hB, hdef, u0, u3⟩ := H; have ho : drr4_ops[51]? = some drr4_o51 := rfl; simp only [Array.getD_eq_getD_getElem?] at u0 u3)
 have q50 : Array.getD (Act.tmps x) 60 undef = undef := p50
 have q40 : Array.getD (Act.tmps x) 50 undef = .bool false := p40
 simp only [Array.getD_eq_getD_getElem?] at q50 q40
 (have e40 : (drr4_ops[40]?.bind fun x => x.dst) = some 50 := rfl; have g40 := get_someT q40 (fun h => by cases h))
 (refine wpOpIn_stepT hF ho (fun K hK => ?_); clear ho; rw [Oper.semAt_plain Fc _ _ (by intro c h; cases h)]; simp only [drr4_o51]; go_simp)
 exact hK _ _ ⟨_, act_putD x hdef _ _, rfl, Below.refl _ _⟩
theorem drrA_s52 (H : drrA_H Fc gD oD n cD i jp d P PQ df w0 x w) (p46 : drrA_val gD oD n cD i jp d P PQ 46 (x.tmps.getD 56 undef) w) (p51 : drrA_val gD oD n cD i jp d P PQ 51 (x.tmps.getD 61 undef) w) (p40 : drrA_val gD oD n cD i jp d P PQ 40 (x.tmps.getD 50 undef) w) : Stp Fc nC Tryz.prog drr4_ops Q 52 62 (drrA_val gD oD n cD i jp d P PQ 52) x w := by
 (obtain ⟨hF, hi, hn, d0, hp, hr, d1, h2, d3, h3, h4, h5, hB, hdef, u0, u3⟩ := H; have ho : drr4_ops[52]? = some drr4_o52 := rfl; simp only [Array.getD_eq_getD_getElem?] at u0 u3)
 have q46 : Array.getD (Act.tmps x) 56 undef = undef := p46
 have q51 : Array.getD (Act.tmps x) 61 undef = undef := p51
 have q40 : Array.getD (Act.tmps x) 50 undef = .bool false := p40
 simp only [Array.getD_eq_getD_getElem?] at q46 q51 q40
 (have e40 : (drr4_ops[40]?.bind fun x => x.dst) = some 50 := rfl; have g40 := get_someT q40 (fun h => by cases h))
 (refine wpOpIn_stepT hF ho (fun K hK => ?_); clear ho; rw [Oper.semAt_plain Fc _ _ (by intro c h; cases h)]; simp only [drr4_o52]; go_simp)
 exact hK _ _ ⟨_, act_putD x hdef _ _, rfl, Below.refl _ _⟩
theorem drrA_s53 (H : drrA_H Fc gD oD n cD i jp d P PQ df w0 x w) (p40 : drrA_val gD oD n cD i jp d P PQ 40 (x.tmps.getD 50 undef) w) (p52 : drrA_val gD oD n cD i jp d P PQ 52 (x.tmps.getD 62 undef) w) (p37 : drrA_val gD oD n cD i jp d P PQ 37 (x.tmps.getD 47 undef) w) : Stp Fc nC Tryz.prog drr4_ops Q 53 63 (drrA_val gD oD n cD i jp d P PQ 53) x w := by
 (obtain ⟨hF, hi, hn, d0, hp, hr, d1, h2, d3, h3, h4, h5, hB, hdef, u0, u3⟩ := H; have ho : drr4_ops[53]? = some drr4_o53 := rfl; simp only [Array.getD_eq_getD_getElem?] at u0 u3)
 have q40 : Array.getD (Act.tmps x) 50 undef = .bool false := p40
 have q52 : Array.getD (Act.tmps x) 62 undef = undef := p52
 have q37 : Array.getD (Act.tmps x) 47 undef = .bool false := p37
 simp only [Array.getD_eq_getD_getElem?] at q40 q52 q37
 (have e37 : (drr4_ops[37]?.bind fun x => x.dst) = some 47 := rfl; have g37 := get_someT q37 (fun h => by cases h))
 (refine wpOpIn_stepT hF ho (fun K hK => ?_); clear ho; rw [Oper.semAt_plain Fc _ _ (by intro c h; cases h)]; simp only [drr4_o53]; go_simp)
 exact hK _ _ ⟨_, act_putD x hdef _ _, rfl, Below.refl _ _⟩
theorem drrA_s54 (H : drrA_H Fc gD oD n cD i jp d P PQ df w0 x w) (p37 : drrA_val gD oD n cD i jp d P PQ 37 (x.tmps.getD 47 undef) w) (p53 : drrA_val gD oD n cD i jp d P PQ 53 (x.tmps.getD 63 undef) w) : Stp Fc nC Tryz.prog drr4_ops Q 54 64 (drrA_val gD oD n cD i jp d P PQ 54) x w := by
 (obtain ⟨hF, hi, hn, d0, hp, hr, d1, h2, d3, h3, h4, h5, hB, hdef, u0, u3⟩ := H; have ho : drr4_ops[54]? = some drr4_o54 := rfl; simp only [Array.getD_eq_getD_getElem?] at u0 u3)
 have q37 : Array.getD (Act.tmps x) 47 undef = .bool false := p37
 have q53 : Array.getD (Act.tmps x) 63 undef = .bool false := p53
 simp only [Array.getD_eq_getD_getElem?] at q37 q53
 (refine wpOpIn_plain ho rfl (oper_inK hF.fn (fun K hK => ?_)); clear ho; rw [Oper.semAt_plain Fc _ _ (by intro c h; cases h)]; simp only [drr4_o54]; go_simp)
 exact hK _ _ ⟨_, act_putD x hdef _ _, rfl, Below.refl _ _⟩
end
section
theorem drrA {Fc : Fence} (hF : Wide Fc) {nC : Nat} (gD oD n cD i jp : Nat) (d : DT) (P PQ : List UInt8) (Q : Exit → Act → World → Prop) (t0 : Array Value) (df : List Deferred) (w0 : World) (ht : t0.size = 68)
  (hs0 : t0.getD 0 undef = .slice (some ⟨gD, oD, none⟩) n cD) (hs3 : t0.getD 3 undef = .int .i64 (i : Nat))
  (hi : i < n) (hn : n ≤ 140737488351232) (d0 : w0.cell? ⟨gD, oD + i * 4, none⟩ = some (by8 P)) (hp : P.length ≤ 1000000) (hr : rightP P = true) (d1 : w0.cell? ⟨gD, oD + i * 4 + 1, none⟩ = some (by8 d.L)) (h2 : (!(d.L == ofL P)) = false) (d3 : w0.cell? ⟨gD, oD + i * 4 + 3, none⟩ = some (.int .i64 d.Z)) (h3 : decide (d.Z < 0) = false) (h4 : decide ((1048576 : Int) < d.Z) = false) (h5 : decide (0 < i) = false)
  (hQ : ∀ (vs : Nat → Value) (w : World), Below w0.heap.size w0 w → (vs 64 = .bool false) → Q .normal { tmps := [10, 11, 12, 13, 14, 15, 16, 17, 18, 19, 20, 21, 22, 23, 24, 25, 26, 27, 28, 29, 30, 31, 32, 33, 34, 35, 36, 37, 38, 39, 40, 41, 42, 43, 44, 45, 46, 47, 48, 49, 50, 51, 52, 53, 54, 55, 56, 57, 58, 59, 60, 61, 62, 63, 64].foldl (fun y d => y.setIfInBounds d (vs d)) t0, defers := df } w) :
  (Code.region 4 drr4_ops true).wpIn Fc nC Tryz.prog Q { tmps := t0, defers := df } w0 := by
 refine wpIn_region_tail 55 (by decide) (by kernel_rfl) (fun a b => Below a.heap.size a b) (drrA_val gD oD n cD i jp d P PQ) t0 df w0 (by rw [ht]; kernel_rfl) (by kernel_rfl) (by kernel_rfl) (by kernel_rfl) ((Below.refl _ _).drew) (fun _ _ _ h k => h.trans (k.mono h.size)) (drrA_below gD oD n cD i jp d P PQ) ?_ ?_
 ·intro j o ho hj x w hB hdef hsz hs hdeps
  have hs' : ∀ s, ¬ drr4_mem s → x.tmps.getD s undef = t0.getD s undef := fun s hn => hs s (fun j hj e => hn (by rw [e]; exact drr4_slots j hj))
  have u0 := (hs' 0 (by decide)).trans hs0
  have u3 := (hs' 3 (by decide)).trans hs3
  have H : drrA_H Fc gD oD n cD i jp d P PQ df w0 x w := ⟨hF, hi, hn, d0, hp, hr, d1, h2, d3, h3, h4, h5, hB, hdef, u0, u3⟩
  match j, ho, hj with
  | 0, ho, _ =>
    (have e : o = drr4_o0 := (Option.some.inj ho).symm; subst e)
    exact drrA_s0 H 
  | 1, ho, _ =>
    (have e : o = drr4_o1 := (Option.some.inj ho).symm; subst e)
    exact drrA_s1 H 
  | 2, ho, _ =>
    (have e : o = drr4_o2 := (Option.some.inj ho).symm; subst e)
    exact drrA_s2 H (hdeps ⟨0, .data⟩ (by simp) rfl) (hdeps ⟨1, .data⟩ (by simp) rfl)
  | 3, ho, _ =>
    (have e : o = drr4_o3 := (Option.some.inj ho).symm; subst e)
    exact drrA_s3 H (hdeps ⟨2, .data⟩ (by simp) rfl)
  | 4, ho, _ =>
    (have e : o = drr4_o4 := (Option.some.inj ho).symm; subst e)
    exact drrA_s4 H (hdeps ⟨3, .data⟩ (by simp) rfl)
  | 5, ho, _ =>
    (have e : o = drr4_o5 := (Option.some.inj ho).symm; subst e)
    exact drrA_s5 H (hdeps ⟨4, .data⟩ (by simp) rfl)
  | 6, ho, _ =>
    (have e : o = drr4_o6 := (Option.some.inj ho).symm; subst e)
    exact drrA_s6 H (hdeps ⟨5, .data⟩ (by simp) rfl)
  | 7, ho, _ =>
    (have e : o = drr4_o7 := (Option.some.inj ho).symm; subst e)
    exact drrA_s7 H (hdeps ⟨6, .data⟩ (by simp) rfl)
  | 8, ho, _ =>
    (have e : o = drr4_o8 := (Option.some.inj ho).symm; subst e)
    exact drrA_s8 H (hdeps ⟨7, .guard⟩ (by simp) rfl)
  | 9, ho, _ =>
    (have e : o = drr4_o9 := (Option.some.inj ho).symm; subst e)
    exact drrA_s9 H (hdeps ⟨7, .guard⟩ (by simp) rfl)
  | 10, ho, _ =>
    (have e : o = drr4_o10 := (Option.some.inj ho).symm; subst e)
    exact drrA_s10 H (hdeps ⟨8, .data⟩ (by simp) rfl) (hdeps ⟨9, .data⟩ (by simp) rfl) (hdeps ⟨7, .guard⟩ (by simp) rfl)
  | 11, ho, _ =>
    (have e : o = drr4_o11 := (Option.some.inj ho).symm; subst e)
    exact drrA_s11 H (hdeps ⟨10, .data⟩ (by simp) rfl) (hdeps ⟨7, .guard⟩ (by simp) rfl)
  | 12, ho, _ =>
    (have e : o = drr4_o12 := (Option.some.inj ho).symm; subst e)
    exact drrA_s12 H (hdeps ⟨11, .data⟩ (by simp) rfl) (hdeps ⟨7, .guard⟩ (by simp) rfl)
  | 13, ho, _ =>
    (have e : o = drr4_o13 := (Option.some.inj ho).symm; subst e)
    exact drrA_s13 H (hdeps ⟨7, .guard⟩ (by simp) rfl)
  | 14, ho, _ =>
    (have e : o = drr4_o14 := (Option.some.inj ho).symm; subst e)
    exact drrA_s14 H (hdeps ⟨7, .guard⟩ (by simp) rfl)
  | 15, ho, _ =>
    (have e : o = drr4_o15 := (Option.some.inj ho).symm; subst e)
    exact drrA_s15 H (hdeps ⟨13, .data⟩ (by simp) rfl) (hdeps ⟨14, .data⟩ (by simp) rfl) (hdeps ⟨7, .guard⟩ (by simp) rfl)
  | 16, ho, _ =>
    (have e : o = drr4_o16 := (Option.some.inj ho).symm; subst e)
    exact drrA_s16 H (hdeps ⟨15, .data⟩ (by simp) rfl) (hdeps ⟨7, .guard⟩ (by simp) rfl)
  | 17, ho, _ =>
    (have e : o = drr4_o17 := (Option.some.inj ho).symm; subst e)
    exact drrA_s17 H (hdeps ⟨16, .data⟩ (by simp) rfl) (hdeps ⟨7, .guard⟩ (by simp) rfl)
  | 18, ho, _ =>
    (have e : o = drr4_o18 := (Option.some.inj ho).symm; subst e)
    exact drrA_s18 H (hdeps ⟨17, .data⟩ (by simp) rfl) (hdeps ⟨7, .guard⟩ (by simp) rfl)
  | 19, ho, _ =>
    (have e : o = drr4_o19 := (Option.some.inj ho).symm; subst e)
    exact drrA_s19 H (hdeps ⟨12, .data⟩ (by simp) rfl) (hdeps ⟨18, .data⟩ (by simp) rfl) (hdeps ⟨7, .guard⟩ (by simp) rfl)
  | 20, ho, _ =>
    (have e : o = drr4_o20 := (Option.some.inj ho).symm; subst e)
    exact drrA_s20 H (hdeps ⟨7, .data⟩ (by simp) rfl) (hdeps ⟨19, .data⟩ (by simp) rfl)
  | 21, ho, _ =>
    (have e : o = drr4_o21 := (Option.some.inj ho).symm; subst e)
    exact drrA_s21 H (hdeps ⟨20, .data⟩ (by simp) rfl)
  | 22, ho, _ =>
    (have e : o = drr4_o22 := (Option.some.inj ho).symm; subst e)
    exact drrA_s22 H (hdeps ⟨21, .guard⟩ (by simp) rfl)
  | 23, ho, _ =>
    (have e : o = drr4_o23 := (Option.some.inj ho).symm; subst e)
    exact drrA_s23 H (hdeps ⟨21, .guard⟩ (by simp) rfl)
  | 24, ho, _ =>
    (have e : o = drr4_o24 := (Option.some.inj ho).symm; subst e)
    exact drrA_s24 H (hdeps ⟨22, .data⟩ (by simp) rfl) (hdeps ⟨23, .data⟩ (by simp) rfl) (hdeps ⟨21, .guard⟩ (by simp) rfl)
  | 25, ho, _ =>
    (have e : o = drr4_o25 := (Option.some.inj ho).symm; subst e)
    exact drrA_s25 H (hdeps ⟨24, .data⟩ (by simp) rfl) (hdeps ⟨21, .guard⟩ (by simp) rfl)
  | 26, ho, _ =>
    (have e : o = drr4_o26 := (Option.some.inj ho).symm; subst e)
    exact drrA_s26 H (hdeps ⟨25, .data⟩ (by simp) rfl) (hdeps ⟨21, .guard⟩ (by simp) rfl)
  | 27, ho, _ =>
    (have e : o = drr4_o27 := (Option.some.inj ho).symm; subst e)
    exact drrA_s27 H (hdeps ⟨26, .data⟩ (by simp) rfl) (hdeps ⟨21, .guard⟩ (by simp) rfl)
  | 28, ho, _ =>
    (have e : o = drr4_o28 := (Option.some.inj ho).symm; subst e)
    exact drrA_s28 H (hdeps ⟨21, .data⟩ (by simp) rfl) (hdeps ⟨27, .data⟩ (by simp) rfl)
  | 29, ho, _ =>
    (have e : o = drr4_o29 := (Option.some.inj ho).symm; subst e)
    exact drrA_s29 H (hdeps ⟨28, .data⟩ (by simp) rfl)
  | 30, ho, _ =>
    (have e : o = drr4_o30 := (Option.some.inj ho).symm; subst e)
    exact drrA_s30 H (hdeps ⟨29, .guard⟩ (by simp) rfl)
  | 31, ho, _ =>
    (have e : o = drr4_o31 := (Option.some.inj ho).symm; subst e)
    exact drrA_s31 H (hdeps ⟨29, .guard⟩ (by simp) rfl)
  | 32, ho, _ =>
    (have e : o = drr4_o32 := (Option.some.inj ho).symm; subst e)
    exact drrA_s32 H (hdeps ⟨30, .data⟩ (by simp) rfl) (hdeps ⟨31, .data⟩ (by simp) rfl) (hdeps ⟨29, .guard⟩ (by simp) rfl)
  | 33, ho, _ =>
    (have e : o = drr4_o33 := (Option.some.inj ho).symm; subst e)
    exact drrA_s33 H (hdeps ⟨32, .data⟩ (by simp) rfl) (hdeps ⟨29, .guard⟩ (by simp) rfl)
  | 34, ho, _ =>
    (have e : o = drr4_o34 := (Option.some.inj ho).symm; subst e)
    exact drrA_s34 H (hdeps ⟨33, .data⟩ (by simp) rfl) (hdeps ⟨29, .guard⟩ (by simp) rfl)
  | 35, ho, _ =>
    (have e : o = drr4_o35 := (Option.some.inj ho).symm; subst e)
    exact drrA_s35 H (hdeps ⟨34, .data⟩ (by simp) rfl) (hdeps ⟨29, .guard⟩ (by simp) rfl)
  | 36, ho, _ =>
    (have e : o = drr4_o36 := (Option.some.inj ho).symm; subst e)
    exact drrA_s36 H (hdeps ⟨29, .data⟩ (by simp) rfl) (hdeps ⟨35, .data⟩ (by simp) rfl)
  | 37, ho, _ =>
    (have e : o = drr4_o37 := (Option.some.inj ho).symm; subst e)
    exact drrA_s37 H (hdeps ⟨36, .data⟩ (by simp) rfl)
  | 38, ho, _ =>
    (have e : o = drr4_o38 := (Option.some.inj ho).symm; subst e)
    exact drrA_s38 H (hdeps ⟨37, .guard⟩ (by simp) rfl)
  | 39, ho, _ =>
    (have e : o = drr4_o39 := (Option.some.inj ho).symm; subst e)
    exact drrA_s39 H (hdeps ⟨38, .data⟩ (by simp) rfl) (hdeps ⟨37, .guard⟩ (by simp) rfl)
  | 40, ho, _ =>
    (have e : o = drr4_o40 := (Option.some.inj ho).symm; subst e)
    exact drrA_s40 H (hdeps ⟨39, .data⟩ (by simp) rfl) (hdeps ⟨37, .guard⟩ (by simp) rfl)
  | 41, ho, _ =>
    (have e : o = drr4_o41 := (Option.some.inj ho).symm; subst e)
    exact drrA_s41 H (hdeps ⟨40, .guard⟩ (by simp) rfl)
  | 42, ho, _ =>
    (have e : o = drr4_o42 := (Option.some.inj ho).symm; subst e)
    exact drrA_s42 H (hdeps ⟨40, .guard⟩ (by simp) rfl)
  | 43, ho, _ =>
    (have e : o = drr4_o43 := (Option.some.inj ho).symm; subst e)
    exact drrA_s43 H (hdeps ⟨42, .data⟩ (by simp) rfl) (hdeps ⟨40, .guard⟩ (by simp) rfl)
  | 44, ho, _ =>
    (have e : o = drr4_o44 := (Option.some.inj ho).symm; subst e)
    exact drrA_s44 H (hdeps ⟨41, .data⟩ (by simp) rfl) (hdeps ⟨43, .data⟩ (by simp) rfl) (hdeps ⟨40, .guard⟩ (by simp) rfl)
  | 45, ho, _ =>
    (have e : o = drr4_o45 := (Option.some.inj ho).symm; subst e)
    exact drrA_s45 H (hdeps ⟨44, .data⟩ (by simp) rfl) (hdeps ⟨40, .guard⟩ (by simp) rfl)
  | 46, ho, _ =>
    (have e : o = drr4_o46 := (Option.some.inj ho).symm; subst e)
    exact drrA_s46 H (hdeps ⟨45, .data⟩ (by simp) rfl) (hdeps ⟨40, .guard⟩ (by simp) rfl)
  | 47, ho, _ =>
    (have e : o = drr4_o47 := (Option.some.inj ho).symm; subst e)
    exact drrA_s47 H (hdeps ⟨40, .guard⟩ (by simp) rfl)
  | 48, ho, _ =>
    (have e : o = drr4_o48 := (Option.some.inj ho).symm; subst e)
    exact drrA_s48 H (hdeps ⟨40, .guard⟩ (by simp) rfl)
  | 49, ho, _ =>
    (have e : o = drr4_o49 := (Option.some.inj ho).symm; subst e)
    exact drrA_s49 H (hdeps ⟨47, .data⟩ (by simp) rfl) (hdeps ⟨48, .data⟩ (by simp) rfl) (hdeps ⟨40, .guard⟩ (by simp) rfl)
  | 50, ho, _ =>
    (have e : o = drr4_o50 := (Option.some.inj ho).symm; subst e)
    exact drrA_s50 H (hdeps ⟨49, .data⟩ (by simp) rfl) (hdeps ⟨40, .guard⟩ (by simp) rfl)
  | 51, ho, _ =>
    (have e : o = drr4_o51 := (Option.some.inj ho).symm; subst e)
    exact drrA_s51 H (hdeps ⟨50, .data⟩ (by simp) rfl) (hdeps ⟨40, .guard⟩ (by simp) rfl)
  | 52, ho, _ =>
    (have e : o = drr4_o52 := (Option.some.inj ho).symm; subst e)
    exact drrA_s52 H (hdeps ⟨46, .data⟩ (by simp) rfl) (hdeps ⟨51, .data⟩ (by simp) rfl) (hdeps ⟨40, .guard⟩ (by simp) rfl)
  | 53, ho, _ =>
    (have e : o = drr4_o53 := (Option.some.inj ho).symm; subst e)
    exact drrA_s53 H (hdeps ⟨40, .data⟩ (by simp) rfl) (hdeps ⟨52, .data⟩ (by simp) rfl) (hdeps ⟨37, .guard⟩ (by simp) rfl)
  | 54, ho, _ =>
    (have e : o = drr4_o54 := (Option.some.inj ho).symm; subst e)
    exact drrA_s54 H (hdeps ⟨37, .data⟩ (by simp) rfl) (hdeps ⟨53, .data⟩ (by simp) rfl)
  | k + 55, _, hj => omega
 ·intro x w hB hdef hsz hs hv
  have hx := frame_sets x.tmps t0 hsz [10, 11, 12, 13, 14, 15, 16, 17, 18, 19, 20, 21, 22, 23, 24, 25, 26, 27, 28, 29, 30, 31, 32, 33, 34, 35, 36, 37, 38, 39, 40, 41, 42, 43, 44, 45, 46, 47, 48, 49, 50, 51, 52, 53, 54, 55, 56, 57, 58, 59, 60, 61, 62, 63, 64] (fun s hn => hs s (fun j hj e => hn (by rw [e]; exact drr4_slots j hj)))
  have hq := hQ (fun d => x.tmps.getD d undef) w hB (hv 54 (by decide))
  obtain ⟨T, Df⟩ := x
  dsimp only at hx hdef hq
  subst hdef
  rw [← hx] at hq
  exact hq
end
def drrB_val (gD oD n cD i jp : Nat) (d : DT) (P PQ : List UInt8) : Nat → Value → World → Prop
 | 0, v, w => v = .slice (some ⟨gD, oD, none⟩) n cD
 | 1, v, w => v = .int .i64 (i : Nat)
 | 2, v, w => v = .pointer (some ⟨gD, oD + i * 4, none⟩)
 | 3, v, w => v = .pointer (some ⟨gD, oD + i * 4, none⟩)
 | 4, v, w => v = by8 P
 | 5, v, w => v = .bool true
 | 6, v, w => v = .bool false
 | 7, v, w => v = .bool false
 | 8, v, w => v = .slice (some ⟨gD, oD, none⟩) n cD
 | 9, v, w => v = .int .i64 (i : Nat)
 | 10, v, w => v = .pointer (some ⟨gD, oD + i * 4, none⟩)
 | 11, v, w => v = .pointer (some ⟨gD, oD + i * 4 + 1, none⟩)
 | 12, v, w => v = by8 d.L
 | 13, v, w => v = .slice (some ⟨gD, oD, none⟩) n cD
 | 14, v, w => v = .int .i64 (i : Nat)
 | 15, v, w => v = .pointer (some ⟨gD, oD + i * 4, none⟩)
 | 16, v, w => v = .pointer (some ⟨gD, oD + i * 4, none⟩)
 | 17, v, w => v = by8 P
 | 18, v, w => v = by8 (ofL P)
 | 19, v, w | 20, v, w | 21, v, w => v = .bool false
 | 22, v, w => v = .slice (some ⟨gD, oD, none⟩) n cD
 | 23, v, w => v = .int .i64 (i : Nat)
 | 24, v, w => v = .pointer (some ⟨gD, oD + i * 4, none⟩)
 | 25, v, w => v = .pointer (some ⟨gD, oD + i * 4 + 3, none⟩)
 | 26, v, w => v = .int .i64 d.Z
 | 27, v, w | 28, v, w | 29, v, w => v = .bool false
 | 30, v, w => v = .slice (some ⟨gD, oD, none⟩) n cD
 | 31, v, w => v = .int .i64 (i : Nat)
 | 32, v, w => v = .pointer (some ⟨gD, oD + i * 4, none⟩)
 | 33, v, w => v = .pointer (some ⟨gD, oD + i * 4 + 3, none⟩)
 | 34, v, w => v = .int .i64 d.Z
 | 35, v, w | 36, v, w | 37, v, w => v = .bool false
 | 38, v, w => v = .int .i64 (i : Nat)
 | 39, v, w => v = .bool true
 | 40, v, w => v = .bool true
 | 41, v, w => v = .slice (some ⟨gD, oD, none⟩) n cD
 | 42, v, w => v = .int .i64 (i : Nat)
 | 43, v, w => v = .int .i64 (jp : Nat)
 | 44, v, w => v = .pointer (some ⟨gD, oD + jp * 4, none⟩)
 | 45, v, w => v = .pointer (some ⟨gD, oD + jp * 4, none⟩)
 | 46, v, w => v = by8 PQ
 | 47, v, w => v = .slice (some ⟨gD, oD, none⟩) n cD
 | 48, v, w => v = .int .i64 (i : Nat)
 | 49, v, w => v = .pointer (some ⟨gD, oD + i * 4, none⟩)
 | 50, v, w => v = .pointer (some ⟨gD, oD + i * 4, none⟩)
 | 51, v, w => v = by8 P
 | 52, v, w | 53, v, w | 54, v, w => v = .bool false
 | _, _, _ => True
theorem drrB_below (gD oD n cD i jp : Nat) (d : DT) (P PQ : List UInt8) (w w' : World) (hb : Below w.heap.size w w') : ∀ j v, drrB_val gD oD n cD i jp d P PQ j v w → drrB_val gD oD n cD i jp d P PQ j v w' := by
 intro j v h
 match j, h with
 | 0, h | 1, h | 2, h | 3, h | 4, h | 5, h | 6, h | 7, h | 8, h | 9, h | 10, h | 11, h | 12, h | 13, h | 14, h | 15, h | 16, h | 17, h | 18, h | 19, h | 20, h | 21, h | 22, h | 23, h | 24, h | 25, h | 26, h | 27, h | 28, h | 29, h | 30, h | 31, h | 32, h | 33, h | 34, h | 35, h | 36, h | 37, h | 38, h | 39, h | 40, h | 41, h | 42, h | 43, h | 44, h | 45, h | 46, h | 47, h | 48, h | 49, h | 50, h | 51, h | 52, h | 53, h | 54, h => exact h
 | _ + 55, h => exact h
def drrB_H (Fc : Fence) (gD oD n cD i jp : Nat) (d : DT) (P PQ : List UInt8) (df : List Deferred) (w0 : World) (x : Act) (w : World) : Prop :=
 (Wide Fc) ∧ (i < n) ∧ (n ≤ 140737488351232) ∧ (w0.cell? ⟨gD, oD + i * 4, none⟩ = some (by8 P)) ∧ (P.length ≤ 1000000) ∧ (rightP P = true) ∧ (w0.cell? ⟨gD, oD + i * 4 + 1, none⟩ = some (by8 d.L)) ∧ ((!(d.L == ofL P)) = false) ∧ (w0.cell? ⟨gD, oD + i * 4 + 3, none⟩ = some (.int .i64 d.Z)) ∧ (decide (d.Z < 0) = false) ∧ (decide ((1048576 : Int) < d.Z) = false) ∧ (decide (0 < i) = true) ∧ (Hid (i = jp + 1)) ∧ (w0.cell? ⟨gD, oD + jp * 4, none⟩ = some (by8 PQ)) ∧ ((!Op.bytesLess PQ P) = false) ∧ (Below w0.heap.size w0 w) ∧ (x.defers = df) ∧ (x.tmps.getD 0 undef = .slice (some ⟨gD, oD, none⟩) n cD) ∧ (x.tmps.getD 3 undef = .int .i64 (i : Nat))
section
set_option maxRecDepth 100000
set_option maxHeartbeats 2000000
variable {Fc : Fence} {nC : Nat} {gD oD n cD i jp : Nat} {d : DT} {P PQ : List UInt8} {Q : Exit → Act → World → Prop} {df : List Deferred} {w0 : World} {x : Act} {w : World}
theorem drrB_s0 (H : drrB_H Fc gD oD n cD i jp d P PQ df w0 x w) : Stp Fc nC Tryz.prog drr4_ops Q 0 10 (drrB_val gD oD n cD i jp d P PQ 0) x w := by
 (obtain ⟨hF, hi, hn, d0, hp, hr, d1, h2, d3, h3, h4, h5, hjp, hqp, h6, hB, hdef, u0, u3⟩ := H; have ho : drr4_ops[0]? = some drr4_o0 := rfl; simp only [Array.getD_eq_getD_getElem?] at u0 u3)
 (refine wpOpIn_plain ho rfl (oper_inK hF.fn (fun K hK => ?_)); clear ho; rw [Oper.semAt_plain Fc _ _ (by intro c h; cases h)]; simp only [drr4_o0]; go_simp)
 exact hK _ _ ⟨_, act_putD x hdef _ _, rfl, Below.refl _ _⟩
theorem drrB_s1 (H : drrB_H Fc gD oD n cD i jp d P PQ df w0 x w) : Stp Fc nC Tryz.prog drr4_ops Q 1 11 (drrB_val gD oD n cD i jp d P PQ 1) x w := by
 (obtain ⟨hF, hi, hn, d0, hp, hr, d1, h2, d3, h3, h4, h5, hjp, hqp, h6, hB, hdef, u0, u3⟩ := H; have ho : drr4_ops[1]? = some drr4_o1 := rfl; simp only [Array.getD_eq_getD_getElem?] at u0 u3)
 (refine wpOpIn_plain ho rfl (oper_inK hF.fn (fun K hK => ?_)); clear ho; rw [Oper.semAt_plain Fc _ _ (by intro c h; cases h)]; simp only [drr4_o1]; go_simp)
 exact hK _ _ ⟨_, act_putD x hdef _ _, rfl, Below.refl _ _⟩
theorem drrB_s2 (H : drrB_H Fc gD oD n cD i jp d P PQ df w0 x w) (p0 : drrB_val gD oD n cD i jp d P PQ 0 (x.tmps.getD 10 undef) w) (p1 : drrB_val gD oD n cD i jp d P PQ 1 (x.tmps.getD 11 undef) w) : Stp Fc nC Tryz.prog drr4_ops Q 2 12 (drrB_val gD oD n cD i jp d P PQ 2) x w := by
 (obtain ⟨hF, hi, hn, d0, hp, hr, d1, h2, d3, h3, h4, h5, hjp, hqp, h6, hB, hdef, u0, u3⟩ := H; have ho : drr4_ops[2]? = some drr4_o2 := rfl; simp only [Array.getD_eq_getD_getElem?] at u0 u3)
 have q0 : Array.getD (Act.tmps x) 10 undef = .slice (some ⟨gD, oD, none⟩) n cD := p0
 have q1 : Array.getD (Act.tmps x) 11 undef = .int .i64 (i : Nat) := p1
 simp only [Array.getD_eq_getD_getElem?] at q0 q1
 have i0 : (0 : Int) ≤ (i : Int) := by omega
 have i1 : (i : Int) < (n : Int) := by omega
 (refine wpOpIn_plain ho rfl (oper_inK hF.fn (fun K hK => ?_)); clear ho; rw [Oper.semAt_plain Fc _ _ (by intro c h; cases h)]; simp only [drr4_o2]; go_simp)
 exact hK _ _ ⟨_, act_putD x hdef _ _, rfl, Below.refl _ _⟩
theorem drrB_s3 (H : drrB_H Fc gD oD n cD i jp d P PQ df w0 x w) (p2 : drrB_val gD oD n cD i jp d P PQ 2 (x.tmps.getD 12 undef) w) : Stp Fc nC Tryz.prog drr4_ops Q 3 13 (drrB_val gD oD n cD i jp d P PQ 3) x w := by
 (obtain ⟨hF, hi, hn, d0, hp, hr, d1, h2, d3, h3, h4, h5, hjp, hqp, h6, hB, hdef, u0, u3⟩ := H; have ho : drr4_ops[3]? = some drr4_o3 := rfl; simp only [Array.getD_eq_getD_getElem?] at u0 u3)
 have q2 : Array.getD (Act.tmps x) 12 undef = .pointer (some ⟨gD, oD + i * 4, none⟩) := p2
 simp only [Array.getD_eq_getD_getElem?] at q2
 (refine wpOpIn_plain ho rfl (oper_inK hF.fn (fun K hK => ?_)); clear ho; rw [Oper.semAt_plain Fc _ _ (by intro c h; cases h)]; simp only [drr4_o3]; go_simp)
 exact hK _ _ ⟨_, act_putD x hdef _ _, rfl, Below.refl _ _⟩
theorem drrB_s4 (H : drrB_H Fc gD oD n cD i jp d P PQ df w0 x w) (p3 : drrB_val gD oD n cD i jp d P PQ 3 (x.tmps.getD 13 undef) w) : Stp Fc nC Tryz.prog drr4_ops Q 4 14 (drrB_val gD oD n cD i jp d P PQ 4) x w := by
 (obtain ⟨hF, hi, hn, d0, hp, hr, d1, h2, d3, h3, h4, h5, hjp, hqp, h6, hB, hdef, u0, u3⟩ := H; have ho : drr4_ops[4]? = some drr4_o4 := rfl; simp only [Array.getD_eq_getD_getElem?] at u0 u3)
 have q3 : Array.getD (Act.tmps x) 13 undef = .pointer (some ⟨gD, oD + i * 4, none⟩) := p3
 simp only [Array.getD_eq_getD_getElem?] at q3
 have m := cell_thru d0 hB
 (refine wpOpIn_plain ho rfl (oper_inK hF.fn (fun K hK => ?_)); clear ho; rw [Oper.semAt_plain Fc _ _ (by intro c h; cases h)]; simp only [drr4_o4]; go_simp)
 exact hK _ _ ⟨_, act_putD x hdef _ _, rfl, Below.refl _ _⟩
theorem drrB_s5 (H : drrB_H Fc gD oD n cD i jp d P PQ df w0 x w) (p4 : drrB_val gD oD n cD i jp d P PQ 4 (x.tmps.getD 14 undef) w) : Stp Fc nC Tryz.prog drr4_ops Q 5 15 (drrB_val gD oD n cD i jp d P PQ 5) x w := by
 (obtain ⟨hF, hi, hn, d0, hp, hr, d1, h2, d3, h3, h4, h5, hjp, hqp, h6, hB, hdef, u0, u3⟩ := H; have ho : drr4_ops[5]? = some drr4_o5 := rfl; simp only [Array.getD_eq_getD_getElem?] at u0 u3)
 have q4 : Array.getD (Act.tmps x) 14 undef = by8 P := p4
 simp only [Array.getD_eq_getD_getElem?] at q4
 (refine wpOpIn_plain ho rfl (oper_inK hF.fn (fun K hK => ?_)); clear ho; rw [Oper.semAt_plain Fc _ _ (by intro c h; cases h)]; simp only [drr4_o5]; go_simp)
 refine ⟨hF.deep, (hF.call (refRight_any P w hp)).mono ?_⟩
 rintro e w' ⟨rfl, hb⟩
 exact hK _ _ ⟨_, act_putD x hdef _ _, by rw [hr]; exact rfl, hb⟩
theorem drrB_s6 (H : drrB_H Fc gD oD n cD i jp d P PQ df w0 x w) (p5 : drrB_val gD oD n cD i jp d P PQ 5 (x.tmps.getD 15 undef) w) : Stp Fc nC Tryz.prog drr4_ops Q 6 16 (drrB_val gD oD n cD i jp d P PQ 6) x w := by
 (obtain ⟨hF, hi, hn, d0, hp, hr, d1, h2, d3, h3, h4, h5, hjp, hqp, h6, hB, hdef, u0, u3⟩ := H; have ho : drr4_ops[6]? = some drr4_o6 := rfl; simp only [Array.getD_eq_getD_getElem?] at u0 u3)
 have q5 : Array.getD (Act.tmps x) 15 undef = .bool true := p5
 simp only [Array.getD_eq_getD_getElem?] at q5
 (refine wpOpIn_plain ho rfl (oper_inK hF.fn (fun K hK => ?_)); clear ho; rw [Oper.semAt_plain Fc _ _ (by intro c h; cases h)]; simp only [drr4_o6]; go_simp)
 exact hK _ _ ⟨_, act_putD x hdef _ _, rfl, Below.refl _ _⟩
theorem drrB_s7 (H : drrB_H Fc gD oD n cD i jp d P PQ df w0 x w) (p6 : drrB_val gD oD n cD i jp d P PQ 6 (x.tmps.getD 16 undef) w) : Stp Fc nC Tryz.prog drr4_ops Q 7 17 (drrB_val gD oD n cD i jp d P PQ 7) x w := by
 (obtain ⟨hF, hi, hn, d0, hp, hr, d1, h2, d3, h3, h4, h5, hjp, hqp, h6, hB, hdef, u0, u3⟩ := H; have ho : drr4_ops[7]? = some drr4_o7 := rfl; simp only [Array.getD_eq_getD_getElem?] at u0 u3)
 have q6 : Array.getD (Act.tmps x) 16 undef = .bool false := p6
 simp only [Array.getD_eq_getD_getElem?] at q6
 (refine wpOpIn_plain ho rfl (oper_inK hF.fn (fun K hK => ?_)); clear ho; rw [Oper.semAt_plain Fc _ _ (by intro c h; cases h)]; simp only [drr4_o7]; go_simp)
 exact hK _ _ ⟨_, act_putD x hdef _ _, rfl, Below.refl _ _⟩
theorem drrB_s8 (H : drrB_H Fc gD oD n cD i jp d P PQ df w0 x w) (p7 : drrB_val gD oD n cD i jp d P PQ 7 (x.tmps.getD 17 undef) w) : Stp Fc nC Tryz.prog drr4_ops Q 8 18 (drrB_val gD oD n cD i jp d P PQ 8) x w := by
 (obtain ⟨hF, hi, hn, d0, hp, hr, d1, h2, d3, h3, h4, h5, hjp, hqp, h6, hB, hdef, u0, u3⟩ := H; have ho : drr4_ops[8]? = some drr4_o8 := rfl; simp only [Array.getD_eq_getD_getElem?] at u0 u3)
 have q7 : Array.getD (Act.tmps x) 17 undef = .bool false := p7
 simp only [Array.getD_eq_getD_getElem?] at q7
 (have e7 : (drr4_ops[7]?.bind fun x => x.dst) = some 17 := rfl; have g7 := get_someT q7 (fun h => by cases h))
 (refine wpOpIn_stepT hF ho (fun K hK => ?_); clear ho; rw [Oper.semAt_plain Fc _ _ (by intro c h; cases h)]; simp only [drr4_o8]; go_simp)
 exact hK _ _ ⟨_, act_putD x hdef _ _, rfl, Below.refl _ _⟩
theorem drrB_s9 (H : drrB_H Fc gD oD n cD i jp d P PQ df w0 x w) (p7 : drrB_val gD oD n cD i jp d P PQ 7 (x.tmps.getD 17 undef) w) : Stp Fc nC Tryz.prog drr4_ops Q 9 19 (drrB_val gD oD n cD i jp d P PQ 9) x w := by
 (obtain ⟨hF, hi, hn, d0, hp, hr, d1, h2, d3, h3, h4, h5, hjp, hqp, h6, hB, hdef, u0, u3⟩ := H; have ho : drr4_ops[9]? = some drr4_o9 := rfl; simp only [Array.getD_eq_getD_getElem?] at u0 u3)
 have q7 : Array.getD (Act.tmps x) 17 undef = .bool false := p7
 simp only [Array.getD_eq_getD_getElem?] at q7
 (have e7 : (drr4_ops[7]?.bind fun x => x.dst) = some 17 := rfl; have g7 := get_someT q7 (fun h => by cases h))
 (refine wpOpIn_stepT hF ho (fun K hK => ?_); clear ho; rw [Oper.semAt_plain Fc _ _ (by intro c h; cases h)]; simp only [drr4_o9]; go_simp)
 exact hK _ _ ⟨_, act_putD x hdef _ _, rfl, Below.refl _ _⟩
theorem drrB_s10 (H : drrB_H Fc gD oD n cD i jp d P PQ df w0 x w) (p8 : drrB_val gD oD n cD i jp d P PQ 8 (x.tmps.getD 18 undef) w) (p9 : drrB_val gD oD n cD i jp d P PQ 9 (x.tmps.getD 19 undef) w) (p7 : drrB_val gD oD n cD i jp d P PQ 7 (x.tmps.getD 17 undef) w) : Stp Fc nC Tryz.prog drr4_ops Q 10 20 (drrB_val gD oD n cD i jp d P PQ 10) x w := by
 (obtain ⟨hF, hi, hn, d0, hp, hr, d1, h2, d3, h3, h4, h5, hjp, hqp, h6, hB, hdef, u0, u3⟩ := H; have ho : drr4_ops[10]? = some drr4_o10 := rfl; simp only [Array.getD_eq_getD_getElem?] at u0 u3)
 have q8 : Array.getD (Act.tmps x) 18 undef = .slice (some ⟨gD, oD, none⟩) n cD := p8
 have q9 : Array.getD (Act.tmps x) 19 undef = .int .i64 (i : Nat) := p9
 have q7 : Array.getD (Act.tmps x) 17 undef = .bool false := p7
 simp only [Array.getD_eq_getD_getElem?] at q8 q9 q7
 (have e7 : (drr4_ops[7]?.bind fun x => x.dst) = some 17 := rfl; have g7 := get_someT q7 (fun h => by cases h))
 have i0 : (0 : Int) ≤ (i : Int) := by omega
 have i1 : (i : Int) < (n : Int) := by omega
 (refine wpOpIn_stepT hF ho (fun K hK => ?_); clear ho; rw [Oper.semAt_plain Fc _ _ (by intro c h; cases h)]; simp only [drr4_o10]; go_simp)
 exact hK _ _ ⟨_, act_putD x hdef _ _, rfl, Below.refl _ _⟩
theorem drrB_s11 (H : drrB_H Fc gD oD n cD i jp d P PQ df w0 x w) (p10 : drrB_val gD oD n cD i jp d P PQ 10 (x.tmps.getD 20 undef) w) (p7 : drrB_val gD oD n cD i jp d P PQ 7 (x.tmps.getD 17 undef) w) : Stp Fc nC Tryz.prog drr4_ops Q 11 21 (drrB_val gD oD n cD i jp d P PQ 11) x w := by
 (obtain ⟨hF, hi, hn, d0, hp, hr, d1, h2, d3, h3, h4, h5, hjp, hqp, h6, hB, hdef, u0, u3⟩ := H; have ho : drr4_ops[11]? = some drr4_o11 := rfl; simp only [Array.getD_eq_getD_getElem?] at u0 u3)
 have q10 : Array.getD (Act.tmps x) 20 undef = .pointer (some ⟨gD, oD + i * 4, none⟩) := p10
 have q7 : Array.getD (Act.tmps x) 17 undef = .bool false := p7
 simp only [Array.getD_eq_getD_getElem?] at q10 q7
 (have e7 : (drr4_ops[7]?.bind fun x => x.dst) = some 17 := rfl; have g7 := get_someT q7 (fun h => by cases h))
 (refine wpOpIn_stepT hF ho (fun K hK => ?_); clear ho; rw [Oper.semAt_plain Fc _ _ (by intro c h; cases h)]; simp only [drr4_o11]; go_simp)
 exact hK _ _ ⟨_, act_putD x hdef _ _, rfl, Below.refl _ _⟩
theorem drrB_s12 (H : drrB_H Fc gD oD n cD i jp d P PQ df w0 x w) (p11 : drrB_val gD oD n cD i jp d P PQ 11 (x.tmps.getD 21 undef) w) (p7 : drrB_val gD oD n cD i jp d P PQ 7 (x.tmps.getD 17 undef) w) : Stp Fc nC Tryz.prog drr4_ops Q 12 22 (drrB_val gD oD n cD i jp d P PQ 12) x w := by
 (obtain ⟨hF, hi, hn, d0, hp, hr, d1, h2, d3, h3, h4, h5, hjp, hqp, h6, hB, hdef, u0, u3⟩ := H; have ho : drr4_ops[12]? = some drr4_o12 := rfl; simp only [Array.getD_eq_getD_getElem?] at u0 u3)
 have q11 : Array.getD (Act.tmps x) 21 undef = .pointer (some ⟨gD, oD + i * 4 + 1, none⟩) := p11
 have q7 : Array.getD (Act.tmps x) 17 undef = .bool false := p7
 simp only [Array.getD_eq_getD_getElem?] at q11 q7
 (have e7 : (drr4_ops[7]?.bind fun x => x.dst) = some 17 := rfl; have g7 := get_someT q7 (fun h => by cases h))
 have m := cell_thru d1 hB
 (refine wpOpIn_stepT hF ho (fun K hK => ?_); clear ho; rw [Oper.semAt_plain Fc _ _ (by intro c h; cases h)]; simp only [drr4_o12]; go_simp)
 exact hK _ _ ⟨_, act_putD x hdef _ _, rfl, Below.refl _ _⟩
theorem drrB_s13 (H : drrB_H Fc gD oD n cD i jp d P PQ df w0 x w) (p7 : drrB_val gD oD n cD i jp d P PQ 7 (x.tmps.getD 17 undef) w) : Stp Fc nC Tryz.prog drr4_ops Q 13 23 (drrB_val gD oD n cD i jp d P PQ 13) x w := by
 (obtain ⟨hF, hi, hn, d0, hp, hr, d1, h2, d3, h3, h4, h5, hjp, hqp, h6, hB, hdef, u0, u3⟩ := H; have ho : drr4_ops[13]? = some drr4_o13 := rfl; simp only [Array.getD_eq_getD_getElem?] at u0 u3)
 have q7 : Array.getD (Act.tmps x) 17 undef = .bool false := p7
 simp only [Array.getD_eq_getD_getElem?] at q7
 (have e7 : (drr4_ops[7]?.bind fun x => x.dst) = some 17 := rfl; have g7 := get_someT q7 (fun h => by cases h))
 (refine wpOpIn_stepT hF ho (fun K hK => ?_); clear ho; rw [Oper.semAt_plain Fc _ _ (by intro c h; cases h)]; simp only [drr4_o13]; go_simp)
 exact hK _ _ ⟨_, act_putD x hdef _ _, rfl, Below.refl _ _⟩
theorem drrB_s14 (H : drrB_H Fc gD oD n cD i jp d P PQ df w0 x w) (p7 : drrB_val gD oD n cD i jp d P PQ 7 (x.tmps.getD 17 undef) w) : Stp Fc nC Tryz.prog drr4_ops Q 14 24 (drrB_val gD oD n cD i jp d P PQ 14) x w := by
 (obtain ⟨hF, hi, hn, d0, hp, hr, d1, h2, d3, h3, h4, h5, hjp, hqp, h6, hB, hdef, u0, u3⟩ := H; have ho : drr4_ops[14]? = some drr4_o14 := rfl; simp only [Array.getD_eq_getD_getElem?] at u0 u3)
 have q7 : Array.getD (Act.tmps x) 17 undef = .bool false := p7
 simp only [Array.getD_eq_getD_getElem?] at q7
 (have e7 : (drr4_ops[7]?.bind fun x => x.dst) = some 17 := rfl; have g7 := get_someT q7 (fun h => by cases h))
 (refine wpOpIn_stepT hF ho (fun K hK => ?_); clear ho; rw [Oper.semAt_plain Fc _ _ (by intro c h; cases h)]; simp only [drr4_o14]; go_simp)
 exact hK _ _ ⟨_, act_putD x hdef _ _, rfl, Below.refl _ _⟩
theorem drrB_s15 (H : drrB_H Fc gD oD n cD i jp d P PQ df w0 x w) (p13 : drrB_val gD oD n cD i jp d P PQ 13 (x.tmps.getD 23 undef) w) (p14 : drrB_val gD oD n cD i jp d P PQ 14 (x.tmps.getD 24 undef) w) (p7 : drrB_val gD oD n cD i jp d P PQ 7 (x.tmps.getD 17 undef) w) : Stp Fc nC Tryz.prog drr4_ops Q 15 25 (drrB_val gD oD n cD i jp d P PQ 15) x w := by
 (obtain ⟨hF, hi, hn, d0, hp, hr, d1, h2, d3, h3, h4, h5, hjp, hqp, h6, hB, hdef, u0, u3⟩ := H; have ho : drr4_ops[15]? = some drr4_o15 := rfl; simp only [Array.getD_eq_getD_getElem?] at u0 u3)
 have q13 : Array.getD (Act.tmps x) 23 undef = .slice (some ⟨gD, oD, none⟩) n cD := p13
 have q14 : Array.getD (Act.tmps x) 24 undef = .int .i64 (i : Nat) := p14
 have q7 : Array.getD (Act.tmps x) 17 undef = .bool false := p7
 simp only [Array.getD_eq_getD_getElem?] at q13 q14 q7
 (have e7 : (drr4_ops[7]?.bind fun x => x.dst) = some 17 := rfl; have g7 := get_someT q7 (fun h => by cases h))
 have i0 : (0 : Int) ≤ (i : Int) := by omega
 have i1 : (i : Int) < (n : Int) := by omega
 (refine wpOpIn_stepT hF ho (fun K hK => ?_); clear ho; rw [Oper.semAt_plain Fc _ _ (by intro c h; cases h)]; simp only [drr4_o15]; go_simp)
 exact hK _ _ ⟨_, act_putD x hdef _ _, rfl, Below.refl _ _⟩
theorem drrB_s16 (H : drrB_H Fc gD oD n cD i jp d P PQ df w0 x w) (p15 : drrB_val gD oD n cD i jp d P PQ 15 (x.tmps.getD 25 undef) w) (p7 : drrB_val gD oD n cD i jp d P PQ 7 (x.tmps.getD 17 undef) w) : Stp Fc nC Tryz.prog drr4_ops Q 16 26 (drrB_val gD oD n cD i jp d P PQ 16) x w := by
 (obtain ⟨hF, hi, hn, d0, hp, hr, d1, h2, d3, h3, h4, h5, hjp, hqp, h6, hB, hdef, u0, u3⟩ := H; have ho : drr4_ops[16]? = some drr4_o16 := rfl; simp only [Array.getD_eq_getD_getElem?] at u0 u3)
 have q15 : Array.getD (Act.tmps x) 25 undef = .pointer (some ⟨gD, oD + i * 4, none⟩) := p15
 have q7 : Array.getD (Act.tmps x) 17 undef = .bool false := p7
 simp only [Array.getD_eq_getD_getElem?] at q15 q7
 (have e7 : (drr4_ops[7]?.bind fun x => x.dst) = some 17 := rfl; have g7 := get_someT q7 (fun h => by cases h))
 (refine wpOpIn_stepT hF ho (fun K hK => ?_); clear ho; rw [Oper.semAt_plain Fc _ _ (by intro c h; cases h)]; simp only [drr4_o16]; go_simp)
 exact hK _ _ ⟨_, act_putD x hdef _ _, rfl, Below.refl _ _⟩
theorem drrB_s17 (H : drrB_H Fc gD oD n cD i jp d P PQ df w0 x w) (p16 : drrB_val gD oD n cD i jp d P PQ 16 (x.tmps.getD 26 undef) w) (p7 : drrB_val gD oD n cD i jp d P PQ 7 (x.tmps.getD 17 undef) w) : Stp Fc nC Tryz.prog drr4_ops Q 17 27 (drrB_val gD oD n cD i jp d P PQ 17) x w := by
 (obtain ⟨hF, hi, hn, d0, hp, hr, d1, h2, d3, h3, h4, h5, hjp, hqp, h6, hB, hdef, u0, u3⟩ := H; have ho : drr4_ops[17]? = some drr4_o17 := rfl; simp only [Array.getD_eq_getD_getElem?] at u0 u3)
 have q16 : Array.getD (Act.tmps x) 26 undef = .pointer (some ⟨gD, oD + i * 4, none⟩) := p16
 have q7 : Array.getD (Act.tmps x) 17 undef = .bool false := p7
 simp only [Array.getD_eq_getD_getElem?] at q16 q7
 (have e7 : (drr4_ops[7]?.bind fun x => x.dst) = some 17 := rfl; have g7 := get_someT q7 (fun h => by cases h))
 have m := cell_thru d0 hB
 (refine wpOpIn_stepT hF ho (fun K hK => ?_); clear ho; rw [Oper.semAt_plain Fc _ _ (by intro c h; cases h)]; simp only [drr4_o17]; go_simp)
 exact hK _ _ ⟨_, act_putD x hdef _ _, rfl, Below.refl _ _⟩
theorem drrB_s18 (H : drrB_H Fc gD oD n cD i jp d P PQ df w0 x w) (p17 : drrB_val gD oD n cD i jp d P PQ 17 (x.tmps.getD 27 undef) w) (p7 : drrB_val gD oD n cD i jp d P PQ 7 (x.tmps.getD 17 undef) w) : Stp Fc nC Tryz.prog drr4_ops Q 18 28 (drrB_val gD oD n cD i jp d P PQ 18) x w := by
 (obtain ⟨hF, hi, hn, d0, hp, hr, d1, h2, d3, h3, h4, h5, hjp, hqp, h6, hB, hdef, u0, u3⟩ := H; have ho : drr4_ops[18]? = some drr4_o18 := rfl; simp only [Array.getD_eq_getD_getElem?] at u0 u3)
 have q17 : Array.getD (Act.tmps x) 27 undef = by8 P := p17
 have q7 : Array.getD (Act.tmps x) 17 undef = .bool false := p7
 simp only [Array.getD_eq_getD_getElem?] at q17 q7
 (have e7 : (drr4_ops[7]?.bind fun x => x.dst) = some 17 := rfl; have g7 := get_someT q7 (fun h => by cases h))
 (refine wpOpIn_stepT hF ho (fun K hK => ?_); clear ho; rw [Oper.semAt_plain Fc _ _ (by intro c h; cases h)]; simp only [drr4_o18]; go_simp)
 refine ⟨hF.deep, (hF.call (refOf_any P w hp)).mono ?_⟩
 rintro e w' ⟨rfl, hb⟩
 exact hK _ _ ⟨_, act_putD x hdef _ _, rfl, hb⟩
theorem drrB_s19 (H : drrB_H Fc gD oD n cD i jp d P PQ df w0 x w) (p12 : drrB_val gD oD n cD i jp d P PQ 12 (x.tmps.getD 22 undef) w) (p18 : drrB_val gD oD n cD i jp d P PQ 18 (x.tmps.getD 28 undef) w) (p7 : drrB_val gD oD n cD i jp d P PQ 7 (x.tmps.getD 17 undef) w) : Stp Fc nC Tryz.prog drr4_ops Q 19 29 (drrB_val gD oD n cD i jp d P PQ 19) x w := by
 (obtain ⟨hF, hi, hn, d0, hp, hr, d1, h2, d3, h3, h4, h5, hjp, hqp, h6, hB, hdef, u0, u3⟩ := H; have ho : drr4_ops[19]? = some drr4_o19 := rfl; simp only [Array.getD_eq_getD_getElem?] at u0 u3)
 have q12 : Array.getD (Act.tmps x) 22 undef = by8 d.L := p12
 have q18 : Array.getD (Act.tmps x) 28 undef = by8 (ofL P) := p18
 have q7 : Array.getD (Act.tmps x) 17 undef = .bool false := p7
 simp only [Array.getD_eq_getD_getElem?] at q12 q18 q7
 (have e7 : (drr4_ops[7]?.bind fun x => x.dst) = some 17 := rfl; have g7 := get_someT q7 (fun h => by cases h))
 have m := h2
 unfold by8 at q12 q18
 (refine wpOpIn_stepT hF ho (fun K hK => ?_); clear ho; rw [Oper.semAt_plain Fc _ _ (by intro c h; cases h)]; simp only [drr4_o19]; go_simp)
 exact hK _ _ ⟨_, act_putD x hdef _ _, rfl, Below.refl _ _⟩
theorem drrB_s20 (H : drrB_H Fc gD oD n cD i jp d P PQ df w0 x w) (p7 : drrB_val gD oD n cD i jp d P PQ 7 (x.tmps.getD 17 undef) w) (p19 : drrB_val gD oD n cD i jp d P PQ 19 (x.tmps.getD 29 undef) w) : Stp Fc nC Tryz.prog drr4_ops Q 20 30 (drrB_val gD oD n cD i jp d P PQ 20) x w := by
 (obtain ⟨hF, hi, hn, d0, hp, hr, d1, h2, d3, h3, h4, h5, hjp, hqp, h6, hB, hdef, u0, u3⟩ := H; have ho : drr4_ops[20]? = some drr4_o20 := rfl; simp only [Array.getD_eq_getD_getElem?] at u0 u3)
 have q7 : Array.getD (Act.tmps x) 17 undef = .bool false := p7
 have q19 : Array.getD (Act.tmps x) 29 undef = .bool false := p19
 simp only [Array.getD_eq_getD_getElem?] at q7 q19
 (refine wpOpIn_plain ho rfl (oper_inK hF.fn (fun K hK => ?_)); clear ho; rw [Oper.semAt_plain Fc _ _ (by intro c h; cases h)]; simp only [drr4_o20]; go_simp)
 exact hK _ _ ⟨_, act_putD x hdef _ _, rfl, Below.refl _ _⟩
theorem drrB_s21 (H : drrB_H Fc gD oD n cD i jp d P PQ df w0 x w) (p20 : drrB_val gD oD n cD i jp d P PQ 20 (x.tmps.getD 30 undef) w) : Stp Fc nC Tryz.prog drr4_ops Q 21 31 (drrB_val gD oD n cD i jp d P PQ 21) x w := by
 (obtain ⟨hF, hi, hn, d0, hp, hr, d1, h2, d3, h3, h4, h5, hjp, hqp, h6, hB, hdef, u0, u3⟩ := H; have ho : drr4_ops[21]? = some drr4_o21 := rfl; simp only [Array.getD_eq_getD_getElem?] at u0 u3)
 have q20 : Array.getD (Act.tmps x) 30 undef = .bool false := p20
 simp only [Array.getD_eq_getD_getElem?] at q20
 (refine wpOpIn_plain ho rfl (oper_inK hF.fn (fun K hK => ?_)); clear ho; rw [Oper.semAt_plain Fc _ _ (by intro c h; cases h)]; simp only [drr4_o21]; go_simp)
 exact hK _ _ ⟨_, act_putD x hdef _ _, rfl, Below.refl _ _⟩
theorem drrB_s22 (H : drrB_H Fc gD oD n cD i jp d P PQ df w0 x w) (p21 : drrB_val gD oD n cD i jp d P PQ 21 (x.tmps.getD 31 undef) w) : Stp Fc nC Tryz.prog drr4_ops Q 22 32 (drrB_val gD oD n cD i jp d P PQ 22) x w := by
 (obtain ⟨hF, hi, hn, d0, hp, hr, d1, h2, d3, h3, h4, h5, hjp, hqp, h6, hB, hdef, u0, u3⟩ := H; have ho : drr4_ops[22]? = some drr4_o22 := rfl; simp only [Array.getD_eq_getD_getElem?] at u0 u3)
 have q21 : Array.getD (Act.tmps x) 31 undef = .bool false := p21
 simp only [Array.getD_eq_getD_getElem?] at q21
 (have e21 : (drr4_ops[21]?.bind fun x => x.dst) = some 31 := rfl; have g21 := get_someT q21 (fun h => by cases h))
 (refine wpOpIn_stepT hF ho (fun K hK => ?_); clear ho; rw [Oper.semAt_plain Fc _ _ (by intro c h; cases h)]; simp only [drr4_o22]; go_simp)
 exact hK _ _ ⟨_, act_putD x hdef _ _, rfl, Below.refl _ _⟩
theorem drrB_s23 (H : drrB_H Fc gD oD n cD i jp d P PQ df w0 x w) (p21 : drrB_val gD oD n cD i jp d P PQ 21 (x.tmps.getD 31 undef) w) : Stp Fc nC Tryz.prog drr4_ops Q 23 33 (drrB_val gD oD n cD i jp d P PQ 23) x w := by
 (obtain ⟨hF, hi, hn, d0, hp, hr, d1, h2, d3, h3, h4, h5, hjp, hqp, h6, hB, hdef, u0, u3⟩ := H; have ho : drr4_ops[23]? = some drr4_o23 := rfl; simp only [Array.getD_eq_getD_getElem?] at u0 u3)
 have q21 : Array.getD (Act.tmps x) 31 undef = .bool false := p21
 simp only [Array.getD_eq_getD_getElem?] at q21
 (have e21 : (drr4_ops[21]?.bind fun x => x.dst) = some 31 := rfl; have g21 := get_someT q21 (fun h => by cases h))
 (refine wpOpIn_stepT hF ho (fun K hK => ?_); clear ho; rw [Oper.semAt_plain Fc _ _ (by intro c h; cases h)]; simp only [drr4_o23]; go_simp)
 exact hK _ _ ⟨_, act_putD x hdef _ _, rfl, Below.refl _ _⟩
theorem drrB_s24 (H : drrB_H Fc gD oD n cD i jp d P PQ df w0 x w) (p22 : drrB_val gD oD n cD i jp d P PQ 22 (x.tmps.getD 32 undef) w) (p23 : drrB_val gD oD n cD i jp d P PQ 23 (x.tmps.getD 33 undef) w) (p21 : drrB_val gD oD n cD i jp d P PQ 21 (x.tmps.getD 31 undef) w) : Stp Fc nC Tryz.prog drr4_ops Q 24 34 (drrB_val gD oD n cD i jp d P PQ 24) x w := by
 (obtain ⟨hF, hi, hn, d0, hp, hr, d1, h2, d3, h3, h4, h5, hjp, hqp, h6, hB, hdef, u0, u3⟩ := H; have ho : drr4_ops[24]? = some drr4_o24 := rfl; simp only [Array.getD_eq_getD_getElem?] at u0 u3)
 have q22 : Array.getD (Act.tmps x) 32 undef = .slice (some ⟨gD, oD, none⟩) n cD := p22
 have q23 : Array.getD (Act.tmps x) 33 undef = .int .i64 (i : Nat) := p23
 have q21 : Array.getD (Act.tmps x) 31 undef = .bool false := p21
 simp only [Array.getD_eq_getD_getElem?] at q22 q23 q21
 (have e21 : (drr4_ops[21]?.bind fun x => x.dst) = some 31 := rfl; have g21 := get_someT q21 (fun h => by cases h))
 have i0 : (0 : Int) ≤ (i : Int) := by omega
 have i1 : (i : Int) < (n : Int) := by omega
 (refine wpOpIn_stepT hF ho (fun K hK => ?_); clear ho; rw [Oper.semAt_plain Fc _ _ (by intro c h; cases h)]; simp only [drr4_o24]; go_simp)
 exact hK _ _ ⟨_, act_putD x hdef _ _, rfl, Below.refl _ _⟩
theorem drrB_s25 (H : drrB_H Fc gD oD n cD i jp d P PQ df w0 x w) (p24 : drrB_val gD oD n cD i jp d P PQ 24 (x.tmps.getD 34 undef) w) (p21 : drrB_val gD oD n cD i jp d P PQ 21 (x.tmps.getD 31 undef) w) : Stp Fc nC Tryz.prog drr4_ops Q 25 35 (drrB_val gD oD n cD i jp d P PQ 25) x w := by
 (obtain ⟨hF, hi, hn, d0, hp, hr, d1, h2, d3, h3, h4, h5, hjp, hqp, h6, hB, hdef, u0, u3⟩ := H; have ho : drr4_ops[25]? = some drr4_o25 := rfl; simp only [Array.getD_eq_getD_getElem?] at u0 u3)
 have q24 : Array.getD (Act.tmps x) 34 undef = .pointer (some ⟨gD, oD + i * 4, none⟩) := p24
 have q21 : Array.getD (Act.tmps x) 31 undef = .bool false := p21
 simp only [Array.getD_eq_getD_getElem?] at q24 q21
 (have e21 : (drr4_ops[21]?.bind fun x => x.dst) = some 31 := rfl; have g21 := get_someT q21 (fun h => by cases h))
 (refine wpOpIn_stepT hF ho (fun K hK => ?_); clear ho; rw [Oper.semAt_plain Fc _ _ (by intro c h; cases h)]; simp only [drr4_o25]; go_simp)
 exact hK _ _ ⟨_, act_putD x hdef _ _, rfl, Below.refl _ _⟩
theorem drrB_s26 (H : drrB_H Fc gD oD n cD i jp d P PQ df w0 x w) (p25 : drrB_val gD oD n cD i jp d P PQ 25 (x.tmps.getD 35 undef) w) (p21 : drrB_val gD oD n cD i jp d P PQ 21 (x.tmps.getD 31 undef) w) : Stp Fc nC Tryz.prog drr4_ops Q 26 36 (drrB_val gD oD n cD i jp d P PQ 26) x w := by
 (obtain ⟨hF, hi, hn, d0, hp, hr, d1, h2, d3, h3, h4, h5, hjp, hqp, h6, hB, hdef, u0, u3⟩ := H; have ho : drr4_ops[26]? = some drr4_o26 := rfl; simp only [Array.getD_eq_getD_getElem?] at u0 u3)
 have q25 : Array.getD (Act.tmps x) 35 undef = .pointer (some ⟨gD, oD + i * 4 + 3, none⟩) := p25
 have q21 : Array.getD (Act.tmps x) 31 undef = .bool false := p21
 simp only [Array.getD_eq_getD_getElem?] at q25 q21
 (have e21 : (drr4_ops[21]?.bind fun x => x.dst) = some 31 := rfl; have g21 := get_someT q21 (fun h => by cases h))
 have m := cell_thru d3 hB
 (refine wpOpIn_stepT hF ho (fun K hK => ?_); clear ho; rw [Oper.semAt_plain Fc _ _ (by intro c h; cases h)]; simp only [drr4_o26]; go_simp)
 exact hK _ _ ⟨_, act_putD x hdef _ _, rfl, Below.refl _ _⟩
theorem drrB_s27 (H : drrB_H Fc gD oD n cD i jp d P PQ df w0 x w) (p26 : drrB_val gD oD n cD i jp d P PQ 26 (x.tmps.getD 36 undef) w) (p21 : drrB_val gD oD n cD i jp d P PQ 21 (x.tmps.getD 31 undef) w) : Stp Fc nC Tryz.prog drr4_ops Q 27 37 (drrB_val gD oD n cD i jp d P PQ 27) x w := by
 (obtain ⟨hF, hi, hn, d0, hp, hr, d1, h2, d3, h3, h4, h5, hjp, hqp, h6, hB, hdef, u0, u3⟩ := H; have ho : drr4_ops[27]? = some drr4_o27 := rfl; simp only [Array.getD_eq_getD_getElem?] at u0 u3)
 have q26 : Array.getD (Act.tmps x) 36 undef = .int .i64 d.Z := p26
 have q21 : Array.getD (Act.tmps x) 31 undef = .bool false := p21
 simp only [Array.getD_eq_getD_getElem?] at q26 q21
 (have e21 : (drr4_ops[21]?.bind fun x => x.dst) = some 31 := rfl; have g21 := get_someT q21 (fun h => by cases h))
 have m := h3
 (refine wpOpIn_stepT hF ho (fun K hK => ?_); clear ho; rw [Oper.semAt_plain Fc _ _ (by intro c h; cases h)]; simp only [drr4_o27]; go_simp)
 exact hK _ _ ⟨_, act_putD x hdef _ _, rfl, Below.refl _ _⟩
theorem drrB_s28 (H : drrB_H Fc gD oD n cD i jp d P PQ df w0 x w) (p21 : drrB_val gD oD n cD i jp d P PQ 21 (x.tmps.getD 31 undef) w) (p27 : drrB_val gD oD n cD i jp d P PQ 27 (x.tmps.getD 37 undef) w) : Stp Fc nC Tryz.prog drr4_ops Q 28 38 (drrB_val gD oD n cD i jp d P PQ 28) x w := by
 (obtain ⟨hF, hi, hn, d0, hp, hr, d1, h2, d3, h3, h4, h5, hjp, hqp, h6, hB, hdef, u0, u3⟩ := H; have ho : drr4_ops[28]? = some drr4_o28 := rfl; simp only [Array.getD_eq_getD_getElem?] at u0 u3)
 have q21 : Array.getD (Act.tmps x) 31 undef = .bool false := p21
 have q27 : Array.getD (Act.tmps x) 37 undef = .bool false := p27
 simp only [Array.getD_eq_getD_getElem?] at q21 q27
 (refine wpOpIn_plain ho rfl (oper_inK hF.fn (fun K hK => ?_)); clear ho; rw [Oper.semAt_plain Fc _ _ (by intro c h; cases h)]; simp only [drr4_o28]; go_simp)
 exact hK _ _ ⟨_, act_putD x hdef _ _, rfl, Below.refl _ _⟩
theorem drrB_s29 (H : drrB_H Fc gD oD n cD i jp d P PQ df w0 x w) (p28 : drrB_val gD oD n cD i jp d P PQ 28 (x.tmps.getD 38 undef) w) : Stp Fc nC Tryz.prog drr4_ops Q 29 39 (drrB_val gD oD n cD i jp d P PQ 29) x w := by
 (obtain ⟨hF, hi, hn, d0, hp, hr, d1, h2, d3, h3, h4, h5, hjp, hqp, h6, hB, hdef, u0, u3⟩ := H; have ho : drr4_ops[29]? = some drr4_o29 := rfl; simp only [Array.getD_eq_getD_getElem?] at u0 u3)
 have q28 : Array.getD (Act.tmps x) 38 undef = .bool false := p28
 simp only [Array.getD_eq_getD_getElem?] at q28
 (refine wpOpIn_plain ho rfl (oper_inK hF.fn (fun K hK => ?_)); clear ho; rw [Oper.semAt_plain Fc _ _ (by intro c h; cases h)]; simp only [drr4_o29]; go_simp)
 exact hK _ _ ⟨_, act_putD x hdef _ _, rfl, Below.refl _ _⟩
theorem drrB_s30 (H : drrB_H Fc gD oD n cD i jp d P PQ df w0 x w) (p29 : drrB_val gD oD n cD i jp d P PQ 29 (x.tmps.getD 39 undef) w) : Stp Fc nC Tryz.prog drr4_ops Q 30 40 (drrB_val gD oD n cD i jp d P PQ 30) x w := by
 (obtain ⟨hF, hi, hn, d0, hp, hr, d1, h2, d3, h3, h4, h5, hjp, hqp, h6, hB, hdef, u0, u3⟩ := H; have ho : drr4_ops[30]? = some drr4_o30 := rfl; simp only [Array.getD_eq_getD_getElem?] at u0 u3)
 have q29 : Array.getD (Act.tmps x) 39 undef = .bool false := p29
 simp only [Array.getD_eq_getD_getElem?] at q29
 (have e29 : (drr4_ops[29]?.bind fun x => x.dst) = some 39 := rfl; have g29 := get_someT q29 (fun h => by cases h))
 (refine wpOpIn_stepT hF ho (fun K hK => ?_); clear ho; rw [Oper.semAt_plain Fc _ _ (by intro c h; cases h)]; simp only [drr4_o30]; go_simp)
 exact hK _ _ ⟨_, act_putD x hdef _ _, rfl, Below.refl _ _⟩
theorem drrB_s31 (H : drrB_H Fc gD oD n cD i jp d P PQ df w0 x w) (p29 : drrB_val gD oD n cD i jp d P PQ 29 (x.tmps.getD 39 undef) w) : Stp Fc nC Tryz.prog drr4_ops Q 31 41 (drrB_val gD oD n cD i jp d P PQ 31) x w := by
 (obtain ⟨hF, hi, hn, d0, hp, hr, d1, h2, d3, h3, h4, h5, hjp, hqp, h6, hB, hdef, u0, u3⟩ := H; have ho : drr4_ops[31]? = some drr4_o31 := rfl; simp only [Array.getD_eq_getD_getElem?] at u0 u3)
 have q29 : Array.getD (Act.tmps x) 39 undef = .bool false := p29
 simp only [Array.getD_eq_getD_getElem?] at q29
 (have e29 : (drr4_ops[29]?.bind fun x => x.dst) = some 39 := rfl; have g29 := get_someT q29 (fun h => by cases h))
 (refine wpOpIn_stepT hF ho (fun K hK => ?_); clear ho; rw [Oper.semAt_plain Fc _ _ (by intro c h; cases h)]; simp only [drr4_o31]; go_simp)
 exact hK _ _ ⟨_, act_putD x hdef _ _, rfl, Below.refl _ _⟩
theorem drrB_s32 (H : drrB_H Fc gD oD n cD i jp d P PQ df w0 x w) (p30 : drrB_val gD oD n cD i jp d P PQ 30 (x.tmps.getD 40 undef) w) (p31 : drrB_val gD oD n cD i jp d P PQ 31 (x.tmps.getD 41 undef) w) (p29 : drrB_val gD oD n cD i jp d P PQ 29 (x.tmps.getD 39 undef) w) : Stp Fc nC Tryz.prog drr4_ops Q 32 42 (drrB_val gD oD n cD i jp d P PQ 32) x w := by
 (obtain ⟨hF, hi, hn, d0, hp, hr, d1, h2, d3, h3, h4, h5, hjp, hqp, h6, hB, hdef, u0, u3⟩ := H; have ho : drr4_ops[32]? = some drr4_o32 := rfl; simp only [Array.getD_eq_getD_getElem?] at u0 u3)
 have q30 : Array.getD (Act.tmps x) 40 undef = .slice (some ⟨gD, oD, none⟩) n cD := p30
 have q31 : Array.getD (Act.tmps x) 41 undef = .int .i64 (i : Nat) := p31
 have q29 : Array.getD (Act.tmps x) 39 undef = .bool false := p29
 simp only [Array.getD_eq_getD_getElem?] at q30 q31 q29
 (have e29 : (drr4_ops[29]?.bind fun x => x.dst) = some 39 := rfl; have g29 := get_someT q29 (fun h => by cases h))
 have i0 : (0 : Int) ≤ (i : Int) := by omega
 have i1 : (i : Int) < (n : Int) := by omega
 (refine wpOpIn_stepT hF ho (fun K hK => ?_); clear ho; rw [Oper.semAt_plain Fc _ _ (by intro c h; cases h)]; simp only [drr4_o32]; go_simp)
 exact hK _ _ ⟨_, act_putD x hdef _ _, rfl, Below.refl _ _⟩
theorem drrB_s33 (H : drrB_H Fc gD oD n cD i jp d P PQ df w0 x w) (p32 : drrB_val gD oD n cD i jp d P PQ 32 (x.tmps.getD 42 undef) w) (p29 : drrB_val gD oD n cD i jp d P PQ 29 (x.tmps.getD 39 undef) w) : Stp Fc nC Tryz.prog drr4_ops Q 33 43 (drrB_val gD oD n cD i jp d P PQ 33) x w := by
 (obtain ⟨hF, hi, hn, d0, hp, hr, d1, h2, d3, h3, h4, h5, hjp, hqp, h6, hB, hdef, u0, u3⟩ := H; have ho : drr4_ops[33]? = some drr4_o33 := rfl; simp only [Array.getD_eq_getD_getElem?] at u0 u3)
 have q32 : Array.getD (Act.tmps x) 42 undef = .pointer (some ⟨gD, oD + i * 4, none⟩) := p32
 have q29 : Array.getD (Act.tmps x) 39 undef = .bool false := p29
 simp only [Array.getD_eq_getD_getElem?] at q32 q29
 (have e29 : (drr4_ops[29]?.bind fun x => x.dst) = some 39 := rfl; have g29 := get_someT q29 (fun h => by cases h))
 (refine wpOpIn_stepT hF ho (fun K hK => ?_); clear ho; rw [Oper.semAt_plain Fc _ _ (by intro c h; cases h)]; simp only [drr4_o33]; go_simp)
 exact hK _ _ ⟨_, act_putD x hdef _ _, rfl, Below.refl _ _⟩
theorem drrB_s34 (H : drrB_H Fc gD oD n cD i jp d P PQ df w0 x w) (p33 : drrB_val gD oD n cD i jp d P PQ 33 (x.tmps.getD 43 undef) w) (p29 : drrB_val gD oD n cD i jp d P PQ 29 (x.tmps.getD 39 undef) w) : Stp Fc nC Tryz.prog drr4_ops Q 34 44 (drrB_val gD oD n cD i jp d P PQ 34) x w := by
 (obtain ⟨hF, hi, hn, d0, hp, hr, d1, h2, d3, h3, h4, h5, hjp, hqp, h6, hB, hdef, u0, u3⟩ := H; have ho : drr4_ops[34]? = some drr4_o34 := rfl; simp only [Array.getD_eq_getD_getElem?] at u0 u3)
 have q33 : Array.getD (Act.tmps x) 43 undef = .pointer (some ⟨gD, oD + i * 4 + 3, none⟩) := p33
 have q29 : Array.getD (Act.tmps x) 39 undef = .bool false := p29
 simp only [Array.getD_eq_getD_getElem?] at q33 q29
 (have e29 : (drr4_ops[29]?.bind fun x => x.dst) = some 39 := rfl; have g29 := get_someT q29 (fun h => by cases h))
 have m := cell_thru d3 hB
 (refine wpOpIn_stepT hF ho (fun K hK => ?_); clear ho; rw [Oper.semAt_plain Fc _ _ (by intro c h; cases h)]; simp only [drr4_o34]; go_simp)
 exact hK _ _ ⟨_, act_putD x hdef _ _, rfl, Below.refl _ _⟩
theorem drrB_s35 (H : drrB_H Fc gD oD n cD i jp d P PQ df w0 x w) (p34 : drrB_val gD oD n cD i jp d P PQ 34 (x.tmps.getD 44 undef) w) (p29 : drrB_val gD oD n cD i jp d P PQ 29 (x.tmps.getD 39 undef) w) : Stp Fc nC Tryz.prog drr4_ops Q 35 45 (drrB_val gD oD n cD i jp d P PQ 35) x w := by
 (obtain ⟨hF, hi, hn, d0, hp, hr, d1, h2, d3, h3, h4, h5, hjp, hqp, h6, hB, hdef, u0, u3⟩ := H; have ho : drr4_ops[35]? = some drr4_o35 := rfl; simp only [Array.getD_eq_getD_getElem?] at u0 u3)
 have q34 : Array.getD (Act.tmps x) 44 undef = .int .i64 d.Z := p34
 have q29 : Array.getD (Act.tmps x) 39 undef = .bool false := p29
 simp only [Array.getD_eq_getD_getElem?] at q34 q29
 (have e29 : (drr4_ops[29]?.bind fun x => x.dst) = some 39 := rfl; have g29 := get_someT q29 (fun h => by cases h))
 have m := h4
 (refine wpOpIn_stepT hF ho (fun K hK => ?_); clear ho; rw [Oper.semAt_plain Fc _ _ (by intro c h; cases h)]; simp only [drr4_o35]; go_simp)
 exact hK _ _ ⟨_, act_putD x hdef _ _, rfl, Below.refl _ _⟩
theorem drrB_s36 (H : drrB_H Fc gD oD n cD i jp d P PQ df w0 x w) (p29 : drrB_val gD oD n cD i jp d P PQ 29 (x.tmps.getD 39 undef) w) (p35 : drrB_val gD oD n cD i jp d P PQ 35 (x.tmps.getD 45 undef) w) : Stp Fc nC Tryz.prog drr4_ops Q 36 46 (drrB_val gD oD n cD i jp d P PQ 36) x w := by
 (obtain ⟨hF, hi, hn, d0, hp, hr, d1, h2, d3, h3, h4, h5, hjp, hqp, h6, hB, hdef, u0, u3⟩ := H; have ho : drr4_ops[36]? = some drr4_o36 := rfl; simp only [Array.getD_eq_getD_getElem?] at u0 u3)
 have q29 : Array.getD (Act.tmps x) 39 undef = .bool false := p29
 have q35 : Array.getD (Act.tmps x) 45 undef = .bool false := p35
 simp only [Array.getD_eq_getD_getElem?] at q29 q35
 (refine wpOpIn_plain ho rfl (oper_inK hF.fn (fun K hK => ?_)); clear ho; rw [Oper.semAt_plain Fc _ _ (by intro c h; cases h)]; simp only [drr4_o36]; go_simp)
 exact hK _ _ ⟨_, act_putD x hdef _ _, rfl, Below.refl _ _⟩
theorem drrB_s37 (H : drrB_H Fc gD oD n cD i jp d P PQ df w0 x w) (p36 : drrB_val gD oD n cD i jp d P PQ 36 (x.tmps.getD 46 undef) w) : Stp Fc nC Tryz.prog drr4_ops Q 37 47 (drrB_val gD oD n cD i jp d P PQ 37) x w := by
 (obtain ⟨hF, hi, hn, d0, hp, hr, d1, h2, d3, h3, h4, h5, hjp, hqp, h6, hB, hdef, u0, u3⟩ := H; have ho : drr4_ops[37]? = some drr4_o37 := rfl; simp only [Array.getD_eq_getD_getElem?] at u0 u3)
 have q36 : Array.getD (Act.tmps x) 46 undef = .bool false := p36
 simp only [Array.getD_eq_getD_getElem?] at q36
 (refine wpOpIn_plain ho rfl (oper_inK hF.fn (fun K hK => ?_)); clear ho; rw [Oper.semAt_plain Fc _ _ (by intro c h; cases h)]; simp only [drr4_o37]; go_simp)
 exact hK _ _ ⟨_, act_putD x hdef _ _, rfl, Below.refl _ _⟩
theorem drrB_s38 (H : drrB_H Fc gD oD n cD i jp d P PQ df w0 x w) (p37 : drrB_val gD oD n cD i jp d P PQ 37 (x.tmps.getD 47 undef) w) : Stp Fc nC Tryz.prog drr4_ops Q 38 48 (drrB_val gD oD n cD i jp d P PQ 38) x w := by
 (obtain ⟨hF, hi, hn, d0, hp, hr, d1, h2, d3, h3, h4, h5, hjp, hqp, h6, hB, hdef, u0, u3⟩ := H; have ho : drr4_ops[38]? = some drr4_o38 := rfl; simp only [Array.getD_eq_getD_getElem?] at u0 u3)
 have q37 : Array.getD (Act.tmps x) 47 undef = .bool false := p37
 simp only [Array.getD_eq_getD_getElem?] at q37
 (have e37 : (drr4_ops[37]?.bind fun x => x.dst) = some 47 := rfl; have g37 := get_someT q37 (fun h => by cases h))
 (refine wpOpIn_stepT hF ho (fun K hK => ?_); clear ho; rw [Oper.semAt_plain Fc _ _ (by intro c h; cases h)]; simp only [drr4_o38]; go_simp)
 exact hK _ _ ⟨_, act_putD x hdef _ _, rfl, Below.refl _ _⟩
theorem drrB_s39 (H : drrB_H Fc gD oD n cD i jp d P PQ df w0 x w) (p38 : drrB_val gD oD n cD i jp d P PQ 38 (x.tmps.getD 48 undef) w) (p37 : drrB_val gD oD n cD i jp d P PQ 37 (x.tmps.getD 47 undef) w) : Stp Fc nC Tryz.prog drr4_ops Q 39 49 (drrB_val gD oD n cD i jp d P PQ 39) x w := by
 (obtain ⟨hF, hi, hn, d0, hp, hr, d1, h2, d3, h3, h4, h5, hjp, hqp, h6, hB, hdef, u0, u3⟩ := H; have ho : drr4_ops[39]? = some drr4_o39 := rfl; simp only [Array.getD_eq_getD_getElem?] at u0 u3)
 have q38 : Array.getD (Act.tmps x) 48 undef = .int .i64 (i : Nat) := p38
 have q37 : Array.getD (Act.tmps x) 47 undef = .bool false := p37
 simp only [Array.getD_eq_getD_getElem?] at q38 q37
 (have e37 : (drr4_ops[37]?.bind fun x => x.dst) = some 47 := rfl; have g37 := get_someT q37 (fun h => by cases h))
 have m := h5
 (refine wpOpIn_stepT hF ho (fun K hK => ?_); clear ho; rw [Oper.semAt_plain Fc _ _ (by intro c h; cases h)]; simp only [drr4_o39]; go_simp)
 exact hK _ _ ⟨_, act_putD x hdef _ _, rfl, Below.refl _ _⟩
theorem drrB_s40 (H : drrB_H Fc gD oD n cD i jp d P PQ df w0 x w) (p39 : drrB_val gD oD n cD i jp d P PQ 39 (x.tmps.getD 49 undef) w) (p37 : drrB_val gD oD n cD i jp d P PQ 37 (x.tmps.getD 47 undef) w) : Stp Fc nC Tryz.prog drr4_ops Q 40 50 (drrB_val gD oD n cD i jp d P PQ 40) x w := by
 (obtain ⟨hF, hi, hn, d0, hp, hr, d1, h2, d3, h3, h4, h5, hjp, hqp, h6, hB, hdef, u0, u3⟩ := H; have ho : drr4_ops[40]? = some drr4_o40 := rfl; simp only [Array.getD_eq_getD_getElem?] at u0 u3)
 have q39 : Array.getD (Act.tmps x) 49 undef = .bool true := p39
 have q37 : Array.getD (Act.tmps x) 47 undef = .bool false := p37
 simp only [Array.getD_eq_getD_getElem?] at q39 q37
 (have e37 : (drr4_ops[37]?.bind fun x => x.dst) = some 47 := rfl; have g37 := get_someT q37 (fun h => by cases h))
 (refine wpOpIn_stepT hF ho (fun K hK => ?_); clear ho; rw [Oper.semAt_plain Fc _ _ (by intro c h; cases h)]; simp only [drr4_o40]; go_simp)
 exact hK _ _ ⟨_, act_putD x hdef _ _, rfl, Below.refl _ _⟩
theorem drrB_s41 (H : drrB_H Fc gD oD n cD i jp d P PQ df w0 x w) (p40 : drrB_val gD oD n cD i jp d P PQ 40 (x.tmps.getD 50 undef) w) : Stp Fc nC Tryz.prog drr4_ops Q 41 51 (drrB_val gD oD n cD i jp d P PQ 41) x w := by
 (obtain ⟨hF, hi, hn, d0, hp, hr, d1, h2, d3, h3, h4, h5, hjp, hqp, h6, hB, hdef, u0, u3⟩ := H; have ho : drr4_ops[41]? = some drr4_o41 := rfl; simp only [Array.getD_eq_getD_getElem?] at u0 u3)
 have q40 : Array.getD (Act.tmps x) 50 undef = .bool true := p40
 simp only [Array.getD_eq_getD_getElem?] at q40
 (have e40 : (drr4_ops[40]?.bind fun x => x.dst) = some 50 := rfl; have g40 := get_someT q40 (fun h => by cases h))
 (refine wpOpIn_stepT hF ho (fun K hK => ?_); clear ho; rw [Oper.semAt_plain Fc _ _ (by intro c h; cases h)]; simp only [drr4_o41]; go_simp)
 exact hK _ _ ⟨_, act_putD x hdef _ _, rfl, Below.refl _ _⟩
theorem drrB_s42 (H : drrB_H Fc gD oD n cD i jp d P PQ df w0 x w) (p40 : drrB_val gD oD n cD i jp d P PQ 40 (x.tmps.getD 50 undef) w) : Stp Fc nC Tryz.prog drr4_ops Q 42 52 (drrB_val gD oD n cD i jp d P PQ 42) x w := by
 (obtain ⟨hF, hi, hn, d0, hp, hr, d1, h2, d3, h3, h4, h5, hjp, hqp, h6, hB, hdef, u0, u3⟩ := H; have ho : drr4_ops[42]? = some drr4_o42 := rfl; simp only [Array.getD_eq_getD_getElem?] at u0 u3)
 have q40 : Array.getD (Act.tmps x) 50 undef = .bool true := p40
 simp only [Array.getD_eq_getD_getElem?] at q40
 (have e40 : (drr4_ops[40]?.bind fun x => x.dst) = some 50 := rfl; have g40 := get_someT q40 (fun h => by cases h))
 (refine wpOpIn_stepT hF ho (fun K hK => ?_); clear ho; rw [Oper.semAt_plain Fc _ _ (by intro c h; cases h)]; simp only [drr4_o42]; go_simp)
 exact hK _ _ ⟨_, act_putD x hdef _ _, rfl, Below.refl _ _⟩
theorem drrB_s43 (H : drrB_H Fc gD oD n cD i jp d P PQ df w0 x w) (p42 : drrB_val gD oD n cD i jp d P PQ 42 (x.tmps.getD 52 undef) w) (p40 : drrB_val gD oD n cD i jp d P PQ 40 (x.tmps.getD 50 undef) w) : Stp Fc nC Tryz.prog drr4_ops Q 43 53 (drrB_val gD oD n cD i jp d P PQ 43) x w := by
 (obtain ⟨hF, hi, hn, d0, hp, hr, d1, h2, d3, h3, h4, h5, hjp, hqp, h6, hB, hdef, u0, u3⟩ := H; have ho : drr4_ops[43]? = some drr4_o43 := rfl; simp only [Array.getD_eq_getD_getElem?] at u0 u3)
 have q42 : Array.getD (Act.tmps x) 52 undef = .int .i64 (i : Nat) := p42
 have q40 : Array.getD (Act.tmps x) 50 undef = .bool true := p40
 simp only [Array.getD_eq_getD_getElem?] at q42 q40
 (have e40 : (drr4_ops[40]?.bind fun x => x.dst) = some 50 := rfl; have g40 := get_someT q40 (fun h => by cases h))
 have e1 : (i : Int) - 1 = (jp : Int) := by have := hjp.out; omega
 have e2 := IntWalk.i64_in (jp : Int) (by have := hjp.out; omega)
 (refine wpOpIn_stepT hF ho (fun K hK => ?_); clear ho; rw [Oper.semAt_plain Fc _ _ (by intro c h; cases h)]; simp only [drr4_o43]; go_simp)
 exact hK _ _ ⟨_, act_putD x hdef _ _, rfl, Below.refl _ _⟩
theorem drrB_s44 (H : drrB_H Fc gD oD n cD i jp d P PQ df w0 x w) (p41 : drrB_val gD oD n cD i jp d P PQ 41 (x.tmps.getD 51 undef) w) (p43 : drrB_val gD oD n cD i jp d P PQ 43 (x.tmps.getD 53 undef) w) (p40 : drrB_val gD oD n cD i jp d P PQ 40 (x.tmps.getD 50 undef) w) : Stp Fc nC Tryz.prog drr4_ops Q 44 54 (drrB_val gD oD n cD i jp d P PQ 44) x w := by
 (obtain ⟨hF, hi, hn, d0, hp, hr, d1, h2, d3, h3, h4, h5, hjp, hqp, h6, hB, hdef, u0, u3⟩ := H; have ho : drr4_ops[44]? = some drr4_o44 := rfl; simp only [Array.getD_eq_getD_getElem?] at u0 u3)
 have q41 : Array.getD (Act.tmps x) 51 undef = .slice (some ⟨gD, oD, none⟩) n cD := p41
 have q43 : Array.getD (Act.tmps x) 53 undef = .int .i64 (jp : Nat) := p43
 have q40 : Array.getD (Act.tmps x) 50 undef = .bool true := p40
 simp only [Array.getD_eq_getD_getElem?] at q41 q43 q40
 (have e40 : (drr4_ops[40]?.bind fun x => x.dst) = some 50 := rfl; have g40 := get_someT q40 (fun h => by cases h))
 have j0 : (0 : Int) ≤ (jp : Int) := by omega
 have j1 : (jp : Int) < (n : Int) := by have := hjp.out; omega
 (refine wpOpIn_stepT hF ho (fun K hK => ?_); clear ho; rw [Oper.semAt_plain Fc _ _ (by intro c h; cases h)]; simp only [drr4_o44]; go_simp)
 exact hK _ _ ⟨_, act_putD x hdef _ _, rfl, Below.refl _ _⟩
theorem drrB_s45 (H : drrB_H Fc gD oD n cD i jp d P PQ df w0 x w) (p44 : drrB_val gD oD n cD i jp d P PQ 44 (x.tmps.getD 54 undef) w) (p40 : drrB_val gD oD n cD i jp d P PQ 40 (x.tmps.getD 50 undef) w) : Stp Fc nC Tryz.prog drr4_ops Q 45 55 (drrB_val gD oD n cD i jp d P PQ 45) x w := by
 (obtain ⟨hF, hi, hn, d0, hp, hr, d1, h2, d3, h3, h4, h5, hjp, hqp, h6, hB, hdef, u0, u3⟩ := H; have ho : drr4_ops[45]? = some drr4_o45 := rfl; simp only [Array.getD_eq_getD_getElem?] at u0 u3)
 have q44 : Array.getD (Act.tmps x) 54 undef = .pointer (some ⟨gD, oD + jp * 4, none⟩) := p44
 have q40 : Array.getD (Act.tmps x) 50 undef = .bool true := p40
 simp only [Array.getD_eq_getD_getElem?] at q44 q40
 (have e40 : (drr4_ops[40]?.bind fun x => x.dst) = some 50 := rfl; have g40 := get_someT q40 (fun h => by cases h))
 (refine wpOpIn_stepT hF ho (fun K hK => ?_); clear ho; rw [Oper.semAt_plain Fc _ _ (by intro c h; cases h)]; simp only [drr4_o45]; go_simp)
 exact hK _ _ ⟨_, act_putD x hdef _ _, rfl, Below.refl _ _⟩
theorem drrB_s46 (H : drrB_H Fc gD oD n cD i jp d P PQ df w0 x w) (p45 : drrB_val gD oD n cD i jp d P PQ 45 (x.tmps.getD 55 undef) w) (p40 : drrB_val gD oD n cD i jp d P PQ 40 (x.tmps.getD 50 undef) w) : Stp Fc nC Tryz.prog drr4_ops Q 46 56 (drrB_val gD oD n cD i jp d P PQ 46) x w := by
 (obtain ⟨hF, hi, hn, d0, hp, hr, d1, h2, d3, h3, h4, h5, hjp, hqp, h6, hB, hdef, u0, u3⟩ := H; have ho : drr4_ops[46]? = some drr4_o46 := rfl; simp only [Array.getD_eq_getD_getElem?] at u0 u3)
 have q45 : Array.getD (Act.tmps x) 55 undef = .pointer (some ⟨gD, oD + jp * 4, none⟩) := p45
 have q40 : Array.getD (Act.tmps x) 50 undef = .bool true := p40
 simp only [Array.getD_eq_getD_getElem?] at q45 q40
 (have e40 : (drr4_ops[40]?.bind fun x => x.dst) = some 50 := rfl; have g40 := get_someT q40 (fun h => by cases h))
 have m := cell_thru hqp hB
 (refine wpOpIn_stepT hF ho (fun K hK => ?_); clear ho; rw [Oper.semAt_plain Fc _ _ (by intro c h; cases h)]; simp only [drr4_o46]; go_simp)
 exact hK _ _ ⟨_, act_putD x hdef _ _, rfl, Below.refl _ _⟩
theorem drrB_s47 (H : drrB_H Fc gD oD n cD i jp d P PQ df w0 x w) (p40 : drrB_val gD oD n cD i jp d P PQ 40 (x.tmps.getD 50 undef) w) : Stp Fc nC Tryz.prog drr4_ops Q 47 57 (drrB_val gD oD n cD i jp d P PQ 47) x w := by
 (obtain ⟨hF, hi, hn, d0, hp, hr, d1, h2, d3, h3, h4, h5, hjp, hqp, h6, hB, hdef, u0, u3⟩ := H; have ho : drr4_ops[47]? = some drr4_o47 := rfl; simp only [Array.getD_eq_getD_getElem?] at u0 u3)
 have q40 : Array.getD (Act.tmps x) 50 undef = .bool true := p40
 simp only [Array.getD_eq_getD_getElem?] at q40
 (have e40 : (drr4_ops[40]?.bind fun x => x.dst) = some 50 := rfl; have g40 := get_someT q40 (fun h => by cases h))
 (refine wpOpIn_stepT hF ho (fun K hK => ?_); clear ho; rw [Oper.semAt_plain Fc _ _ (by intro c h; cases h)]; simp only [drr4_o47]; go_simp)
 exact hK _ _ ⟨_, act_putD x hdef _ _, rfl, Below.refl _ _⟩
theorem drrB_s48 (H : drrB_H Fc gD oD n cD i jp d P PQ df w0 x w) (p40 : drrB_val gD oD n cD i jp d P PQ 40 (x.tmps.getD 50 undef) w) : Stp Fc nC Tryz.prog drr4_ops Q 48 58 (drrB_val gD oD n cD i jp d P PQ 48) x w := by
 (obtain ⟨hF, hi, hn, d0, hp, hr, d1, h2, d3, h3, h4, h5, hjp, hqp, h6, hB, hdef, u0, u3⟩ := H; have ho : drr4_ops[48]? = some drr4_o48 := rfl; simp only [Array.getD_eq_getD_getElem?] at u0 u3)
 have q40 : Array.getD (Act.tmps x) 50 undef = .bool true := p40
 simp only [Array.getD_eq_getD_getElem?] at q40
 (have e40 : (drr4_ops[40]?.bind fun x => x.dst) = some 50 := rfl; have g40 := get_someT q40 (fun h => by cases h))
 (refine wpOpIn_stepT hF ho (fun K hK => ?_); clear ho; rw [Oper.semAt_plain Fc _ _ (by intro c h; cases h)]; simp only [drr4_o48]; go_simp)
 exact hK _ _ ⟨_, act_putD x hdef _ _, rfl, Below.refl _ _⟩
theorem drrB_s49 (H : drrB_H Fc gD oD n cD i jp d P PQ df w0 x w) (p47 : drrB_val gD oD n cD i jp d P PQ 47 (x.tmps.getD 57 undef) w) (p48 : drrB_val gD oD n cD i jp d P PQ 48 (x.tmps.getD 58 undef) w) (p40 : drrB_val gD oD n cD i jp d P PQ 40 (x.tmps.getD 50 undef) w) : Stp Fc nC Tryz.prog drr4_ops Q 49 59 (drrB_val gD oD n cD i jp d P PQ 49) x w := by
 (obtain ⟨hF, hi, hn, d0, hp, hr, d1, h2, d3, h3, h4, h5, hjp, hqp, h6, hB, hdef, u0, u3⟩ := H; have ho : drr4_ops[49]? = some drr4_o49 := rfl; simp only [Array.getD_eq_getD_getElem?] at u0 u3)
 have q47 : Array.getD (Act.tmps x) 57 undef = .slice (some ⟨gD, oD, none⟩) n cD := p47
 have q48 : Array.getD (Act.tmps x) 58 undef = .int .i64 (i : Nat) := p48
 have q40 : Array.getD (Act.tmps x) 50 undef = .bool true := p40
 simp only [Array.getD_eq_getD_getElem?] at q47 q48 q40
 (have e40 : (drr4_ops[40]?.bind fun x => x.dst) = some 50 := rfl; have g40 := get_someT q40 (fun h => by cases h))
 have i0 : (0 : Int) ≤ (i : Int) := by omega
 have i1 : (i : Int) < (n : Int) := by omega
 (refine wpOpIn_stepT hF ho (fun K hK => ?_); clear ho; rw [Oper.semAt_plain Fc _ _ (by intro c h; cases h)]; simp only [drr4_o49]; go_simp)
 exact hK _ _ ⟨_, act_putD x hdef _ _, rfl, Below.refl _ _⟩
theorem drrB_s50 (H : drrB_H Fc gD oD n cD i jp d P PQ df w0 x w) (p49 : drrB_val gD oD n cD i jp d P PQ 49 (x.tmps.getD 59 undef) w) (p40 : drrB_val gD oD n cD i jp d P PQ 40 (x.tmps.getD 50 undef) w) : Stp Fc nC Tryz.prog drr4_ops Q 50 60 (drrB_val gD oD n cD i jp d P PQ 50) x w := by
 (obtain ⟨hF, hi, hn, d0, hp, hr, d1, h2, d3, h3, h4, h5, hjp, hqp, h6, hB, hdef, u0, u3⟩ := H; have ho : drr4_ops[50]? = some drr4_o50 := rfl; simp only [Array.getD_eq_getD_getElem?] at u0 u3)
 have q49 : Array.getD (Act.tmps x) 59 undef = .pointer (some ⟨gD, oD + i * 4, none⟩) := p49
 have q40 : Array.getD (Act.tmps x) 50 undef = .bool true := p40
 simp only [Array.getD_eq_getD_getElem?] at q49 q40
 (have e40 : (drr4_ops[40]?.bind fun x => x.dst) = some 50 := rfl; have g40 := get_someT q40 (fun h => by cases h))
 (refine wpOpIn_stepT hF ho (fun K hK => ?_); clear ho; rw [Oper.semAt_plain Fc _ _ (by intro c h; cases h)]; simp only [drr4_o50]; go_simp)
 exact hK _ _ ⟨_, act_putD x hdef _ _, rfl, Below.refl _ _⟩
theorem drrB_s51 (H : drrB_H Fc gD oD n cD i jp d P PQ df w0 x w) (p50 : drrB_val gD oD n cD i jp d P PQ 50 (x.tmps.getD 60 undef) w) (p40 : drrB_val gD oD n cD i jp d P PQ 40 (x.tmps.getD 50 undef) w) : Stp Fc nC Tryz.prog drr4_ops Q 51 61 (drrB_val gD oD n cD i jp d P PQ 51) x w := by
 (obtain ⟨hF, hi, hn, d0, hp, hr, d1, h2, d3, h3, h4, h5, hjp, hqp, h6, hB, hdef, u0, u3⟩ := H; have ho : drr4_ops[51]? = some drr4_o51 := rfl; simp only [Array.getD_eq_getD_getElem?] at u0 u3)
 have q50 : Array.getD (Act.tmps x) 60 undef = .pointer (some ⟨gD, oD + i * 4, none⟩) := p50
 have q40 : Array.getD (Act.tmps x) 50 undef = .bool true := p40
 simp only [Array.getD_eq_getD_getElem?] at q50 q40
 (have e40 : (drr4_ops[40]?.bind fun x => x.dst) = some 50 := rfl; have g40 := get_someT q40 (fun h => by cases h))
 have m := cell_thru d0 hB
 (refine wpOpIn_stepT hF ho (fun K hK => ?_); clear ho; rw [Oper.semAt_plain Fc _ _ (by intro c h; cases h)]; simp only [drr4_o51]; go_simp)
 exact hK _ _ ⟨_, act_putD x hdef _ _, rfl, Below.refl _ _⟩
theorem drrB_s52 (H : drrB_H Fc gD oD n cD i jp d P PQ df w0 x w) (p46 : drrB_val gD oD n cD i jp d P PQ 46 (x.tmps.getD 56 undef) w) (p51 : drrB_val gD oD n cD i jp d P PQ 51 (x.tmps.getD 61 undef) w) (p40 : drrB_val gD oD n cD i jp d P PQ 40 (x.tmps.getD 50 undef) w) : Stp Fc nC Tryz.prog drr4_ops Q 52 62 (drrB_val gD oD n cD i jp d P PQ 52) x w := by
 (obtain ⟨hF, hi, hn, d0, hp, hr, d1, h2, d3, h3, h4, h5, hjp, hqp, h6, hB, hdef, u0, u3⟩ := H; have ho : drr4_ops[52]? = some drr4_o52 := rfl; simp only [Array.getD_eq_getD_getElem?] at u0 u3)
 have q46 : Array.getD (Act.tmps x) 56 undef = by8 PQ := p46
 have q51 : Array.getD (Act.tmps x) 61 undef = by8 P := p51
 have q40 : Array.getD (Act.tmps x) 50 undef = .bool true := p40
 simp only [Array.getD_eq_getD_getElem?] at q46 q51 q40
 (have e40 : (drr4_ops[40]?.bind fun x => x.dst) = some 50 := rfl; have g40 := get_someT q40 (fun h => by cases h))
 have m := h6
 unfold by8 at q46 q51
 (refine wpOpIn_stepT hF ho (fun K hK => ?_); clear ho; rw [Oper.semAt_plain Fc _ _ (by intro c h; cases h)]; simp only [drr4_o52]; go_simp)
 exact hK _ _ ⟨_, act_putD x hdef _ _, rfl, Below.refl _ _⟩
theorem drrB_s53 (H : drrB_H Fc gD oD n cD i jp d P PQ df w0 x w) (p40 : drrB_val gD oD n cD i jp d P PQ 40 (x.tmps.getD 50 undef) w) (p52 : drrB_val gD oD n cD i jp d P PQ 52 (x.tmps.getD 62 undef) w) (p37 : drrB_val gD oD n cD i jp d P PQ 37 (x.tmps.getD 47 undef) w) : Stp Fc nC Tryz.prog drr4_ops Q 53 63 (drrB_val gD oD n cD i jp d P PQ 53) x w := by
 (obtain ⟨hF, hi, hn, d0, hp, hr, d1, h2, d3, h3, h4, h5, hjp, hqp, h6, hB, hdef, u0, u3⟩ := H; have ho : drr4_ops[53]? = some drr4_o53 := rfl; simp only [Array.getD_eq_getD_getElem?] at u0 u3)
 have q40 : Array.getD (Act.tmps x) 50 undef = .bool true := p40
 have q52 : Array.getD (Act.tmps x) 62 undef = .bool false := p52
 have q37 : Array.getD (Act.tmps x) 47 undef = .bool false := p37
 simp only [Array.getD_eq_getD_getElem?] at q40 q52 q37
 (have e37 : (drr4_ops[37]?.bind fun x => x.dst) = some 47 := rfl; have g37 := get_someT q37 (fun h => by cases h))
 (refine wpOpIn_stepT hF ho (fun K hK => ?_); clear ho; rw [Oper.semAt_plain Fc _ _ (by intro c h; cases h)]; simp only [drr4_o53]; go_simp)
 exact hK _ _ ⟨_, act_putD x hdef _ _, rfl, Below.refl _ _⟩
theorem drrB_s54 (H : drrB_H Fc gD oD n cD i jp d P PQ df w0 x w) (p37 : drrB_val gD oD n cD i jp d P PQ 37 (x.tmps.getD 47 undef) w) (p53 : drrB_val gD oD n cD i jp d P PQ 53 (x.tmps.getD 63 undef) w) : Stp Fc nC Tryz.prog drr4_ops Q 54 64 (drrB_val gD oD n cD i jp d P PQ 54) x w := by
 (obtain ⟨hF, hi, hn, d0, hp, hr, d1, h2, d3, h3, h4, h5, hjp, hqp, h6, hB, hdef, u0, u3⟩ := H; have ho : drr4_ops[54]? = some drr4_o54 := rfl; simp only [Array.getD_eq_getD_getElem?] at u0 u3)
 have q37 : Array.getD (Act.tmps x) 47 undef = .bool false := p37
 have q53 : Array.getD (Act.tmps x) 63 undef = .bool false := p53
 simp only [Array.getD_eq_getD_getElem?] at q37 q53
 (refine wpOpIn_plain ho rfl (oper_inK hF.fn (fun K hK => ?_)); clear ho; rw [Oper.semAt_plain Fc _ _ (by intro c h; cases h)]; simp only [drr4_o54]; go_simp)
 exact hK _ _ ⟨_, act_putD x hdef _ _, rfl, Below.refl _ _⟩
end
section
theorem drrB {Fc : Fence} (hF : Wide Fc) {nC : Nat} (gD oD n cD i jp : Nat) (d : DT) (P PQ : List UInt8) (Q : Exit → Act → World → Prop) (t0 : Array Value) (df : List Deferred) (w0 : World) (ht : t0.size = 68)
  (hs0 : t0.getD 0 undef = .slice (some ⟨gD, oD, none⟩) n cD) (hs3 : t0.getD 3 undef = .int .i64 (i : Nat))
  (hi : i < n) (hn : n ≤ 140737488351232) (d0 : w0.cell? ⟨gD, oD + i * 4, none⟩ = some (by8 P)) (hp : P.length ≤ 1000000) (hr : rightP P = true) (d1 : w0.cell? ⟨gD, oD + i * 4 + 1, none⟩ = some (by8 d.L)) (h2 : (!(d.L == ofL P)) = false) (d3 : w0.cell? ⟨gD, oD + i * 4 + 3, none⟩ = some (.int .i64 d.Z)) (h3 : decide (d.Z < 0) = false) (h4 : decide ((1048576 : Int) < d.Z) = false) (h5 : decide (0 < i) = true) (hjp : Hid (i = jp + 1)) (hqp : w0.cell? ⟨gD, oD + jp * 4, none⟩ = some (by8 PQ)) (h6 : (!Op.bytesLess PQ P) = false)
  (hQ : ∀ (vs : Nat → Value) (w : World), Below w0.heap.size w0 w → (vs 64 = .bool false) → Q .normal { tmps := [10, 11, 12, 13, 14, 15, 16, 17, 18, 19, 20, 21, 22, 23, 24, 25, 26, 27, 28, 29, 30, 31, 32, 33, 34, 35, 36, 37, 38, 39, 40, 41, 42, 43, 44, 45, 46, 47, 48, 49, 50, 51, 52, 53, 54, 55, 56, 57, 58, 59, 60, 61, 62, 63, 64].foldl (fun y d => y.setIfInBounds d (vs d)) t0, defers := df } w) :
  (Code.region 4 drr4_ops true).wpIn Fc nC Tryz.prog Q { tmps := t0, defers := df } w0 := by
 refine wpIn_region_tail 55 (by decide) (by kernel_rfl) (fun a b => Below a.heap.size a b) (drrB_val gD oD n cD i jp d P PQ) t0 df w0 (by rw [ht]; kernel_rfl) (by kernel_rfl) (by kernel_rfl) (by kernel_rfl) ((Below.refl _ _).drew) (fun _ _ _ h k => h.trans (k.mono h.size)) (drrB_below gD oD n cD i jp d P PQ) ?_ ?_
 ·intro j o ho hj x w hB hdef hsz hs hdeps
  have hs' : ∀ s, ¬ drr4_mem s → x.tmps.getD s undef = t0.getD s undef := fun s hn => hs s (fun j hj e => hn (by rw [e]; exact drr4_slots j hj))
  have u0 := (hs' 0 (by decide)).trans hs0
  have u3 := (hs' 3 (by decide)).trans hs3
  have H : drrB_H Fc gD oD n cD i jp d P PQ df w0 x w := ⟨hF, hi, hn, d0, hp, hr, d1, h2, d3, h3, h4, h5, hjp, hqp, h6, hB, hdef, u0, u3⟩
  match j, ho, hj with
  | 0, ho, _ =>
    (have e : o = drr4_o0 := (Option.some.inj ho).symm; subst e)
    exact drrB_s0 H 
  | 1, ho, _ =>
    (have e : o = drr4_o1 := (Option.some.inj ho).symm; subst e)
    exact drrB_s1 H 
  | 2, ho, _ =>
    (have e : o = drr4_o2 := (Option.some.inj ho).symm; subst e)
    exact drrB_s2 H (hdeps ⟨0, .data⟩ (by simp) rfl) (hdeps ⟨1, .data⟩ (by simp) rfl)
  | 3, ho, _ =>
    (have e : o = drr4_o3 := (Option.some.inj ho).symm; subst e)
    exact drrB_s3 H (hdeps ⟨2, .data⟩ (by simp) rfl)
  | 4, ho, _ =>
    (have e : o = drr4_o4 := (Option.some.inj ho).symm; subst e)
    exact drrB_s4 H (hdeps ⟨3, .data⟩ (by simp) rfl)
  | 5, ho, _ =>
    (have e : o = drr4_o5 := (Option.some.inj ho).symm; subst e)
    exact drrB_s5 H (hdeps ⟨4, .data⟩ (by simp) rfl)
  | 6, ho, _ =>
    (have e : o = drr4_o6 := (Option.some.inj ho).symm; subst e)
    exact drrB_s6 H (hdeps ⟨5, .data⟩ (by simp) rfl)
  | 7, ho, _ =>
    (have e : o = drr4_o7 := (Option.some.inj ho).symm; subst e)
    exact drrB_s7 H (hdeps ⟨6, .data⟩ (by simp) rfl)
  | 8, ho, _ =>
    (have e : o = drr4_o8 := (Option.some.inj ho).symm; subst e)
    exact drrB_s8 H (hdeps ⟨7, .guard⟩ (by simp) rfl)
  | 9, ho, _ =>
    (have e : o = drr4_o9 := (Option.some.inj ho).symm; subst e)
    exact drrB_s9 H (hdeps ⟨7, .guard⟩ (by simp) rfl)
  | 10, ho, _ =>
    (have e : o = drr4_o10 := (Option.some.inj ho).symm; subst e)
    exact drrB_s10 H (hdeps ⟨8, .data⟩ (by simp) rfl) (hdeps ⟨9, .data⟩ (by simp) rfl) (hdeps ⟨7, .guard⟩ (by simp) rfl)
  | 11, ho, _ =>
    (have e : o = drr4_o11 := (Option.some.inj ho).symm; subst e)
    exact drrB_s11 H (hdeps ⟨10, .data⟩ (by simp) rfl) (hdeps ⟨7, .guard⟩ (by simp) rfl)
  | 12, ho, _ =>
    (have e : o = drr4_o12 := (Option.some.inj ho).symm; subst e)
    exact drrB_s12 H (hdeps ⟨11, .data⟩ (by simp) rfl) (hdeps ⟨7, .guard⟩ (by simp) rfl)
  | 13, ho, _ =>
    (have e : o = drr4_o13 := (Option.some.inj ho).symm; subst e)
    exact drrB_s13 H (hdeps ⟨7, .guard⟩ (by simp) rfl)
  | 14, ho, _ =>
    (have e : o = drr4_o14 := (Option.some.inj ho).symm; subst e)
    exact drrB_s14 H (hdeps ⟨7, .guard⟩ (by simp) rfl)
  | 15, ho, _ =>
    (have e : o = drr4_o15 := (Option.some.inj ho).symm; subst e)
    exact drrB_s15 H (hdeps ⟨13, .data⟩ (by simp) rfl) (hdeps ⟨14, .data⟩ (by simp) rfl) (hdeps ⟨7, .guard⟩ (by simp) rfl)
  | 16, ho, _ =>
    (have e : o = drr4_o16 := (Option.some.inj ho).symm; subst e)
    exact drrB_s16 H (hdeps ⟨15, .data⟩ (by simp) rfl) (hdeps ⟨7, .guard⟩ (by simp) rfl)
  | 17, ho, _ =>
    (have e : o = drr4_o17 := (Option.some.inj ho).symm; subst e)
    exact drrB_s17 H (hdeps ⟨16, .data⟩ (by simp) rfl) (hdeps ⟨7, .guard⟩ (by simp) rfl)
  | 18, ho, _ =>
    (have e : o = drr4_o18 := (Option.some.inj ho).symm; subst e)
    exact drrB_s18 H (hdeps ⟨17, .data⟩ (by simp) rfl) (hdeps ⟨7, .guard⟩ (by simp) rfl)
  | 19, ho, _ =>
    (have e : o = drr4_o19 := (Option.some.inj ho).symm; subst e)
    exact drrB_s19 H (hdeps ⟨12, .data⟩ (by simp) rfl) (hdeps ⟨18, .data⟩ (by simp) rfl) (hdeps ⟨7, .guard⟩ (by simp) rfl)
  | 20, ho, _ =>
    (have e : o = drr4_o20 := (Option.some.inj ho).symm; subst e)
    exact drrB_s20 H (hdeps ⟨7, .data⟩ (by simp) rfl) (hdeps ⟨19, .data⟩ (by simp) rfl)
  | 21, ho, _ =>
    (have e : o = drr4_o21 := (Option.some.inj ho).symm; subst e)
    exact drrB_s21 H (hdeps ⟨20, .data⟩ (by simp) rfl)
  | 22, ho, _ =>
    (have e : o = drr4_o22 := (Option.some.inj ho).symm; subst e)
    exact drrB_s22 H (hdeps ⟨21, .guard⟩ (by simp) rfl)
  | 23, ho, _ =>
    (have e : o = drr4_o23 := (Option.some.inj ho).symm; subst e)
    exact drrB_s23 H (hdeps ⟨21, .guard⟩ (by simp) rfl)
  | 24, ho, _ =>
    (have e : o = drr4_o24 := (Option.some.inj ho).symm; subst e)
    exact drrB_s24 H (hdeps ⟨22, .data⟩ (by simp) rfl) (hdeps ⟨23, .data⟩ (by simp) rfl) (hdeps ⟨21, .guard⟩ (by simp) rfl)
  | 25, ho, _ =>
    (have e : o = drr4_o25 := (Option.some.inj ho).symm; subst e)
    exact drrB_s25 H (hdeps ⟨24, .data⟩ (by simp) rfl) (hdeps ⟨21, .guard⟩ (by simp) rfl)
  | 26, ho, _ =>
    (have e : o = drr4_o26 := (Option.some.inj ho).symm; subst e)
    exact drrB_s26 H (hdeps ⟨25, .data⟩ (by simp) rfl) (hdeps ⟨21, .guard⟩ (by simp) rfl)
  | 27, ho, _ =>
    (have e : o = drr4_o27 := (Option.some.inj ho).symm; subst e)
    exact drrB_s27 H (hdeps ⟨26, .data⟩ (by simp) rfl) (hdeps ⟨21, .guard⟩ (by simp) rfl)
  | 28, ho, _ =>
    (have e : o = drr4_o28 := (Option.some.inj ho).symm; subst e)
    exact drrB_s28 H (hdeps ⟨21, .data⟩ (by simp) rfl) (hdeps ⟨27, .data⟩ (by simp) rfl)
  | 29, ho, _ =>
    (have e : o = drr4_o29 := (Option.some.inj ho).symm; subst e)
    exact drrB_s29 H (hdeps ⟨28, .data⟩ (by simp) rfl)
  | 30, ho, _ =>
    (have e : o = drr4_o30 := (Option.some.inj ho).symm; subst e)
    exact drrB_s30 H (hdeps ⟨29, .guard⟩ (by simp) rfl)
  | 31, ho, _ =>
    (have e : o = drr4_o31 := (Option.some.inj ho).symm; subst e)
    exact drrB_s31 H (hdeps ⟨29, .guard⟩ (by simp) rfl)
  | 32, ho, _ =>
    (have e : o = drr4_o32 := (Option.some.inj ho).symm; subst e)
    exact drrB_s32 H (hdeps ⟨30, .data⟩ (by simp) rfl) (hdeps ⟨31, .data⟩ (by simp) rfl) (hdeps ⟨29, .guard⟩ (by simp) rfl)
  | 33, ho, _ =>
    (have e : o = drr4_o33 := (Option.some.inj ho).symm; subst e)
    exact drrB_s33 H (hdeps ⟨32, .data⟩ (by simp) rfl) (hdeps ⟨29, .guard⟩ (by simp) rfl)
  | 34, ho, _ =>
    (have e : o = drr4_o34 := (Option.some.inj ho).symm; subst e)
    exact drrB_s34 H (hdeps ⟨33, .data⟩ (by simp) rfl) (hdeps ⟨29, .guard⟩ (by simp) rfl)
  | 35, ho, _ =>
    (have e : o = drr4_o35 := (Option.some.inj ho).symm; subst e)
    exact drrB_s35 H (hdeps ⟨34, .data⟩ (by simp) rfl) (hdeps ⟨29, .guard⟩ (by simp) rfl)
  | 36, ho, _ =>
    (have e : o = drr4_o36 := (Option.some.inj ho).symm; subst e)
    exact drrB_s36 H (hdeps ⟨29, .data⟩ (by simp) rfl) (hdeps ⟨35, .data⟩ (by simp) rfl)
  | 37, ho, _ =>
    (have e : o = drr4_o37 := (Option.some.inj ho).symm; subst e)
    exact drrB_s37 H (hdeps ⟨36, .data⟩ (by simp) rfl)
  | 38, ho, _ =>
    (have e : o = drr4_o38 := (Option.some.inj ho).symm; subst e)
    exact drrB_s38 H (hdeps ⟨37, .guard⟩ (by simp) rfl)
  | 39, ho, _ =>
    (have e : o = drr4_o39 := (Option.some.inj ho).symm; subst e)
    exact drrB_s39 H (hdeps ⟨38, .data⟩ (by simp) rfl) (hdeps ⟨37, .guard⟩ (by simp) rfl)
  | 40, ho, _ =>
    (have e : o = drr4_o40 := (Option.some.inj ho).symm; subst e)
    exact drrB_s40 H (hdeps ⟨39, .data⟩ (by simp) rfl) (hdeps ⟨37, .guard⟩ (by simp) rfl)
  | 41, ho, _ =>
    (have e : o = drr4_o41 := (Option.some.inj ho).symm; subst e)
    exact drrB_s41 H (hdeps ⟨40, .guard⟩ (by simp) rfl)
  | 42, ho, _ =>
    (have e : o = drr4_o42 := (Option.some.inj ho).symm; subst e)
    exact drrB_s42 H (hdeps ⟨40, .guard⟩ (by simp) rfl)
  | 43, ho, _ =>
    (have e : o = drr4_o43 := (Option.some.inj ho).symm; subst e)
    exact drrB_s43 H (hdeps ⟨42, .data⟩ (by simp) rfl) (hdeps ⟨40, .guard⟩ (by simp) rfl)
  | 44, ho, _ =>
    (have e : o = drr4_o44 := (Option.some.inj ho).symm; subst e)
    exact drrB_s44 H (hdeps ⟨41, .data⟩ (by simp) rfl) (hdeps ⟨43, .data⟩ (by simp) rfl) (hdeps ⟨40, .guard⟩ (by simp) rfl)
  | 45, ho, _ =>
    (have e : o = drr4_o45 := (Option.some.inj ho).symm; subst e)
    exact drrB_s45 H (hdeps ⟨44, .data⟩ (by simp) rfl) (hdeps ⟨40, .guard⟩ (by simp) rfl)
  | 46, ho, _ =>
    (have e : o = drr4_o46 := (Option.some.inj ho).symm; subst e)
    exact drrB_s46 H (hdeps ⟨45, .data⟩ (by simp) rfl) (hdeps ⟨40, .guard⟩ (by simp) rfl)
  | 47, ho, _ =>
    (have e : o = drr4_o47 := (Option.some.inj ho).symm; subst e)
    exact drrB_s47 H (hdeps ⟨40, .guard⟩ (by simp) rfl)
  | 48, ho, _ =>
    (have e : o = drr4_o48 := (Option.some.inj ho).symm; subst e)
    exact drrB_s48 H (hdeps ⟨40, .guard⟩ (by simp) rfl)
  | 49, ho, _ =>
    (have e : o = drr4_o49 := (Option.some.inj ho).symm; subst e)
    exact drrB_s49 H (hdeps ⟨47, .data⟩ (by simp) rfl) (hdeps ⟨48, .data⟩ (by simp) rfl) (hdeps ⟨40, .guard⟩ (by simp) rfl)
  | 50, ho, _ =>
    (have e : o = drr4_o50 := (Option.some.inj ho).symm; subst e)
    exact drrB_s50 H (hdeps ⟨49, .data⟩ (by simp) rfl) (hdeps ⟨40, .guard⟩ (by simp) rfl)
  | 51, ho, _ =>
    (have e : o = drr4_o51 := (Option.some.inj ho).symm; subst e)
    exact drrB_s51 H (hdeps ⟨50, .data⟩ (by simp) rfl) (hdeps ⟨40, .guard⟩ (by simp) rfl)
  | 52, ho, _ =>
    (have e : o = drr4_o52 := (Option.some.inj ho).symm; subst e)
    exact drrB_s52 H (hdeps ⟨46, .data⟩ (by simp) rfl) (hdeps ⟨51, .data⟩ (by simp) rfl) (hdeps ⟨40, .guard⟩ (by simp) rfl)
  | 53, ho, _ =>
    (have e : o = drr4_o53 := (Option.some.inj ho).symm; subst e)
    exact drrB_s53 H (hdeps ⟨40, .data⟩ (by simp) rfl) (hdeps ⟨52, .data⟩ (by simp) rfl) (hdeps ⟨37, .guard⟩ (by simp) rfl)
  | 54, ho, _ =>
    (have e : o = drr4_o54 := (Option.some.inj ho).symm; subst e)
    exact drrB_s54 H (hdeps ⟨37, .data⟩ (by simp) rfl) (hdeps ⟨53, .data⟩ (by simp) rfl)
  | k + 55, _, hj => omega
 ·intro x w hB hdef hsz hs hv
  have hx := frame_sets x.tmps t0 hsz [10, 11, 12, 13, 14, 15, 16, 17, 18, 19, 20, 21, 22, 23, 24, 25, 26, 27, 28, 29, 30, 31, 32, 33, 34, 35, 36, 37, 38, 39, 40, 41, 42, 43, 44, 45, 46, 47, 48, 49, 50, 51, 52, 53, 54, 55, 56, 57, 58, 59, 60, 61, 62, 63, 64] (fun s hn => hs s (fun j hj e => hn (by rw [e]; exact drr4_slots j hj)))
  have hq := hQ (fun d => x.tmps.getD d undef) w hB (hv 54 (by decide))
  obtain ⟨T, Df⟩ := x
  dsimp only at hx hdef hq
  subst hdef
  rw [← hx] at hq
  exact hq
end
def drrC_val (gD oD n cD i jp : Nat) (d : DT) (P PQ : List UInt8) : Nat → Value → World → Prop
 | 0, v, w => v = .slice (some ⟨gD, oD, none⟩) n cD
 | 1, v, w => v = .int .i64 (i : Nat)
 | 2, v, w => v = .pointer (some ⟨gD, oD + i * 4, none⟩)
 | 3, v, w => v = .pointer (some ⟨gD, oD + i * 4, none⟩)
 | 4, v, w => v = by8 P
 | 5, v, w => v = .bool false
 | 6, v, w => v = .bool true
 | 7, v, w => v = .bool true
 | 8, v, w | 9, v, w | 10, v, w | 11, v, w | 12, v, w | 13, v, w | 14, v, w | 15, v, w | 16, v, w | 17, v, w | 18, v, w | 19, v, w => v = undef
 | 20, v, w => v = .bool true
 | 21, v, w => v = .bool true
 | 22, v, w | 23, v, w | 24, v, w | 25, v, w | 26, v, w | 27, v, w => v = undef
 | 28, v, w => v = .bool true
 | 29, v, w => v = .bool true
 | 30, v, w | 31, v, w | 32, v, w | 33, v, w | 34, v, w | 35, v, w => v = undef
 | 36, v, w => v = .bool true
 | 37, v, w => v = .bool true
 | 38, v, w | 39, v, w | 40, v, w | 41, v, w | 42, v, w | 43, v, w | 44, v, w | 45, v, w | 46, v, w | 47, v, w | 48, v, w | 49, v, w | 50, v, w | 51, v, w | 52, v, w | 53, v, w => v = undef
 | 54, v, w => v = .bool true
 | _, _, _ => True
theorem drrC_below (gD oD n cD i jp : Nat) (d : DT) (P PQ : List UInt8) (w w' : World) (hb : Below w.heap.size w w') : ∀ j v, drrC_val gD oD n cD i jp d P PQ j v w → drrC_val gD oD n cD i jp d P PQ j v w' := by
 intro j v h
 match j, h with
 | 0, h | 1, h | 2, h | 3, h | 4, h | 5, h | 6, h | 7, h | 8, h | 9, h | 10, h | 11, h | 12, h | 13, h | 14, h | 15, h | 16, h | 17, h | 18, h | 19, h | 20, h | 21, h | 22, h | 23, h | 24, h | 25, h | 26, h | 27, h | 28, h | 29, h | 30, h | 31, h | 32, h | 33, h | 34, h | 35, h | 36, h | 37, h | 38, h | 39, h | 40, h | 41, h | 42, h | 43, h | 44, h | 45, h | 46, h | 47, h | 48, h | 49, h | 50, h | 51, h | 52, h | 53, h | 54, h => exact h
 | _ + 55, h => exact h
def drrC_H (Fc : Fence) (gD oD n cD i jp : Nat) (d : DT) (P PQ : List UInt8) (df : List Deferred) (w0 : World) (x : Act) (w : World) : Prop :=
 (Wide Fc) ∧ (i < n) ∧ (n ≤ 140737488351232) ∧ (w0.cell? ⟨gD, oD + i * 4, none⟩ = some (by8 P)) ∧ (P.length ≤ 1000000) ∧ (rightP P = false) ∧ (Below w0.heap.size w0 w) ∧ (x.defers = df) ∧ (x.tmps.getD 0 undef = .slice (some ⟨gD, oD, none⟩) n cD) ∧ (x.tmps.getD 3 undef = .int .i64 (i : Nat))
section
set_option maxRecDepth 100000
set_option maxHeartbeats 2000000
variable {Fc : Fence} {nC : Nat} {gD oD n cD i jp : Nat} {d : DT} {P PQ : List UInt8} {Q : Exit → Act → World → Prop} {df : List Deferred} {w0 : World} {x : Act} {w : World}
theorem drrC_s0 (H : drrC_H Fc gD oD n cD i jp d P PQ df w0 x w) : Stp Fc nC Tryz.prog drr4_ops Q 0 10 (drrC_val gD oD n cD i jp d P PQ 0) x w := by
 (obtain ⟨hF, hi, hn, d0, hp, hr, hB, hdef, u0, u3⟩ := H; have ho : drr4_ops[0]? = some drr4_o0 := rfl; simp only [Array.getD_eq_getD_getElem?] at u0 u3)
 (refine wpOpIn_plain ho rfl (oper_inK hF.fn (fun K hK => ?_)); clear ho; rw [Oper.semAt_plain Fc _ _ (by intro c h; cases h)]; simp only [drr4_o0]; go_simp)
 exact hK _ _ ⟨_, act_putD x hdef _ _, rfl, Below.refl _ _⟩
theorem drrC_s1 (H : drrC_H Fc gD oD n cD i jp d P PQ df w0 x w) : Stp Fc nC Tryz.prog drr4_ops Q 1 11 (drrC_val gD oD n cD i jp d P PQ 1) x w := by
 (obtain ⟨hF, hi, hn, d0, hp, hr, hB, hdef, u0, u3⟩ := H; have ho : drr4_ops[1]? = some drr4_o1 := rfl; simp only [Array.getD_eq_getD_getElem?] at u0 u3)
 (refine wpOpIn_plain ho rfl (oper_inK hF.fn (fun K hK => ?_)); clear ho; rw [Oper.semAt_plain Fc _ _ (by intro c h; cases h)]; simp only [drr4_o1]; go_simp)
 exact hK _ _ ⟨_, act_putD x hdef _ _, rfl, Below.refl _ _⟩
theorem drrC_s2 (H : drrC_H Fc gD oD n cD i jp d P PQ df w0 x w) (p0 : drrC_val gD oD n cD i jp d P PQ 0 (x.tmps.getD 10 undef) w) (p1 : drrC_val gD oD n cD i jp d P PQ 1 (x.tmps.getD 11 undef) w) : Stp Fc nC Tryz.prog drr4_ops Q 2 12 (drrC_val gD oD n cD i jp d P PQ 2) x w := by
 (obtain ⟨hF, hi, hn, d0, hp, hr, hB, hdef, u0, u3⟩ := H; have ho : drr4_ops[2]? = some drr4_o2 := rfl; simp only [Array.getD_eq_getD_getElem?] at u0 u3)
 have q0 : Array.getD (Act.tmps x) 10 undef = .slice (some ⟨gD, oD, none⟩) n cD := p0
 have q1 : Array.getD (Act.tmps x) 11 undef = .int .i64 (i : Nat) := p1
 simp only [Array.getD_eq_getD_getElem?] at q0 q1
 have i0 : (0 : Int) ≤ (i : Int) := by omega
 have i1 : (i : Int) < (n : Int) := by omega
 (refine wpOpIn_plain ho rfl (oper_inK hF.fn (fun K hK => ?_)); clear ho; rw [Oper.semAt_plain Fc _ _ (by intro c h; cases h)]; simp only [drr4_o2]; go_simp)
 exact hK _ _ ⟨_, act_putD x hdef _ _, rfl, Below.refl _ _⟩
theorem drrC_s3 (H : drrC_H Fc gD oD n cD i jp d P PQ df w0 x w) (p2 : drrC_val gD oD n cD i jp d P PQ 2 (x.tmps.getD 12 undef) w) : Stp Fc nC Tryz.prog drr4_ops Q 3 13 (drrC_val gD oD n cD i jp d P PQ 3) x w := by
 (obtain ⟨hF, hi, hn, d0, hp, hr, hB, hdef, u0, u3⟩ := H; have ho : drr4_ops[3]? = some drr4_o3 := rfl; simp only [Array.getD_eq_getD_getElem?] at u0 u3)
 have q2 : Array.getD (Act.tmps x) 12 undef = .pointer (some ⟨gD, oD + i * 4, none⟩) := p2
 simp only [Array.getD_eq_getD_getElem?] at q2
 (refine wpOpIn_plain ho rfl (oper_inK hF.fn (fun K hK => ?_)); clear ho; rw [Oper.semAt_plain Fc _ _ (by intro c h; cases h)]; simp only [drr4_o3]; go_simp)
 exact hK _ _ ⟨_, act_putD x hdef _ _, rfl, Below.refl _ _⟩
theorem drrC_s4 (H : drrC_H Fc gD oD n cD i jp d P PQ df w0 x w) (p3 : drrC_val gD oD n cD i jp d P PQ 3 (x.tmps.getD 13 undef) w) : Stp Fc nC Tryz.prog drr4_ops Q 4 14 (drrC_val gD oD n cD i jp d P PQ 4) x w := by
 (obtain ⟨hF, hi, hn, d0, hp, hr, hB, hdef, u0, u3⟩ := H; have ho : drr4_ops[4]? = some drr4_o4 := rfl; simp only [Array.getD_eq_getD_getElem?] at u0 u3)
 have q3 : Array.getD (Act.tmps x) 13 undef = .pointer (some ⟨gD, oD + i * 4, none⟩) := p3
 simp only [Array.getD_eq_getD_getElem?] at q3
 have m := cell_thru d0 hB
 (refine wpOpIn_plain ho rfl (oper_inK hF.fn (fun K hK => ?_)); clear ho; rw [Oper.semAt_plain Fc _ _ (by intro c h; cases h)]; simp only [drr4_o4]; go_simp)
 exact hK _ _ ⟨_, act_putD x hdef _ _, rfl, Below.refl _ _⟩
theorem drrC_s5 (H : drrC_H Fc gD oD n cD i jp d P PQ df w0 x w) (p4 : drrC_val gD oD n cD i jp d P PQ 4 (x.tmps.getD 14 undef) w) : Stp Fc nC Tryz.prog drr4_ops Q 5 15 (drrC_val gD oD n cD i jp d P PQ 5) x w := by
 (obtain ⟨hF, hi, hn, d0, hp, hr, hB, hdef, u0, u3⟩ := H; have ho : drr4_ops[5]? = some drr4_o5 := rfl; simp only [Array.getD_eq_getD_getElem?] at u0 u3)
 have q4 : Array.getD (Act.tmps x) 14 undef = by8 P := p4
 simp only [Array.getD_eq_getD_getElem?] at q4
 (refine wpOpIn_plain ho rfl (oper_inK hF.fn (fun K hK => ?_)); clear ho; rw [Oper.semAt_plain Fc _ _ (by intro c h; cases h)]; simp only [drr4_o5]; go_simp)
 refine ⟨hF.deep, (hF.call (refRight_any P w hp)).mono ?_⟩
 rintro e w' ⟨rfl, hb⟩
 exact hK _ _ ⟨_, act_putD x hdef _ _, by rw [hr]; exact rfl, hb⟩
theorem drrC_s6 (H : drrC_H Fc gD oD n cD i jp d P PQ df w0 x w) (p5 : drrC_val gD oD n cD i jp d P PQ 5 (x.tmps.getD 15 undef) w) : Stp Fc nC Tryz.prog drr4_ops Q 6 16 (drrC_val gD oD n cD i jp d P PQ 6) x w := by
 (obtain ⟨hF, hi, hn, d0, hp, hr, hB, hdef, u0, u3⟩ := H; have ho : drr4_ops[6]? = some drr4_o6 := rfl; simp only [Array.getD_eq_getD_getElem?] at u0 u3)
 have q5 : Array.getD (Act.tmps x) 15 undef = .bool false := p5
 simp only [Array.getD_eq_getD_getElem?] at q5
 (refine wpOpIn_plain ho rfl (oper_inK hF.fn (fun K hK => ?_)); clear ho; rw [Oper.semAt_plain Fc _ _ (by intro c h; cases h)]; simp only [drr4_o6]; go_simp)
 exact hK _ _ ⟨_, act_putD x hdef _ _, rfl, Below.refl _ _⟩
theorem drrC_s7 (H : drrC_H Fc gD oD n cD i jp d P PQ df w0 x w) (p6 : drrC_val gD oD n cD i jp d P PQ 6 (x.tmps.getD 16 undef) w) : Stp Fc nC Tryz.prog drr4_ops Q 7 17 (drrC_val gD oD n cD i jp d P PQ 7) x w := by
 (obtain ⟨hF, hi, hn, d0, hp, hr, hB, hdef, u0, u3⟩ := H; have ho : drr4_ops[7]? = some drr4_o7 := rfl; simp only [Array.getD_eq_getD_getElem?] at u0 u3)
 have q6 : Array.getD (Act.tmps x) 16 undef = .bool true := p6
 simp only [Array.getD_eq_getD_getElem?] at q6
 (refine wpOpIn_plain ho rfl (oper_inK hF.fn (fun K hK => ?_)); clear ho; rw [Oper.semAt_plain Fc _ _ (by intro c h; cases h)]; simp only [drr4_o7]; go_simp)
 exact hK _ _ ⟨_, act_putD x hdef _ _, rfl, Below.refl _ _⟩
theorem drrC_s8 (H : drrC_H Fc gD oD n cD i jp d P PQ df w0 x w) (p7 : drrC_val gD oD n cD i jp d P PQ 7 (x.tmps.getD 17 undef) w) : Stp Fc nC Tryz.prog drr4_ops Q 8 18 (drrC_val gD oD n cD i jp d P PQ 8) x w := by
 (obtain ⟨hF, hi, hn, d0, hp, hr, hB, hdef, u0, u3⟩ := H; have ho : drr4_ops[8]? = some drr4_o8 := rfl; simp only [Array.getD_eq_getD_getElem?] at u0 u3)
 have q7 : Array.getD (Act.tmps x) 17 undef = .bool true := p7
 simp only [Array.getD_eq_getD_getElem?] at q7
 (have e7 : (drr4_ops[7]?.bind fun x => x.dst) = some 17 := rfl; have g7 := get_someT q7 (fun h => by cases h))
 (refine wpOpIn_stepT hF ho (fun K hK => ?_); clear ho; rw [Oper.semAt_plain Fc _ _ (by intro c h; cases h)]; simp only [drr4_o8]; go_simp)
 exact hK _ _ ⟨_, act_putD x hdef _ _, rfl, Below.refl _ _⟩
theorem drrC_s9 (H : drrC_H Fc gD oD n cD i jp d P PQ df w0 x w) (p7 : drrC_val gD oD n cD i jp d P PQ 7 (x.tmps.getD 17 undef) w) : Stp Fc nC Tryz.prog drr4_ops Q 9 19 (drrC_val gD oD n cD i jp d P PQ 9) x w := by
 (obtain ⟨hF, hi, hn, d0, hp, hr, hB, hdef, u0, u3⟩ := H; have ho : drr4_ops[9]? = some drr4_o9 := rfl; simp only [Array.getD_eq_getD_getElem?] at u0 u3)
 have q7 : Array.getD (Act.tmps x) 17 undef = .bool true := p7
 simp only [Array.getD_eq_getD_getElem?] at q7
 (have e7 : (drr4_ops[7]?.bind fun x => x.dst) = some 17 := rfl; have g7 := get_someT q7 (fun h => by cases h))
 (refine wpOpIn_stepT hF ho (fun K hK => ?_); clear ho; rw [Oper.semAt_plain Fc _ _ (by intro c h; cases h)]; simp only [drr4_o9]; go_simp)
 exact hK _ _ ⟨_, act_putD x hdef _ _, rfl, Below.refl _ _⟩
theorem drrC_s10 (H : drrC_H Fc gD oD n cD i jp d P PQ df w0 x w) (p8 : drrC_val gD oD n cD i jp d P PQ 8 (x.tmps.getD 18 undef) w) (p9 : drrC_val gD oD n cD i jp d P PQ 9 (x.tmps.getD 19 undef) w) (p7 : drrC_val gD oD n cD i jp d P PQ 7 (x.tmps.getD 17 undef) w) : Stp Fc nC Tryz.prog drr4_ops Q 10 20 (drrC_val gD oD n cD i jp d P PQ 10) x w := by
 (obtain ⟨hF, hi, hn, d0, hp, hr, hB, hdef, u0, u3⟩ := H; have ho : drr4_ops[10]? = some drr4_o10 := rfl; simp only [Array.getD_eq_getD_getElem?] at u0 u3)
 have q8 : Array.getD (Act.tmps x) 18 undef = undef := p8
 have q9 : Array.getD (Act.tmps x) 19 undef = undef := p9
 have q7 : Array.getD (Act.tmps x) 17 undef = .bool true := p7
 simp only [Array.getD_eq_getD_getElem?] at q8 q9 q7
 (have e7 : (drr4_ops[7]?.bind fun x => x.dst) = some 17 := rfl; have g7 := get_someT q7 (fun h => by cases h))
 (refine wpOpIn_stepT hF ho (fun K hK => ?_); clear ho; rw [Oper.semAt_plain Fc _ _ (by intro c h; cases h)]; simp only [drr4_o10]; go_simp)
 exact hK _ _ ⟨_, act_putD x hdef _ _, rfl, Below.refl _ _⟩
theorem drrC_s11 (H : drrC_H Fc gD oD n cD i jp d P PQ df w0 x w) (p10 : drrC_val gD oD n cD i jp d P PQ 10 (x.tmps.getD 20 undef) w) (p7 : drrC_val gD oD n cD i jp d P PQ 7 (x.tmps.getD 17 undef) w) : Stp Fc nC Tryz.prog drr4_ops Q 11 21 (drrC_val gD oD n cD i jp d P PQ 11) x w := by
 (obtain ⟨hF, hi, hn, d0, hp, hr, hB, hdef, u0, u3⟩ := H; have ho : drr4_ops[11]? = some drr4_o11 := rfl; simp only [Array.getD_eq_getD_getElem?] at u0 u3)
 have q10 : Array.getD (Act.tmps x) 20 undef = undef := p10
 have q7 : Array.getD (Act.tmps x) 17 undef = .bool true := p7
 simp only [Array.getD_eq_getD_getElem?] at q10 q7
 (have e7 : (drr4_ops[7]?.bind fun x => x.dst) = some 17 := rfl; have g7 := get_someT q7 (fun h => by cases h))
 (refine wpOpIn_stepT hF ho (fun K hK => ?_); clear ho; rw [Oper.semAt_plain Fc _ _ (by intro c h; cases h)]; simp only [drr4_o11]; go_simp)
 exact hK _ _ ⟨_, act_putD x hdef _ _, rfl, Below.refl _ _⟩
theorem drrC_s12 (H : drrC_H Fc gD oD n cD i jp d P PQ df w0 x w) (p11 : drrC_val gD oD n cD i jp d P PQ 11 (x.tmps.getD 21 undef) w) (p7 : drrC_val gD oD n cD i jp d P PQ 7 (x.tmps.getD 17 undef) w) : Stp Fc nC Tryz.prog drr4_ops Q 12 22 (drrC_val gD oD n cD i jp d P PQ 12) x w := by
 (obtain ⟨hF, hi, hn, d0, hp, hr, hB, hdef, u0, u3⟩ := H; have ho : drr4_ops[12]? = some drr4_o12 := rfl; simp only [Array.getD_eq_getD_getElem?] at u0 u3)
 have q11 : Array.getD (Act.tmps x) 21 undef = undef := p11
 have q7 : Array.getD (Act.tmps x) 17 undef = .bool true := p7
 simp only [Array.getD_eq_getD_getElem?] at q11 q7
 (have e7 : (drr4_ops[7]?.bind fun x => x.dst) = some 17 := rfl; have g7 := get_someT q7 (fun h => by cases h))
 (refine wpOpIn_stepT hF ho (fun K hK => ?_); clear ho; rw [Oper.semAt_plain Fc _ _ (by intro c h; cases h)]; simp only [drr4_o12]; go_simp)
 exact hK _ _ ⟨_, act_putD x hdef _ _, rfl, Below.refl _ _⟩
theorem drrC_s13 (H : drrC_H Fc gD oD n cD i jp d P PQ df w0 x w) (p7 : drrC_val gD oD n cD i jp d P PQ 7 (x.tmps.getD 17 undef) w) : Stp Fc nC Tryz.prog drr4_ops Q 13 23 (drrC_val gD oD n cD i jp d P PQ 13) x w := by
 (obtain ⟨hF, hi, hn, d0, hp, hr, hB, hdef, u0, u3⟩ := H; have ho : drr4_ops[13]? = some drr4_o13 := rfl; simp only [Array.getD_eq_getD_getElem?] at u0 u3)
 have q7 : Array.getD (Act.tmps x) 17 undef = .bool true := p7
 simp only [Array.getD_eq_getD_getElem?] at q7
 (have e7 : (drr4_ops[7]?.bind fun x => x.dst) = some 17 := rfl; have g7 := get_someT q7 (fun h => by cases h))
 (refine wpOpIn_stepT hF ho (fun K hK => ?_); clear ho; rw [Oper.semAt_plain Fc _ _ (by intro c h; cases h)]; simp only [drr4_o13]; go_simp)
 exact hK _ _ ⟨_, act_putD x hdef _ _, rfl, Below.refl _ _⟩
theorem drrC_s14 (H : drrC_H Fc gD oD n cD i jp d P PQ df w0 x w) (p7 : drrC_val gD oD n cD i jp d P PQ 7 (x.tmps.getD 17 undef) w) : Stp Fc nC Tryz.prog drr4_ops Q 14 24 (drrC_val gD oD n cD i jp d P PQ 14) x w := by
 (obtain ⟨hF, hi, hn, d0, hp, hr, hB, hdef, u0, u3⟩ := H; have ho : drr4_ops[14]? = some drr4_o14 := rfl; simp only [Array.getD_eq_getD_getElem?] at u0 u3)
 have q7 : Array.getD (Act.tmps x) 17 undef = .bool true := p7
 simp only [Array.getD_eq_getD_getElem?] at q7
 (have e7 : (drr4_ops[7]?.bind fun x => x.dst) = some 17 := rfl; have g7 := get_someT q7 (fun h => by cases h))
 (refine wpOpIn_stepT hF ho (fun K hK => ?_); clear ho; rw [Oper.semAt_plain Fc _ _ (by intro c h; cases h)]; simp only [drr4_o14]; go_simp)
 exact hK _ _ ⟨_, act_putD x hdef _ _, rfl, Below.refl _ _⟩
theorem drrC_s15 (H : drrC_H Fc gD oD n cD i jp d P PQ df w0 x w) (p13 : drrC_val gD oD n cD i jp d P PQ 13 (x.tmps.getD 23 undef) w) (p14 : drrC_val gD oD n cD i jp d P PQ 14 (x.tmps.getD 24 undef) w) (p7 : drrC_val gD oD n cD i jp d P PQ 7 (x.tmps.getD 17 undef) w) : Stp Fc nC Tryz.prog drr4_ops Q 15 25 (drrC_val gD oD n cD i jp d P PQ 15) x w := by
 (obtain ⟨hF, hi, hn, d0, hp, hr, hB, hdef, u0, u3⟩ := H; have ho : drr4_ops[15]? = some drr4_o15 := rfl; simp only [Array.getD_eq_getD_getElem?] at u0 u3)
 have q13 : Array.getD (Act.tmps x) 23 undef = undef := p13
 have q14 : Array.getD (Act.tmps x) 24 undef = undef := p14
 have q7 : Array.getD (Act.tmps x) 17 undef = .bool true := p7
 simp only [Array.getD_eq_getD_getElem?] at q13 q14 q7
 (have e7 : (drr4_ops[7]?.bind fun x => x.dst) = some 17 := rfl; have g7 := get_someT q7 (fun h => by cases h))
 (refine wpOpIn_stepT hF ho (fun K hK => ?_); clear ho; rw [Oper.semAt_plain Fc _ _ (by intro c h; cases h)]; simp only [drr4_o15]; go_simp)
 exact hK _ _ ⟨_, act_putD x hdef _ _, rfl, Below.refl _ _⟩
theorem drrC_s16 (H : drrC_H Fc gD oD n cD i jp d P PQ df w0 x w) (p15 : drrC_val gD oD n cD i jp d P PQ 15 (x.tmps.getD 25 undef) w) (p7 : drrC_val gD oD n cD i jp d P PQ 7 (x.tmps.getD 17 undef) w) : Stp Fc nC Tryz.prog drr4_ops Q 16 26 (drrC_val gD oD n cD i jp d P PQ 16) x w := by
 (obtain ⟨hF, hi, hn, d0, hp, hr, hB, hdef, u0, u3⟩ := H; have ho : drr4_ops[16]? = some drr4_o16 := rfl; simp only [Array.getD_eq_getD_getElem?] at u0 u3)
 have q15 : Array.getD (Act.tmps x) 25 undef = undef := p15
 have q7 : Array.getD (Act.tmps x) 17 undef = .bool true := p7
 simp only [Array.getD_eq_getD_getElem?] at q15 q7
 (have e7 : (drr4_ops[7]?.bind fun x => x.dst) = some 17 := rfl; have g7 := get_someT q7 (fun h => by cases h))
 (refine wpOpIn_stepT hF ho (fun K hK => ?_); clear ho; rw [Oper.semAt_plain Fc _ _ (by intro c h; cases h)]; simp only [drr4_o16]; go_simp)
 exact hK _ _ ⟨_, act_putD x hdef _ _, rfl, Below.refl _ _⟩
theorem drrC_s17 (H : drrC_H Fc gD oD n cD i jp d P PQ df w0 x w) (p16 : drrC_val gD oD n cD i jp d P PQ 16 (x.tmps.getD 26 undef) w) (p7 : drrC_val gD oD n cD i jp d P PQ 7 (x.tmps.getD 17 undef) w) : Stp Fc nC Tryz.prog drr4_ops Q 17 27 (drrC_val gD oD n cD i jp d P PQ 17) x w := by
 (obtain ⟨hF, hi, hn, d0, hp, hr, hB, hdef, u0, u3⟩ := H; have ho : drr4_ops[17]? = some drr4_o17 := rfl; simp only [Array.getD_eq_getD_getElem?] at u0 u3)
 have q16 : Array.getD (Act.tmps x) 26 undef = undef := p16
 have q7 : Array.getD (Act.tmps x) 17 undef = .bool true := p7
 simp only [Array.getD_eq_getD_getElem?] at q16 q7
 (have e7 : (drr4_ops[7]?.bind fun x => x.dst) = some 17 := rfl; have g7 := get_someT q7 (fun h => by cases h))
 (refine wpOpIn_stepT hF ho (fun K hK => ?_); clear ho; rw [Oper.semAt_plain Fc _ _ (by intro c h; cases h)]; simp only [drr4_o17]; go_simp)
 exact hK _ _ ⟨_, act_putD x hdef _ _, rfl, Below.refl _ _⟩
theorem drrC_s18 (H : drrC_H Fc gD oD n cD i jp d P PQ df w0 x w) (p17 : drrC_val gD oD n cD i jp d P PQ 17 (x.tmps.getD 27 undef) w) (p7 : drrC_val gD oD n cD i jp d P PQ 7 (x.tmps.getD 17 undef) w) : Stp Fc nC Tryz.prog drr4_ops Q 18 28 (drrC_val gD oD n cD i jp d P PQ 18) x w := by
 (obtain ⟨hF, hi, hn, d0, hp, hr, hB, hdef, u0, u3⟩ := H; have ho : drr4_ops[18]? = some drr4_o18 := rfl; simp only [Array.getD_eq_getD_getElem?] at u0 u3)
 have q17 : Array.getD (Act.tmps x) 27 undef = undef := p17
 have q7 : Array.getD (Act.tmps x) 17 undef = .bool true := p7
 simp only [Array.getD_eq_getD_getElem?] at q17 q7
 (have e7 : (drr4_ops[7]?.bind fun x => x.dst) = some 17 := rfl; have g7 := get_someT q7 (fun h => by cases h))
 (refine wpOpIn_stepT hF ho (fun K hK => ?_); clear ho; rw [Oper.semAt_plain Fc _ _ (by intro c h; cases h)]; simp only [drr4_o18]; go_simp)
 exact hK _ _ ⟨_, act_putD x hdef _ _, rfl, Below.refl _ _⟩
theorem drrC_s19 (H : drrC_H Fc gD oD n cD i jp d P PQ df w0 x w) (p12 : drrC_val gD oD n cD i jp d P PQ 12 (x.tmps.getD 22 undef) w) (p18 : drrC_val gD oD n cD i jp d P PQ 18 (x.tmps.getD 28 undef) w) (p7 : drrC_val gD oD n cD i jp d P PQ 7 (x.tmps.getD 17 undef) w) : Stp Fc nC Tryz.prog drr4_ops Q 19 29 (drrC_val gD oD n cD i jp d P PQ 19) x w := by
 (obtain ⟨hF, hi, hn, d0, hp, hr, hB, hdef, u0, u3⟩ := H; have ho : drr4_ops[19]? = some drr4_o19 := rfl; simp only [Array.getD_eq_getD_getElem?] at u0 u3)
 have q12 : Array.getD (Act.tmps x) 22 undef = undef := p12
 have q18 : Array.getD (Act.tmps x) 28 undef = undef := p18
 have q7 : Array.getD (Act.tmps x) 17 undef = .bool true := p7
 simp only [Array.getD_eq_getD_getElem?] at q12 q18 q7
 (have e7 : (drr4_ops[7]?.bind fun x => x.dst) = some 17 := rfl; have g7 := get_someT q7 (fun h => by cases h))
 (refine wpOpIn_stepT hF ho (fun K hK => ?_); clear ho; rw [Oper.semAt_plain Fc _ _ (by intro c h; cases h)]; simp only [drr4_o19]; go_simp)
 exact hK _ _ ⟨_, act_putD x hdef _ _, rfl, Below.refl _ _⟩
theorem drrC_s20 (H : drrC_H Fc gD oD n cD i jp d P PQ df w0 x w) (p7 : drrC_val gD oD n cD i jp d P PQ 7 (x.tmps.getD 17 undef) w) (p19 : drrC_val gD oD n cD i jp d P PQ 19 (x.tmps.getD 29 undef) w) : Stp Fc nC Tryz.prog drr4_ops Q 20 30 (drrC_val gD oD n cD i jp d P PQ 20) x w := by
 (obtain ⟨hF, hi, hn, d0, hp, hr, hB, hdef, u0, u3⟩ := H; have ho : drr4_ops[20]? = some drr4_o20 := rfl; simp only [Array.getD_eq_getD_getElem?] at u0 u3)
 have q7 : Array.getD (Act.tmps x) 17 undef = .bool true := p7
 have q19 : Array.getD (Act.tmps x) 29 undef = undef := p19
 simp only [Array.getD_eq_getD_getElem?] at q7 q19
 (refine wpOpIn_plain ho rfl (oper_inK hF.fn (fun K hK => ?_)); clear ho; rw [Oper.semAt_plain Fc _ _ (by intro c h; cases h)]; simp only [drr4_o20]; go_simp)
 exact hK _ _ ⟨_, act_putD x hdef _ _, rfl, Below.refl _ _⟩
theorem drrC_s21 (H : drrC_H Fc gD oD n cD i jp d P PQ df w0 x w) (p20 : drrC_val gD oD n cD i jp d P PQ 20 (x.tmps.getD 30 undef) w) : Stp Fc nC Tryz.prog drr4_ops Q 21 31 (drrC_val gD oD n cD i jp d P PQ 21) x w := by
 (obtain ⟨hF, hi, hn, d0, hp, hr, hB, hdef, u0, u3⟩ := H; have ho : drr4_ops[21]? = some drr4_o21 := rfl; simp only [Array.getD_eq_getD_getElem?] at u0 u3)
 have q20 : Array.getD (Act.tmps x) 30 undef = .bool true := p20
 simp only [Array.getD_eq_getD_getElem?] at q20
 (refine wpOpIn_plain ho rfl (oper_inK hF.fn (fun K hK => ?_)); clear ho; rw [Oper.semAt_plain Fc _ _ (by intro c h; cases h)]; simp only [drr4_o21]; go_simp)
 exact hK _ _ ⟨_, act_putD x hdef _ _, rfl, Below.refl _ _⟩
theorem drrC_s22 (H : drrC_H Fc gD oD n cD i jp d P PQ df w0 x w) (p21 : drrC_val gD oD n cD i jp d P PQ 21 (x.tmps.getD 31 undef) w) : Stp Fc nC Tryz.prog drr4_ops Q 22 32 (drrC_val gD oD n cD i jp d P PQ 22) x w := by
 (obtain ⟨hF, hi, hn, d0, hp, hr, hB, hdef, u0, u3⟩ := H; have ho : drr4_ops[22]? = some drr4_o22 := rfl; simp only [Array.getD_eq_getD_getElem?] at u0 u3)
 have q21 : Array.getD (Act.tmps x) 31 undef = .bool true := p21
 simp only [Array.getD_eq_getD_getElem?] at q21
 (have e21 : (drr4_ops[21]?.bind fun x => x.dst) = some 31 := rfl; have g21 := get_someT q21 (fun h => by cases h))
 (refine wpOpIn_stepT hF ho (fun K hK => ?_); clear ho; rw [Oper.semAt_plain Fc _ _ (by intro c h; cases h)]; simp only [drr4_o22]; go_simp)
 exact hK _ _ ⟨_, act_putD x hdef _ _, rfl, Below.refl _ _⟩
theorem drrC_s23 (H : drrC_H Fc gD oD n cD i jp d P PQ df w0 x w) (p21 : drrC_val gD oD n cD i jp d P PQ 21 (x.tmps.getD 31 undef) w) : Stp Fc nC Tryz.prog drr4_ops Q 23 33 (drrC_val gD oD n cD i jp d P PQ 23) x w := by
 (obtain ⟨hF, hi, hn, d0, hp, hr, hB, hdef, u0, u3⟩ := H; have ho : drr4_ops[23]? = some drr4_o23 := rfl; simp only [Array.getD_eq_getD_getElem?] at u0 u3)
 have q21 : Array.getD (Act.tmps x) 31 undef = .bool true := p21
 simp only [Array.getD_eq_getD_getElem?] at q21
 (have e21 : (drr4_ops[21]?.bind fun x => x.dst) = some 31 := rfl; have g21 := get_someT q21 (fun h => by cases h))
 (refine wpOpIn_stepT hF ho (fun K hK => ?_); clear ho; rw [Oper.semAt_plain Fc _ _ (by intro c h; cases h)]; simp only [drr4_o23]; go_simp)
 exact hK _ _ ⟨_, act_putD x hdef _ _, rfl, Below.refl _ _⟩
theorem drrC_s24 (H : drrC_H Fc gD oD n cD i jp d P PQ df w0 x w) (p22 : drrC_val gD oD n cD i jp d P PQ 22 (x.tmps.getD 32 undef) w) (p23 : drrC_val gD oD n cD i jp d P PQ 23 (x.tmps.getD 33 undef) w) (p21 : drrC_val gD oD n cD i jp d P PQ 21 (x.tmps.getD 31 undef) w) : Stp Fc nC Tryz.prog drr4_ops Q 24 34 (drrC_val gD oD n cD i jp d P PQ 24) x w := by
 (obtain ⟨hF, hi, hn, d0, hp, hr, hB, hdef, u0, u3⟩ := H; have ho : drr4_ops[24]? = some drr4_o24 := rfl; simp only [Array.getD_eq_getD_getElem?] at u0 u3)
 have q22 : Array.getD (Act.tmps x) 32 undef = undef := p22
 have q23 : Array.getD (Act.tmps x) 33 undef = undef := p23
 have q21 : Array.getD (Act.tmps x) 31 undef = .bool true := p21
 simp only [Array.getD_eq_getD_getElem?] at q22 q23 q21
 (have e21 : (drr4_ops[21]?.bind fun x => x.dst) = some 31 := rfl; have g21 := get_someT q21 (fun h => by cases h))
 (refine wpOpIn_stepT hF ho (fun K hK => ?_); clear ho; rw [Oper.semAt_plain Fc _ _ (by intro c h; cases h)]; simp only [drr4_o24]; go_simp)
 exact hK _ _ ⟨_, act_putD x hdef _ _, rfl, Below.refl _ _⟩
theorem drrC_s25 (H : drrC_H Fc gD oD n cD i jp d P PQ df w0 x w) (p24 : drrC_val gD oD n cD i jp d P PQ 24 (x.tmps.getD 34 undef) w) (p21 : drrC_val gD oD n cD i jp d P PQ 21 (x.tmps.getD 31 undef) w) : Stp Fc nC Tryz.prog drr4_ops Q 25 35 (drrC_val gD oD n cD i jp d P PQ 25) x w := by
 (obtain ⟨hF, hi, hn, d0, hp, hr, hB, hdef, u0, u3⟩ := H; have ho : drr4_ops[25]? = some drr4_o25 := rfl; simp only [Array.getD_eq_getD_getElem?] at u0 u3)
 have q24 : Array.getD (Act.tmps x) 34 undef = undef := p24
 have q21 : Array.getD (Act.tmps x) 31 undef = .bool true := p21
 simp only [Array.getD_eq_getD_getElem?] at q24 q21
 (have e21 : (drr4_ops[21]?.bind fun x => x.dst) = some 31 := rfl; have g21 := get_someT q21 (fun h => by cases h))
 (refine wpOpIn_stepT hF ho (fun K hK => ?_); clear ho; rw [Oper.semAt_plain Fc _ _ (by intro c h; cases h)]; simp only [drr4_o25]; go_simp)
 exact hK _ _ ⟨_, act_putD x hdef _ _, rfl, Below.refl _ _⟩
theorem drrC_s26 (H : drrC_H Fc gD oD n cD i jp d P PQ df w0 x w) (p25 : drrC_val gD oD n cD i jp d P PQ 25 (x.tmps.getD 35 undef) w) (p21 : drrC_val gD oD n cD i jp d P PQ 21 (x.tmps.getD 31 undef) w) : Stp Fc nC Tryz.prog drr4_ops Q 26 36 (drrC_val gD oD n cD i jp d P PQ 26) x w := by
 (obtain ⟨hF, hi, hn, d0, hp, hr, hB, hdef, u0, u3⟩ := H; have ho : drr4_ops[26]? = some drr4_o26 := rfl; simp only [Array.getD_eq_getD_getElem?] at u0 u3)
 have q25 : Array.getD (Act.tmps x) 35 undef = undef := p25
 have q21 : Array.getD (Act.tmps x) 31 undef = .bool true := p21
 simp only [Array.getD_eq_getD_getElem?] at q25 q21
 (have e21 : (drr4_ops[21]?.bind fun x => x.dst) = some 31 := rfl; have g21 := get_someT q21 (fun h => by cases h))
 (refine wpOpIn_stepT hF ho (fun K hK => ?_); clear ho; rw [Oper.semAt_plain Fc _ _ (by intro c h; cases h)]; simp only [drr4_o26]; go_simp)
 exact hK _ _ ⟨_, act_putD x hdef _ _, rfl, Below.refl _ _⟩
theorem drrC_s27 (H : drrC_H Fc gD oD n cD i jp d P PQ df w0 x w) (p26 : drrC_val gD oD n cD i jp d P PQ 26 (x.tmps.getD 36 undef) w) (p21 : drrC_val gD oD n cD i jp d P PQ 21 (x.tmps.getD 31 undef) w) : Stp Fc nC Tryz.prog drr4_ops Q 27 37 (drrC_val gD oD n cD i jp d P PQ 27) x w := by
 (obtain ⟨hF, hi, hn, d0, hp, hr, hB, hdef, u0, u3⟩ := H; have ho : drr4_ops[27]? = some drr4_o27 := rfl; simp only [Array.getD_eq_getD_getElem?] at u0 u3)
 have q26 : Array.getD (Act.tmps x) 36 undef = undef := p26
 have q21 : Array.getD (Act.tmps x) 31 undef = .bool true := p21
 simp only [Array.getD_eq_getD_getElem?] at q26 q21
 (have e21 : (drr4_ops[21]?.bind fun x => x.dst) = some 31 := rfl; have g21 := get_someT q21 (fun h => by cases h))
 (refine wpOpIn_stepT hF ho (fun K hK => ?_); clear ho; rw [Oper.semAt_plain Fc _ _ (by intro c h; cases h)]; simp only [drr4_o27]; go_simp)
 exact hK _ _ ⟨_, act_putD x hdef _ _, rfl, Below.refl _ _⟩
theorem drrC_s28 (H : drrC_H Fc gD oD n cD i jp d P PQ df w0 x w) (p21 : drrC_val gD oD n cD i jp d P PQ 21 (x.tmps.getD 31 undef) w) (p27 : drrC_val gD oD n cD i jp d P PQ 27 (x.tmps.getD 37 undef) w) : Stp Fc nC Tryz.prog drr4_ops Q 28 38 (drrC_val gD oD n cD i jp d P PQ 28) x w := by
 (obtain ⟨hF, hi, hn, d0, hp, hr, hB, hdef, u0, u3⟩ := H; have ho : drr4_ops[28]? = some drr4_o28 := rfl; simp only [Array.getD_eq_getD_getElem?] at u0 u3)
 have q21 : Array.getD (Act.tmps x) 31 undef = .bool true := p21
 have q27 : Array.getD (Act.tmps x) 37 undef = undef := p27
 simp only [Array.getD_eq_getD_getElem?] at q21 q27
 (refine wpOpIn_plain ho rfl (oper_inK hF.fn (fun K hK => ?_)); clear ho; rw [Oper.semAt_plain Fc _ _ (by intro c h; cases h)]; simp only [drr4_o28]; go_simp)
 exact hK _ _ ⟨_, act_putD x hdef _ _, rfl, Below.refl _ _⟩
theorem drrC_s29 (H : drrC_H Fc gD oD n cD i jp d P PQ df w0 x w) (p28 : drrC_val gD oD n cD i jp d P PQ 28 (x.tmps.getD 38 undef) w) : Stp Fc nC Tryz.prog drr4_ops Q 29 39 (drrC_val gD oD n cD i jp d P PQ 29) x w := by
 (obtain ⟨hF, hi, hn, d0, hp, hr, hB, hdef, u0, u3⟩ := H; have ho : drr4_ops[29]? = some drr4_o29 := rfl; simp only [Array.getD_eq_getD_getElem?] at u0 u3)
 have q28 : Array.getD (Act.tmps x) 38 undef = .bool true := p28
 simp only [Array.getD_eq_getD_getElem?] at q28
 (refine wpOpIn_plain ho rfl (oper_inK hF.fn (fun K hK => ?_)); clear ho; rw [Oper.semAt_plain Fc _ _ (by intro c h; cases h)]; simp only [drr4_o29]; go_simp)
 exact hK _ _ ⟨_, act_putD x hdef _ _, rfl, Below.refl _ _⟩
theorem drrC_s30 (H : drrC_H Fc gD oD n cD i jp d P PQ df w0 x w) (p29 : drrC_val gD oD n cD i jp d P PQ 29 (x.tmps.getD 39 undef) w) : Stp Fc nC Tryz.prog drr4_ops Q 30 40 (drrC_val gD oD n cD i jp d P PQ 30) x w := by
 (obtain ⟨hF, hi, hn, d0, hp, hr, hB, hdef, u0, u3⟩ := H; have ho : drr4_ops[30]? = some drr4_o30 := rfl; simp only [Array.getD_eq_getD_getElem?] at u0 u3)
 have q29 : Array.getD (Act.tmps x) 39 undef = .bool true := p29
 simp only [Array.getD_eq_getD_getElem?] at q29
 (have e29 : (drr4_ops[29]?.bind fun x => x.dst) = some 39 := rfl; have g29 := get_someT q29 (fun h => by cases h))
 (refine wpOpIn_stepT hF ho (fun K hK => ?_); clear ho; rw [Oper.semAt_plain Fc _ _ (by intro c h; cases h)]; simp only [drr4_o30]; go_simp)
 exact hK _ _ ⟨_, act_putD x hdef _ _, rfl, Below.refl _ _⟩
theorem drrC_s31 (H : drrC_H Fc gD oD n cD i jp d P PQ df w0 x w) (p29 : drrC_val gD oD n cD i jp d P PQ 29 (x.tmps.getD 39 undef) w) : Stp Fc nC Tryz.prog drr4_ops Q 31 41 (drrC_val gD oD n cD i jp d P PQ 31) x w := by
 (obtain ⟨hF, hi, hn, d0, hp, hr, hB, hdef, u0, u3⟩ := H; have ho : drr4_ops[31]? = some drr4_o31 := rfl; simp only [Array.getD_eq_getD_getElem?] at u0 u3)
 have q29 : Array.getD (Act.tmps x) 39 undef = .bool true := p29
 simp only [Array.getD_eq_getD_getElem?] at q29
 (have e29 : (drr4_ops[29]?.bind fun x => x.dst) = some 39 := rfl; have g29 := get_someT q29 (fun h => by cases h))
 (refine wpOpIn_stepT hF ho (fun K hK => ?_); clear ho; rw [Oper.semAt_plain Fc _ _ (by intro c h; cases h)]; simp only [drr4_o31]; go_simp)
 exact hK _ _ ⟨_, act_putD x hdef _ _, rfl, Below.refl _ _⟩
theorem drrC_s32 (H : drrC_H Fc gD oD n cD i jp d P PQ df w0 x w) (p30 : drrC_val gD oD n cD i jp d P PQ 30 (x.tmps.getD 40 undef) w) (p31 : drrC_val gD oD n cD i jp d P PQ 31 (x.tmps.getD 41 undef) w) (p29 : drrC_val gD oD n cD i jp d P PQ 29 (x.tmps.getD 39 undef) w) : Stp Fc nC Tryz.prog drr4_ops Q 32 42 (drrC_val gD oD n cD i jp d P PQ 32) x w := by
 (obtain ⟨hF, hi, hn, d0, hp, hr, hB, hdef, u0, u3⟩ := H; have ho : drr4_ops[32]? = some drr4_o32 := rfl; simp only [Array.getD_eq_getD_getElem?] at u0 u3)
 have q30 : Array.getD (Act.tmps x) 40 undef = undef := p30
 have q31 : Array.getD (Act.tmps x) 41 undef = undef := p31
 have q29 : Array.getD (Act.tmps x) 39 undef = .bool true := p29
 simp only [Array.getD_eq_getD_getElem?] at q30 q31 q29
 (have e29 : (drr4_ops[29]?.bind fun x => x.dst) = some 39 := rfl; have g29 := get_someT q29 (fun h => by cases h))
 (refine wpOpIn_stepT hF ho (fun K hK => ?_); clear ho; rw [Oper.semAt_plain Fc _ _ (by intro c h; cases h)]; simp only [drr4_o32]; go_simp)
 exact hK _ _ ⟨_, act_putD x hdef _ _, rfl, Below.refl _ _⟩
theorem drrC_s33 (H : drrC_H Fc gD oD n cD i jp d P PQ df w0 x w) (p32 : drrC_val gD oD n cD i jp d P PQ 32 (x.tmps.getD 42 undef) w) (p29 : drrC_val gD oD n cD i jp d P PQ 29 (x.tmps.getD 39 undef) w) : Stp Fc nC Tryz.prog drr4_ops Q 33 43 (drrC_val gD oD n cD i jp d P PQ 33) x w := by
 (obtain ⟨hF, hi, hn, d0, hp, hr, hB, hdef, u0, u3⟩ := H; have ho : drr4_ops[33]? = some drr4_o33 := rfl; simp only [Array.getD_eq_getD_getElem?] at u0 u3)
 have q32 : Array.getD (Act.tmps x) 42 undef = undef := p32
 have q29 : Array.getD (Act.tmps x) 39 undef = .bool true := p29
 simp only [Array.getD_eq_getD_getElem?] at q32 q29
 (have e29 : (drr4_ops[29]?.bind fun x => x.dst) = some 39 := rfl; have g29 := get_someT q29 (fun h => by cases h))
 (refine wpOpIn_stepT hF ho (fun K hK => ?_); clear ho; rw [Oper.semAt_plain Fc _ _ (by intro c h; cases h)]; simp only [drr4_o33]; go_simp)
 exact hK _ _ ⟨_, act_putD x hdef _ _, rfl, Below.refl _ _⟩
theorem drrC_s34 (H : drrC_H Fc gD oD n cD i jp d P PQ df w0 x w) (p33 : drrC_val gD oD n cD i jp d P PQ 33 (x.tmps.getD 43 undef) w) (p29 : drrC_val gD oD n cD i jp d P PQ 29 (x.tmps.getD 39 undef) w) : Stp Fc nC Tryz.prog drr4_ops Q 34 44 (drrC_val gD oD n cD i jp d P PQ 34) x w := by
 (obtain ⟨hF, hi, hn, d0, hp, hr, hB, hdef, u0, u3⟩ := H; have ho : drr4_ops[34]? = some drr4_o34 := rfl; simp only [Array.getD_eq_getD_getElem?] at u0 u3)
 have q33 : Array.getD (Act.tmps x) 43 undef = undef := p33
 have q29 : Array.getD (Act.tmps x) 39 undef = .bool true := p29
 simp only [Array.getD_eq_getD_getElem?] at q33 q29
 (have e29 : (drr4_ops[29]?.bind fun x => x.dst) = some 39 := rfl; have g29 := get_someT q29 (fun h => by cases h))
 (refine wpOpIn_stepT hF ho (fun K hK => ?_); clear ho; rw [Oper.semAt_plain Fc _ _ (by intro c h; cases h)]; simp only [drr4_o34]; go_simp)
 exact hK _ _ ⟨_, act_putD x hdef _ _, rfl, Below.refl _ _⟩
theorem drrC_s35 (H : drrC_H Fc gD oD n cD i jp d P PQ df w0 x w) (p34 : drrC_val gD oD n cD i jp d P PQ 34 (x.tmps.getD 44 undef) w) (p29 : drrC_val gD oD n cD i jp d P PQ 29 (x.tmps.getD 39 undef) w) : Stp Fc nC Tryz.prog drr4_ops Q 35 45 (drrC_val gD oD n cD i jp d P PQ 35) x w := by
 (obtain ⟨hF, hi, hn, d0, hp, hr, hB, hdef, u0, u3⟩ := H; have ho : drr4_ops[35]? = some drr4_o35 := rfl; simp only [Array.getD_eq_getD_getElem?] at u0 u3)
 have q34 : Array.getD (Act.tmps x) 44 undef = undef := p34
 have q29 : Array.getD (Act.tmps x) 39 undef = .bool true := p29
 simp only [Array.getD_eq_getD_getElem?] at q34 q29
 (have e29 : (drr4_ops[29]?.bind fun x => x.dst) = some 39 := rfl; have g29 := get_someT q29 (fun h => by cases h))
 (refine wpOpIn_stepT hF ho (fun K hK => ?_); clear ho; rw [Oper.semAt_plain Fc _ _ (by intro c h; cases h)]; simp only [drr4_o35]; go_simp)
 exact hK _ _ ⟨_, act_putD x hdef _ _, rfl, Below.refl _ _⟩
theorem drrC_s36 (H : drrC_H Fc gD oD n cD i jp d P PQ df w0 x w) (p29 : drrC_val gD oD n cD i jp d P PQ 29 (x.tmps.getD 39 undef) w) (p35 : drrC_val gD oD n cD i jp d P PQ 35 (x.tmps.getD 45 undef) w) : Stp Fc nC Tryz.prog drr4_ops Q 36 46 (drrC_val gD oD n cD i jp d P PQ 36) x w := by
 (obtain ⟨hF, hi, hn, d0, hp, hr, hB, hdef, u0, u3⟩ := H; have ho : drr4_ops[36]? = some drr4_o36 := rfl; simp only [Array.getD_eq_getD_getElem?] at u0 u3)
 have q29 : Array.getD (Act.tmps x) 39 undef = .bool true := p29
 have q35 : Array.getD (Act.tmps x) 45 undef = undef := p35
 simp only [Array.getD_eq_getD_getElem?] at q29 q35
 (refine wpOpIn_plain ho rfl (oper_inK hF.fn (fun K hK => ?_)); clear ho; rw [Oper.semAt_plain Fc _ _ (by intro c h; cases h)]; simp only [drr4_o36]; go_simp)
 exact hK _ _ ⟨_, act_putD x hdef _ _, rfl, Below.refl _ _⟩
theorem drrC_s37 (H : drrC_H Fc gD oD n cD i jp d P PQ df w0 x w) (p36 : drrC_val gD oD n cD i jp d P PQ 36 (x.tmps.getD 46 undef) w) : Stp Fc nC Tryz.prog drr4_ops Q 37 47 (drrC_val gD oD n cD i jp d P PQ 37) x w := by
 (obtain ⟨hF, hi, hn, d0, hp, hr, hB, hdef, u0, u3⟩ := H; have ho : drr4_ops[37]? = some drr4_o37 := rfl; simp only [Array.getD_eq_getD_getElem?] at u0 u3)
 have q36 : Array.getD (Act.tmps x) 46 undef = .bool true := p36
 simp only [Array.getD_eq_getD_getElem?] at q36
 (refine wpOpIn_plain ho rfl (oper_inK hF.fn (fun K hK => ?_)); clear ho; rw [Oper.semAt_plain Fc _ _ (by intro c h; cases h)]; simp only [drr4_o37]; go_simp)
 exact hK _ _ ⟨_, act_putD x hdef _ _, rfl, Below.refl _ _⟩
theorem drrC_s38 (H : drrC_H Fc gD oD n cD i jp d P PQ df w0 x w) (p37 : drrC_val gD oD n cD i jp d P PQ 37 (x.tmps.getD 47 undef) w) : Stp Fc nC Tryz.prog drr4_ops Q 38 48 (drrC_val gD oD n cD i jp d P PQ 38) x w := by
 (obtain ⟨hF, hi, hn, d0, hp, hr, hB, hdef, u0, u3⟩ := H; have ho : drr4_ops[38]? = some drr4_o38 := rfl; simp only [Array.getD_eq_getD_getElem?] at u0 u3)
 have q37 : Array.getD (Act.tmps x) 47 undef = .bool true := p37
 simp only [Array.getD_eq_getD_getElem?] at q37
 (have e37 : (drr4_ops[37]?.bind fun x => x.dst) = some 47 := rfl; have g37 := get_someT q37 (fun h => by cases h))
 (refine wpOpIn_stepT hF ho (fun K hK => ?_); clear ho; rw [Oper.semAt_plain Fc _ _ (by intro c h; cases h)]; simp only [drr4_o38]; go_simp)
 exact hK _ _ ⟨_, act_putD x hdef _ _, rfl, Below.refl _ _⟩
theorem drrC_s39 (H : drrC_H Fc gD oD n cD i jp d P PQ df w0 x w) (p38 : drrC_val gD oD n cD i jp d P PQ 38 (x.tmps.getD 48 undef) w) (p37 : drrC_val gD oD n cD i jp d P PQ 37 (x.tmps.getD 47 undef) w) : Stp Fc nC Tryz.prog drr4_ops Q 39 49 (drrC_val gD oD n cD i jp d P PQ 39) x w := by
 (obtain ⟨hF, hi, hn, d0, hp, hr, hB, hdef, u0, u3⟩ := H; have ho : drr4_ops[39]? = some drr4_o39 := rfl; simp only [Array.getD_eq_getD_getElem?] at u0 u3)
 have q38 : Array.getD (Act.tmps x) 48 undef = undef := p38
 have q37 : Array.getD (Act.tmps x) 47 undef = .bool true := p37
 simp only [Array.getD_eq_getD_getElem?] at q38 q37
 (have e37 : (drr4_ops[37]?.bind fun x => x.dst) = some 47 := rfl; have g37 := get_someT q37 (fun h => by cases h))
 (refine wpOpIn_stepT hF ho (fun K hK => ?_); clear ho; rw [Oper.semAt_plain Fc _ _ (by intro c h; cases h)]; simp only [drr4_o39]; go_simp)
 exact hK _ _ ⟨_, act_putD x hdef _ _, rfl, Below.refl _ _⟩
theorem drrC_s40 (H : drrC_H Fc gD oD n cD i jp d P PQ df w0 x w) (p39 : drrC_val gD oD n cD i jp d P PQ 39 (x.tmps.getD 49 undef) w) (p37 : drrC_val gD oD n cD i jp d P PQ 37 (x.tmps.getD 47 undef) w) : Stp Fc nC Tryz.prog drr4_ops Q 40 50 (drrC_val gD oD n cD i jp d P PQ 40) x w := by
 (obtain ⟨hF, hi, hn, d0, hp, hr, hB, hdef, u0, u3⟩ := H; have ho : drr4_ops[40]? = some drr4_o40 := rfl; simp only [Array.getD_eq_getD_getElem?] at u0 u3)
 have q39 : Array.getD (Act.tmps x) 49 undef = undef := p39
 have q37 : Array.getD (Act.tmps x) 47 undef = .bool true := p37
 simp only [Array.getD_eq_getD_getElem?] at q39 q37
 (have e37 : (drr4_ops[37]?.bind fun x => x.dst) = some 47 := rfl; have g37 := get_someT q37 (fun h => by cases h))
 (refine wpOpIn_stepT hF ho (fun K hK => ?_); clear ho; rw [Oper.semAt_plain Fc _ _ (by intro c h; cases h)]; simp only [drr4_o40]; go_simp)
 exact hK _ _ ⟨_, act_putD x hdef _ _, rfl, Below.refl _ _⟩
theorem drrC_s41 (H : drrC_H Fc gD oD n cD i jp d P PQ df w0 x w) (p40 : drrC_val gD oD n cD i jp d P PQ 40 (x.tmps.getD 50 undef) w) : Stp Fc nC Tryz.prog drr4_ops Q 41 51 (drrC_val gD oD n cD i jp d P PQ 41) x w := by
 (obtain ⟨hF, hi, hn, d0, hp, hr, hB, hdef, u0, u3⟩ := H; have ho : drr4_ops[41]? = some drr4_o41 := rfl; simp only [Array.getD_eq_getD_getElem?] at u0 u3)
 have q40 : Array.getD (Act.tmps x) 50 undef = undef := p40
 simp only [Array.getD_eq_getD_getElem?] at q40
 have e40 : (drr4_ops[40]?.bind fun x => x.dst) = some 50 := rfl
 exact op_skipped hF ho rfl e40 q40 ⟨_, rfl, rfl, Below.refl _ _⟩
theorem drrC_s42 (H : drrC_H Fc gD oD n cD i jp d P PQ df w0 x w) (p40 : drrC_val gD oD n cD i jp d P PQ 40 (x.tmps.getD 50 undef) w) : Stp Fc nC Tryz.prog drr4_ops Q 42 52 (drrC_val gD oD n cD i jp d P PQ 42) x w := by
 (obtain ⟨hF, hi, hn, d0, hp, hr, hB, hdef, u0, u3⟩ := H; have ho : drr4_ops[42]? = some drr4_o42 := rfl; simp only [Array.getD_eq_getD_getElem?] at u0 u3)
 have q40 : Array.getD (Act.tmps x) 50 undef = undef := p40
 simp only [Array.getD_eq_getD_getElem?] at q40
 have e40 : (drr4_ops[40]?.bind fun x => x.dst) = some 50 := rfl
 exact op_skipped hF ho rfl e40 q40 ⟨_, rfl, rfl, Below.refl _ _⟩
theorem drrC_s43 (H : drrC_H Fc gD oD n cD i jp d P PQ df w0 x w) (p42 : drrC_val gD oD n cD i jp d P PQ 42 (x.tmps.getD 52 undef) w) (p40 : drrC_val gD oD n cD i jp d P PQ 40 (x.tmps.getD 50 undef) w) : Stp Fc nC Tryz.prog drr4_ops Q 43 53 (drrC_val gD oD n cD i jp d P PQ 43) x w := by
 (obtain ⟨hF, hi, hn, d0, hp, hr, hB, hdef, u0, u3⟩ := H; have ho : drr4_ops[43]? = some drr4_o43 := rfl; simp only [Array.getD_eq_getD_getElem?] at u0 u3)
 have q42 : Array.getD (Act.tmps x) 52 undef = undef := p42
 have q40 : Array.getD (Act.tmps x) 50 undef = undef := p40
 simp only [Array.getD_eq_getD_getElem?] at q42 q40
 have e40 : (drr4_ops[40]?.bind fun x => x.dst) = some 50 := rfl
 exact op_skipped hF ho rfl e40 q40 ⟨_, rfl, rfl, Below.refl _ _⟩
theorem drrC_s44 (H : drrC_H Fc gD oD n cD i jp d P PQ df w0 x w) (p41 : drrC_val gD oD n cD i jp d P PQ 41 (x.tmps.getD 51 undef) w) (p43 : drrC_val gD oD n cD i jp d P PQ 43 (x.tmps.getD 53 undef) w) (p40 : drrC_val gD oD n cD i jp d P PQ 40 (x.tmps.getD 50 undef) w) : Stp Fc nC Tryz.prog drr4_ops Q 44 54 (drrC_val gD oD n cD i jp d P PQ 44) x w := by
 (obtain ⟨hF, hi, hn, d0, hp, hr, hB, hdef, u0, u3⟩ := H; have ho : drr4_ops[44]? = some drr4_o44 := rfl; simp only [Array.getD_eq_getD_getElem?] at u0 u3)
 have q41 : Array.getD (Act.tmps x) 51 undef = undef := p41
 have q43 : Array.getD (Act.tmps x) 53 undef = undef := p43
 have q40 : Array.getD (Act.tmps x) 50 undef = undef := p40
 simp only [Array.getD_eq_getD_getElem?] at q41 q43 q40
 have e40 : (drr4_ops[40]?.bind fun x => x.dst) = some 50 := rfl
 exact op_skipped hF ho rfl e40 q40 ⟨_, rfl, rfl, Below.refl _ _⟩
theorem drrC_s45 (H : drrC_H Fc gD oD n cD i jp d P PQ df w0 x w) (p44 : drrC_val gD oD n cD i jp d P PQ 44 (x.tmps.getD 54 undef) w) (p40 : drrC_val gD oD n cD i jp d P PQ 40 (x.tmps.getD 50 undef) w) : Stp Fc nC Tryz.prog drr4_ops Q 45 55 (drrC_val gD oD n cD i jp d P PQ 45) x w := by
 (obtain ⟨hF, hi, hn, d0, hp, hr, hB, hdef, u0, u3⟩ := H; have ho : drr4_ops[45]? = some drr4_o45 := rfl; simp only [Array.getD_eq_getD_getElem?] at u0 u3)
 have q44 : Array.getD (Act.tmps x) 54 undef = undef := p44
 have q40 : Array.getD (Act.tmps x) 50 undef = undef := p40
 simp only [Array.getD_eq_getD_getElem?] at q44 q40
 have e40 : (drr4_ops[40]?.bind fun x => x.dst) = some 50 := rfl
 exact op_skipped hF ho rfl e40 q40 ⟨_, rfl, rfl, Below.refl _ _⟩
theorem drrC_s46 (H : drrC_H Fc gD oD n cD i jp d P PQ df w0 x w) (p45 : drrC_val gD oD n cD i jp d P PQ 45 (x.tmps.getD 55 undef) w) (p40 : drrC_val gD oD n cD i jp d P PQ 40 (x.tmps.getD 50 undef) w) : Stp Fc nC Tryz.prog drr4_ops Q 46 56 (drrC_val gD oD n cD i jp d P PQ 46) x w := by
 (obtain ⟨hF, hi, hn, d0, hp, hr, hB, hdef, u0, u3⟩ := H; have ho : drr4_ops[46]? = some drr4_o46 := rfl; simp only [Array.getD_eq_getD_getElem?] at u0 u3)
 have q45 : Array.getD (Act.tmps x) 55 undef = undef := p45
 have q40 : Array.getD (Act.tmps x) 50 undef = undef := p40
 simp only [Array.getD_eq_getD_getElem?] at q45 q40
 have e40 : (drr4_ops[40]?.bind fun x => x.dst) = some 50 := rfl
 exact op_skipped hF ho rfl e40 q40 ⟨_, rfl, rfl, Below.refl _ _⟩
theorem drrC_s47 (H : drrC_H Fc gD oD n cD i jp d P PQ df w0 x w) (p40 : drrC_val gD oD n cD i jp d P PQ 40 (x.tmps.getD 50 undef) w) : Stp Fc nC Tryz.prog drr4_ops Q 47 57 (drrC_val gD oD n cD i jp d P PQ 47) x w := by
 (obtain ⟨hF, hi, hn, d0, hp, hr, hB, hdef, u0, u3⟩ := H; have ho : drr4_ops[47]? = some drr4_o47 := rfl; simp only [Array.getD_eq_getD_getElem?] at u0 u3)
 have q40 : Array.getD (Act.tmps x) 50 undef = undef := p40
 simp only [Array.getD_eq_getD_getElem?] at q40
 have e40 : (drr4_ops[40]?.bind fun x => x.dst) = some 50 := rfl
 exact op_skipped hF ho rfl e40 q40 ⟨_, rfl, rfl, Below.refl _ _⟩
theorem drrC_s48 (H : drrC_H Fc gD oD n cD i jp d P PQ df w0 x w) (p40 : drrC_val gD oD n cD i jp d P PQ 40 (x.tmps.getD 50 undef) w) : Stp Fc nC Tryz.prog drr4_ops Q 48 58 (drrC_val gD oD n cD i jp d P PQ 48) x w := by
 (obtain ⟨hF, hi, hn, d0, hp, hr, hB, hdef, u0, u3⟩ := H; have ho : drr4_ops[48]? = some drr4_o48 := rfl; simp only [Array.getD_eq_getD_getElem?] at u0 u3)
 have q40 : Array.getD (Act.tmps x) 50 undef = undef := p40
 simp only [Array.getD_eq_getD_getElem?] at q40
 have e40 : (drr4_ops[40]?.bind fun x => x.dst) = some 50 := rfl
 exact op_skipped hF ho rfl e40 q40 ⟨_, rfl, rfl, Below.refl _ _⟩
theorem drrC_s49 (H : drrC_H Fc gD oD n cD i jp d P PQ df w0 x w) (p47 : drrC_val gD oD n cD i jp d P PQ 47 (x.tmps.getD 57 undef) w) (p48 : drrC_val gD oD n cD i jp d P PQ 48 (x.tmps.getD 58 undef) w) (p40 : drrC_val gD oD n cD i jp d P PQ 40 (x.tmps.getD 50 undef) w) : Stp Fc nC Tryz.prog drr4_ops Q 49 59 (drrC_val gD oD n cD i jp d P PQ 49) x w := by
 (obtain ⟨hF, hi, hn, d0, hp, hr, hB, hdef, u0, u3⟩ := H; have ho : drr4_ops[49]? = some drr4_o49 := rfl; simp only [Array.getD_eq_getD_getElem?] at u0 u3)
 have q47 : Array.getD (Act.tmps x) 57 undef = undef := p47
 have q48 : Array.getD (Act.tmps x) 58 undef = undef := p48
 have q40 : Array.getD (Act.tmps x) 50 undef = undef := p40
 simp only [Array.getD_eq_getD_getElem?] at q47 q48 q40
 have e40 : (drr4_ops[40]?.bind fun x => x.dst) = some 50 := rfl
 exact op_skipped hF ho rfl e40 q40 ⟨_, rfl, rfl, Below.refl _ _⟩
theorem drrC_s50 (H : drrC_H Fc gD oD n cD i jp d P PQ df w0 x w) (p49 : drrC_val gD oD n cD i jp d P PQ 49 (x.tmps.getD 59 undef) w) (p40 : drrC_val gD oD n cD i jp d P PQ 40 (x.tmps.getD 50 undef) w) : Stp Fc nC Tryz.prog drr4_ops Q 50 60 (drrC_val gD oD n cD i jp d P PQ 50) x w := by
 (obtain ⟨hF, hi, hn, d0, hp, hr, hB, hdef, u0, u3⟩ := H; have ho : drr4_ops[50]? = some drr4_o50 := rfl; simp only [Array.getD_eq_getD_getElem?] at u0 u3)
 have q49 : Array.getD (Act.tmps x) 59 undef = undef := p49
 have q40 : Array.getD (Act.tmps x) 50 undef = undef := p40
 simp only [Array.getD_eq_getD_getElem?] at q49 q40
 have e40 : (drr4_ops[40]?.bind fun x => x.dst) = some 50 := rfl
 exact op_skipped hF ho rfl e40 q40 ⟨_, rfl, rfl, Below.refl _ _⟩
theorem drrC_s51 (H : drrC_H Fc gD oD n cD i jp d P PQ df w0 x w) (p50 : drrC_val gD oD n cD i jp d P PQ 50 (x.tmps.getD 60 undef) w) (p40 : drrC_val gD oD n cD i jp d P PQ 40 (x.tmps.getD 50 undef) w) : Stp Fc nC Tryz.prog drr4_ops Q 51 61 (drrC_val gD oD n cD i jp d P PQ 51) x w := by
 (obtain ⟨hF, hi, hn, d0, hp, hr, hB, hdef, u0, u3⟩ := H; have ho : drr4_ops[51]? = some drr4_o51 := rfl; simp only [Array.getD_eq_getD_getElem?] at u0 u3)
 have q50 : Array.getD (Act.tmps x) 60 undef = undef := p50
 have q40 : Array.getD (Act.tmps x) 50 undef = undef := p40
 simp only [Array.getD_eq_getD_getElem?] at q50 q40
 have e40 : (drr4_ops[40]?.bind fun x => x.dst) = some 50 := rfl
 exact op_skipped hF ho rfl e40 q40 ⟨_, rfl, rfl, Below.refl _ _⟩
theorem drrC_s52 (H : drrC_H Fc gD oD n cD i jp d P PQ df w0 x w) (p46 : drrC_val gD oD n cD i jp d P PQ 46 (x.tmps.getD 56 undef) w) (p51 : drrC_val gD oD n cD i jp d P PQ 51 (x.tmps.getD 61 undef) w) (p40 : drrC_val gD oD n cD i jp d P PQ 40 (x.tmps.getD 50 undef) w) : Stp Fc nC Tryz.prog drr4_ops Q 52 62 (drrC_val gD oD n cD i jp d P PQ 52) x w := by
 (obtain ⟨hF, hi, hn, d0, hp, hr, hB, hdef, u0, u3⟩ := H; have ho : drr4_ops[52]? = some drr4_o52 := rfl; simp only [Array.getD_eq_getD_getElem?] at u0 u3)
 have q46 : Array.getD (Act.tmps x) 56 undef = undef := p46
 have q51 : Array.getD (Act.tmps x) 61 undef = undef := p51
 have q40 : Array.getD (Act.tmps x) 50 undef = undef := p40
 simp only [Array.getD_eq_getD_getElem?] at q46 q51 q40
 have e40 : (drr4_ops[40]?.bind fun x => x.dst) = some 50 := rfl
 exact op_skipped hF ho rfl e40 q40 ⟨_, rfl, rfl, Below.refl _ _⟩
theorem drrC_s53 (H : drrC_H Fc gD oD n cD i jp d P PQ df w0 x w) (p40 : drrC_val gD oD n cD i jp d P PQ 40 (x.tmps.getD 50 undef) w) (p52 : drrC_val gD oD n cD i jp d P PQ 52 (x.tmps.getD 62 undef) w) (p37 : drrC_val gD oD n cD i jp d P PQ 37 (x.tmps.getD 47 undef) w) : Stp Fc nC Tryz.prog drr4_ops Q 53 63 (drrC_val gD oD n cD i jp d P PQ 53) x w := by
 (obtain ⟨hF, hi, hn, d0, hp, hr, hB, hdef, u0, u3⟩ := H; have ho : drr4_ops[53]? = some drr4_o53 := rfl; simp only [Array.getD_eq_getD_getElem?] at u0 u3)
 have q40 : Array.getD (Act.tmps x) 50 undef = undef := p40
 have q52 : Array.getD (Act.tmps x) 62 undef = undef := p52
 have q37 : Array.getD (Act.tmps x) 47 undef = .bool true := p37
 simp only [Array.getD_eq_getD_getElem?] at q40 q52 q37
 (have e37 : (drr4_ops[37]?.bind fun x => x.dst) = some 47 := rfl; have g37 := get_someT q37 (fun h => by cases h))
 (refine wpOpIn_stepT hF ho (fun K hK => ?_); clear ho; rw [Oper.semAt_plain Fc _ _ (by intro c h; cases h)]; simp only [drr4_o53]; go_simp)
 exact hK _ _ ⟨_, act_putD x hdef _ _, rfl, Below.refl _ _⟩
theorem drrC_s54 (H : drrC_H Fc gD oD n cD i jp d P PQ df w0 x w) (p37 : drrC_val gD oD n cD i jp d P PQ 37 (x.tmps.getD 47 undef) w) (p53 : drrC_val gD oD n cD i jp d P PQ 53 (x.tmps.getD 63 undef) w) : Stp Fc nC Tryz.prog drr4_ops Q 54 64 (drrC_val gD oD n cD i jp d P PQ 54) x w := by
 (obtain ⟨hF, hi, hn, d0, hp, hr, hB, hdef, u0, u3⟩ := H; have ho : drr4_ops[54]? = some drr4_o54 := rfl; simp only [Array.getD_eq_getD_getElem?] at u0 u3)
 have q37 : Array.getD (Act.tmps x) 47 undef = .bool true := p37
 have q53 : Array.getD (Act.tmps x) 63 undef = undef := p53
 simp only [Array.getD_eq_getD_getElem?] at q37 q53
 (refine wpOpIn_plain ho rfl (oper_inK hF.fn (fun K hK => ?_)); clear ho; rw [Oper.semAt_plain Fc _ _ (by intro c h; cases h)]; simp only [drr4_o54]; go_simp)
 exact hK _ _ ⟨_, act_putD x hdef _ _, rfl, Below.refl _ _⟩
end
section
theorem drrC {Fc : Fence} (hF : Wide Fc) {nC : Nat} (gD oD n cD i jp : Nat) (d : DT) (P PQ : List UInt8) (Q : Exit → Act → World → Prop) (t0 : Array Value) (df : List Deferred) (w0 : World) (ht : t0.size = 68)
  (hs0 : t0.getD 0 undef = .slice (some ⟨gD, oD, none⟩) n cD) (hs3 : t0.getD 3 undef = .int .i64 (i : Nat))
  (hi : i < n) (hn : n ≤ 140737488351232) (d0 : w0.cell? ⟨gD, oD + i * 4, none⟩ = some (by8 P)) (hp : P.length ≤ 1000000) (hr : rightP P = false)
  (hQ : ∀ (vs : Nat → Value) (w : World), Below w0.heap.size w0 w → (vs 64 = .bool true) → Q .normal { tmps := [10, 11, 12, 13, 14, 15, 16, 17, 18, 19, 20, 21, 22, 23, 24, 25, 26, 27, 28, 29, 30, 31, 32, 33, 34, 35, 36, 37, 38, 39, 40, 41, 42, 43, 44, 45, 46, 47, 48, 49, 50, 51, 52, 53, 54, 55, 56, 57, 58, 59, 60, 61, 62, 63, 64].foldl (fun y d => y.setIfInBounds d (vs d)) t0, defers := df } w) :
  (Code.region 4 drr4_ops true).wpIn Fc nC Tryz.prog Q { tmps := t0, defers := df } w0 := by
 refine wpIn_region_tail 55 (by decide) (by kernel_rfl) (fun a b => Below a.heap.size a b) (drrC_val gD oD n cD i jp d P PQ) t0 df w0 (by rw [ht]; kernel_rfl) (by kernel_rfl) (by kernel_rfl) (by kernel_rfl) ((Below.refl _ _).drew) (fun _ _ _ h k => h.trans (k.mono h.size)) (drrC_below gD oD n cD i jp d P PQ) ?_ ?_
 ·intro j o ho hj x w hB hdef hsz hs hdeps
  have hs' : ∀ s, ¬ drr4_mem s → x.tmps.getD s undef = t0.getD s undef := fun s hn => hs s (fun j hj e => hn (by rw [e]; exact drr4_slots j hj))
  have u0 := (hs' 0 (by decide)).trans hs0
  have u3 := (hs' 3 (by decide)).trans hs3
  have H : drrC_H Fc gD oD n cD i jp d P PQ df w0 x w := ⟨hF, hi, hn, d0, hp, hr, hB, hdef, u0, u3⟩
  match j, ho, hj with
  | 0, ho, _ =>
    (have e : o = drr4_o0 := (Option.some.inj ho).symm; subst e)
    exact drrC_s0 H 
  | 1, ho, _ =>
    (have e : o = drr4_o1 := (Option.some.inj ho).symm; subst e)
    exact drrC_s1 H 
  | 2, ho, _ =>
    (have e : o = drr4_o2 := (Option.some.inj ho).symm; subst e)
    exact drrC_s2 H (hdeps ⟨0, .data⟩ (by simp) rfl) (hdeps ⟨1, .data⟩ (by simp) rfl)
  | 3, ho, _ =>
    (have e : o = drr4_o3 := (Option.some.inj ho).symm; subst e)
    exact drrC_s3 H (hdeps ⟨2, .data⟩ (by simp) rfl)
  | 4, ho, _ =>
    (have e : o = drr4_o4 := (Option.some.inj ho).symm; subst e)
    exact drrC_s4 H (hdeps ⟨3, .data⟩ (by simp) rfl)
  | 5, ho, _ =>
    (have e : o = drr4_o5 := (Option.some.inj ho).symm; subst e)
    exact drrC_s5 H (hdeps ⟨4, .data⟩ (by simp) rfl)
  | 6, ho, _ =>
    (have e : o = drr4_o6 := (Option.some.inj ho).symm; subst e)
    exact drrC_s6 H (hdeps ⟨5, .data⟩ (by simp) rfl)
  | 7, ho, _ =>
    (have e : o = drr4_o7 := (Option.some.inj ho).symm; subst e)
    exact drrC_s7 H (hdeps ⟨6, .data⟩ (by simp) rfl)
  | 8, ho, _ =>
    (have e : o = drr4_o8 := (Option.some.inj ho).symm; subst e)
    exact drrC_s8 H (hdeps ⟨7, .guard⟩ (by simp) rfl)
  | 9, ho, _ =>
    (have e : o = drr4_o9 := (Option.some.inj ho).symm; subst e)
    exact drrC_s9 H (hdeps ⟨7, .guard⟩ (by simp) rfl)
  | 10, ho, _ =>
    (have e : o = drr4_o10 := (Option.some.inj ho).symm; subst e)
    exact drrC_s10 H (hdeps ⟨8, .data⟩ (by simp) rfl) (hdeps ⟨9, .data⟩ (by simp) rfl) (hdeps ⟨7, .guard⟩ (by simp) rfl)
  | 11, ho, _ =>
    (have e : o = drr4_o11 := (Option.some.inj ho).symm; subst e)
    exact drrC_s11 H (hdeps ⟨10, .data⟩ (by simp) rfl) (hdeps ⟨7, .guard⟩ (by simp) rfl)
  | 12, ho, _ =>
    (have e : o = drr4_o12 := (Option.some.inj ho).symm; subst e)
    exact drrC_s12 H (hdeps ⟨11, .data⟩ (by simp) rfl) (hdeps ⟨7, .guard⟩ (by simp) rfl)
  | 13, ho, _ =>
    (have e : o = drr4_o13 := (Option.some.inj ho).symm; subst e)
    exact drrC_s13 H (hdeps ⟨7, .guard⟩ (by simp) rfl)
  | 14, ho, _ =>
    (have e : o = drr4_o14 := (Option.some.inj ho).symm; subst e)
    exact drrC_s14 H (hdeps ⟨7, .guard⟩ (by simp) rfl)
  | 15, ho, _ =>
    (have e : o = drr4_o15 := (Option.some.inj ho).symm; subst e)
    exact drrC_s15 H (hdeps ⟨13, .data⟩ (by simp) rfl) (hdeps ⟨14, .data⟩ (by simp) rfl) (hdeps ⟨7, .guard⟩ (by simp) rfl)
  | 16, ho, _ =>
    (have e : o = drr4_o16 := (Option.some.inj ho).symm; subst e)
    exact drrC_s16 H (hdeps ⟨15, .data⟩ (by simp) rfl) (hdeps ⟨7, .guard⟩ (by simp) rfl)
  | 17, ho, _ =>
    (have e : o = drr4_o17 := (Option.some.inj ho).symm; subst e)
    exact drrC_s17 H (hdeps ⟨16, .data⟩ (by simp) rfl) (hdeps ⟨7, .guard⟩ (by simp) rfl)
  | 18, ho, _ =>
    (have e : o = drr4_o18 := (Option.some.inj ho).symm; subst e)
    exact drrC_s18 H (hdeps ⟨17, .data⟩ (by simp) rfl) (hdeps ⟨7, .guard⟩ (by simp) rfl)
  | 19, ho, _ =>
    (have e : o = drr4_o19 := (Option.some.inj ho).symm; subst e)
    exact drrC_s19 H (hdeps ⟨12, .data⟩ (by simp) rfl) (hdeps ⟨18, .data⟩ (by simp) rfl) (hdeps ⟨7, .guard⟩ (by simp) rfl)
  | 20, ho, _ =>
    (have e : o = drr4_o20 := (Option.some.inj ho).symm; subst e)
    exact drrC_s20 H (hdeps ⟨7, .data⟩ (by simp) rfl) (hdeps ⟨19, .data⟩ (by simp) rfl)
  | 21, ho, _ =>
    (have e : o = drr4_o21 := (Option.some.inj ho).symm; subst e)
    exact drrC_s21 H (hdeps ⟨20, .data⟩ (by simp) rfl)
  | 22, ho, _ =>
    (have e : o = drr4_o22 := (Option.some.inj ho).symm; subst e)
    exact drrC_s22 H (hdeps ⟨21, .guard⟩ (by simp) rfl)
  | 23, ho, _ =>
    (have e : o = drr4_o23 := (Option.some.inj ho).symm; subst e)
    exact drrC_s23 H (hdeps ⟨21, .guard⟩ (by simp) rfl)
  | 24, ho, _ =>
    (have e : o = drr4_o24 := (Option.some.inj ho).symm; subst e)
    exact drrC_s24 H (hdeps ⟨22, .data⟩ (by simp) rfl) (hdeps ⟨23, .data⟩ (by simp) rfl) (hdeps ⟨21, .guard⟩ (by simp) rfl)
  | 25, ho, _ =>
    (have e : o = drr4_o25 := (Option.some.inj ho).symm; subst e)
    exact drrC_s25 H (hdeps ⟨24, .data⟩ (by simp) rfl) (hdeps ⟨21, .guard⟩ (by simp) rfl)
  | 26, ho, _ =>
    (have e : o = drr4_o26 := (Option.some.inj ho).symm; subst e)
    exact drrC_s26 H (hdeps ⟨25, .data⟩ (by simp) rfl) (hdeps ⟨21, .guard⟩ (by simp) rfl)
  | 27, ho, _ =>
    (have e : o = drr4_o27 := (Option.some.inj ho).symm; subst e)
    exact drrC_s27 H (hdeps ⟨26, .data⟩ (by simp) rfl) (hdeps ⟨21, .guard⟩ (by simp) rfl)
  | 28, ho, _ =>
    (have e : o = drr4_o28 := (Option.some.inj ho).symm; subst e)
    exact drrC_s28 H (hdeps ⟨21, .data⟩ (by simp) rfl) (hdeps ⟨27, .data⟩ (by simp) rfl)
  | 29, ho, _ =>
    (have e : o = drr4_o29 := (Option.some.inj ho).symm; subst e)
    exact drrC_s29 H (hdeps ⟨28, .data⟩ (by simp) rfl)
  | 30, ho, _ =>
    (have e : o = drr4_o30 := (Option.some.inj ho).symm; subst e)
    exact drrC_s30 H (hdeps ⟨29, .guard⟩ (by simp) rfl)
  | 31, ho, _ =>
    (have e : o = drr4_o31 := (Option.some.inj ho).symm; subst e)
    exact drrC_s31 H (hdeps ⟨29, .guard⟩ (by simp) rfl)
  | 32, ho, _ =>
    (have e : o = drr4_o32 := (Option.some.inj ho).symm; subst e)
    exact drrC_s32 H (hdeps ⟨30, .data⟩ (by simp) rfl) (hdeps ⟨31, .data⟩ (by simp) rfl) (hdeps ⟨29, .guard⟩ (by simp) rfl)
  | 33, ho, _ =>
    (have e : o = drr4_o33 := (Option.some.inj ho).symm; subst e)
    exact drrC_s33 H (hdeps ⟨32, .data⟩ (by simp) rfl) (hdeps ⟨29, .guard⟩ (by simp) rfl)
  | 34, ho, _ =>
    (have e : o = drr4_o34 := (Option.some.inj ho).symm; subst e)
    exact drrC_s34 H (hdeps ⟨33, .data⟩ (by simp) rfl) (hdeps ⟨29, .guard⟩ (by simp) rfl)
  | 35, ho, _ =>
    (have e : o = drr4_o35 := (Option.some.inj ho).symm; subst e)
    exact drrC_s35 H (hdeps ⟨34, .data⟩ (by simp) rfl) (hdeps ⟨29, .guard⟩ (by simp) rfl)
  | 36, ho, _ =>
    (have e : o = drr4_o36 := (Option.some.inj ho).symm; subst e)
    exact drrC_s36 H (hdeps ⟨29, .data⟩ (by simp) rfl) (hdeps ⟨35, .data⟩ (by simp) rfl)
  | 37, ho, _ =>
    (have e : o = drr4_o37 := (Option.some.inj ho).symm; subst e)
    exact drrC_s37 H (hdeps ⟨36, .data⟩ (by simp) rfl)
  | 38, ho, _ =>
    (have e : o = drr4_o38 := (Option.some.inj ho).symm; subst e)
    exact drrC_s38 H (hdeps ⟨37, .guard⟩ (by simp) rfl)
  | 39, ho, _ =>
    (have e : o = drr4_o39 := (Option.some.inj ho).symm; subst e)
    exact drrC_s39 H (hdeps ⟨38, .data⟩ (by simp) rfl) (hdeps ⟨37, .guard⟩ (by simp) rfl)
  | 40, ho, _ =>
    (have e : o = drr4_o40 := (Option.some.inj ho).symm; subst e)
    exact drrC_s40 H (hdeps ⟨39, .data⟩ (by simp) rfl) (hdeps ⟨37, .guard⟩ (by simp) rfl)
  | 41, ho, _ =>
    (have e : o = drr4_o41 := (Option.some.inj ho).symm; subst e)
    exact drrC_s41 H (hdeps ⟨40, .guard⟩ (by simp) rfl)
  | 42, ho, _ =>
    (have e : o = drr4_o42 := (Option.some.inj ho).symm; subst e)
    exact drrC_s42 H (hdeps ⟨40, .guard⟩ (by simp) rfl)
  | 43, ho, _ =>
    (have e : o = drr4_o43 := (Option.some.inj ho).symm; subst e)
    exact drrC_s43 H (hdeps ⟨42, .data⟩ (by simp) rfl) (hdeps ⟨40, .guard⟩ (by simp) rfl)
  | 44, ho, _ =>
    (have e : o = drr4_o44 := (Option.some.inj ho).symm; subst e)
    exact drrC_s44 H (hdeps ⟨41, .data⟩ (by simp) rfl) (hdeps ⟨43, .data⟩ (by simp) rfl) (hdeps ⟨40, .guard⟩ (by simp) rfl)
  | 45, ho, _ =>
    (have e : o = drr4_o45 := (Option.some.inj ho).symm; subst e)
    exact drrC_s45 H (hdeps ⟨44, .data⟩ (by simp) rfl) (hdeps ⟨40, .guard⟩ (by simp) rfl)
  | 46, ho, _ =>
    (have e : o = drr4_o46 := (Option.some.inj ho).symm; subst e)
    exact drrC_s46 H (hdeps ⟨45, .data⟩ (by simp) rfl) (hdeps ⟨40, .guard⟩ (by simp) rfl)
  | 47, ho, _ =>
    (have e : o = drr4_o47 := (Option.some.inj ho).symm; subst e)
    exact drrC_s47 H (hdeps ⟨40, .guard⟩ (by simp) rfl)
  | 48, ho, _ =>
    (have e : o = drr4_o48 := (Option.some.inj ho).symm; subst e)
    exact drrC_s48 H (hdeps ⟨40, .guard⟩ (by simp) rfl)
  | 49, ho, _ =>
    (have e : o = drr4_o49 := (Option.some.inj ho).symm; subst e)
    exact drrC_s49 H (hdeps ⟨47, .data⟩ (by simp) rfl) (hdeps ⟨48, .data⟩ (by simp) rfl) (hdeps ⟨40, .guard⟩ (by simp) rfl)
  | 50, ho, _ =>
    (have e : o = drr4_o50 := (Option.some.inj ho).symm; subst e)
    exact drrC_s50 H (hdeps ⟨49, .data⟩ (by simp) rfl) (hdeps ⟨40, .guard⟩ (by simp) rfl)
  | 51, ho, _ =>
    (have e : o = drr4_o51 := (Option.some.inj ho).symm; subst e)
    exact drrC_s51 H (hdeps ⟨50, .data⟩ (by simp) rfl) (hdeps ⟨40, .guard⟩ (by simp) rfl)
  | 52, ho, _ =>
    (have e : o = drr4_o52 := (Option.some.inj ho).symm; subst e)
    exact drrC_s52 H (hdeps ⟨46, .data⟩ (by simp) rfl) (hdeps ⟨51, .data⟩ (by simp) rfl) (hdeps ⟨40, .guard⟩ (by simp) rfl)
  | 53, ho, _ =>
    (have e : o = drr4_o53 := (Option.some.inj ho).symm; subst e)
    exact drrC_s53 H (hdeps ⟨40, .data⟩ (by simp) rfl) (hdeps ⟨52, .data⟩ (by simp) rfl) (hdeps ⟨37, .guard⟩ (by simp) rfl)
  | 54, ho, _ =>
    (have e : o = drr4_o54 := (Option.some.inj ho).symm; subst e)
    exact drrC_s54 H (hdeps ⟨37, .data⟩ (by simp) rfl) (hdeps ⟨53, .data⟩ (by simp) rfl)
  | k + 55, _, hj => omega
 ·intro x w hB hdef hsz hs hv
  have hx := frame_sets x.tmps t0 hsz [10, 11, 12, 13, 14, 15, 16, 17, 18, 19, 20, 21, 22, 23, 24, 25, 26, 27, 28, 29, 30, 31, 32, 33, 34, 35, 36, 37, 38, 39, 40, 41, 42, 43, 44, 45, 46, 47, 48, 49, 50, 51, 52, 53, 54, 55, 56, 57, 58, 59, 60, 61, 62, 63, 64] (fun s hn => hs s (fun j hj e => hn (by rw [e]; exact drr4_slots j hj)))
  have hq := hQ (fun d => x.tmps.getD d undef) w hB (hv 54 (by decide))
  obtain ⟨T, Df⟩ := x
  dsimp only at hx hdef hq
  subst hdef
  rw [← hx] at hq
  exact hq
end
end Go.Proofs.YtpmldopbjlnknaaGreat
