/-
  SetEnds's drawn regions (written by tools/gen-sends.py).
-/
import Derived.Test.YtmnjicpgdhnimaaDoorSEndsR
namespace Go.Proofs.YtmnjicpgdhnimaaDoor
open Go.RowKit Go.Shelf
set_option linter.unusedVariables false
set_option linter.unusedSimpArgs false

/-- Three bytes, the first again at the end. -/
def triB (x y : Nat) (i : Nat) : Nat := if i = 1 then y else x
theorem tri_byt (w : World) (g : Nat) (hg : g = w.heap.size) (x y : Nat) (hx : x < 256) (hy : y < 256) : Byt (w.alloc (.cells #[.int .u8 (x : Nat), .int .u8 (y : Nat), .int .u8 (x : Nat)] 5)) (some ⟨g, 0, none⟩) 3 (triB x y) := by
  subst hg
  refine ⟨fun i => by unfold triB; split <;> assumption, .inr ⟨_, _, rfl, fun i hi => ?_⟩⟩
  rw [cell_of_row _ _ _ _ _ _ (World.alloc_heap_new w _), Nat.zero_add]
  match i, hi with
  | 0, _ => rfl
  | 1, _ => rfl
  | 2, _ => rfl
abbrev sen10_o0 : Oper := { dst := some 43, op := Op.load 24 (Operand.tmp 4), type := 24, pos := "law.go:69", after := #[], guard := none }
abbrev sen10_o1 : Oper := { dst := some 44, op := Op.move (Operand.tmp 1), type := 25, pos := "law.go:69", after := #[], guard := none }
abbrev sen10_o2 : Oper := { dst := some 45, op := Op.move (Operand.tmp 3), type := 3, pos := "law.go:69", after := #[], guard := none }
abbrev sen10_o3 : Oper := { dst := some 46, op := Op.indexAddr 25 (Operand.tmp 44) (Operand.tmp 45), type := 0, pos := "law.go:69", after := #[{ on := 1, ground := Ground.data }, { on := 2, ground := Ground.data }], guard := none }
abbrev sen10_o4 : Oper := { dst := some 47, op := Op.load 5 (Operand.tmp 46), type := 5, pos := "law.go:69", after := #[{ on := 3, ground := Ground.data }], guard := none }
abbrev sen10_o5 : Oper := { dst := some 48, op := Op.call { callee := Callee.value (Operand.func 9), args := #[Operand.tmp 43, Operand.tmp 47], argTypes := #[24, 5] }, type := 4, pos := "law.go:69", after := #[{ on := 0, ground := Ground.data }, { on := 4, ground := Ground.data }], guard := none }
abbrev sen10_o6 : Oper := { dst := some 49, op := Op.unOp UnOp.not 4 (Operand.tmp 48), type := 4, pos := "law.go:69", after := #[{ on := 5, ground := Ground.data }], guard := none }
abbrev sen10_o7 : Oper := { dst := some 50, op := Op.move (Operand.tmp 49), type := 4, pos := "law.go:69", after := #[{ on := 6, ground := Ground.data }, { on := 5, ground := Ground.chain }], guard := none }
abbrev sen10_o8 : Oper := { dst := some 51, op := Op.load 24 (Operand.tmp 4), type := 24, pos := "law.go:69", after := #[{ on := 7, ground := Ground.guard }], guard := some (7, false) }
abbrev sen10_o9 : Oper := { dst := some 52, op := Op.call { callee := Callee.value (Operand.func 22), args := #[Operand.tmp 51], argTypes := #[24] }, type := 24, pos := "law.go:69", after := #[{ on := 8, ground := Ground.data }, { on := 7, ground := Ground.chain }, { on := 7, ground := Ground.guard }], guard := some (7, false) }
abbrev sen10_o10 : Oper := { dst := some 53, op := Op.move (Operand.tmp 1), type := 25, pos := "law.go:69", after := #[{ on := 7, ground := Ground.guard }], guard := some (7, false) }
abbrev sen10_o11 : Oper := { dst := some 54, op := Op.move (Operand.tmp 2), type := 3, pos := "law.go:69", after := #[{ on := 7, ground := Ground.guard }], guard := some (7, false) }
abbrev sen10_o12 : Oper := { dst := some 55, op := Op.indexAddr 25 (Operand.tmp 53) (Operand.tmp 54), type := 0, pos := "law.go:69", after := #[{ on := 10, ground := Ground.data }, { on := 11, ground := Ground.data }, { on := 7, ground := Ground.guard }], guard := some (7, false) }
abbrev sen10_o13 : Oper := { dst := some 56, op := Op.load 5 (Operand.tmp 55), type := 5, pos := "law.go:69", after := #[{ on := 12, ground := Ground.data }, { on := 7, ground := Ground.guard }], guard := some (7, false) }
abbrev sen10_o14 : Oper := { dst := some 57, op := Op.call { callee := Callee.value (Operand.func 9), args := #[Operand.tmp 52, Operand.tmp 56], argTypes := #[24, 5] }, type := 4, pos := "law.go:69", after := #[{ on := 9, ground := Ground.data }, { on := 13, ground := Ground.data }, { on := 9, ground := Ground.chain }, { on := 7, ground := Ground.guard }], guard := some (7, false) }
abbrev sen10_o15 : Oper := { dst := some 58, op := Op.unOp UnOp.not 4 (Operand.tmp 57), type := 4, pos := "law.go:69", after := #[{ on := 14, ground := Ground.data }, { on := 7, ground := Ground.guard }], guard := some (7, false) }
abbrev sen10_o16 : Oper := { dst := some 59, op := Op.pick (Operand.tmp 50) (Operand.const (Value.bool true)) (Operand.tmp 58), type := 4, pos := "law.go:69", after := #[{ on := 7, ground := Ground.data }, { on := 15, ground := Ground.data }], guard := none }
abbrev sen10_o17 : Oper := { dst := some 60, op := Op.move (Operand.tmp 59), type := 4, pos := "law.go:69", after := #[{ on := 16, ground := Ground.data }, { on := 14, ground := Ground.chain }], guard := none }
abbrev sen10_o18 : Oper := { dst := some 61, op := Op.move (Operand.tmp 1), type := 25, pos := "law.go:69", after := #[{ on := 17, ground := Ground.guard }], guard := some (17, false) }
abbrev sen10_o19 : Oper := { dst := some 62, op := Op.move (Operand.tmp 2), type := 3, pos := "law.go:69", after := #[{ on := 17, ground := Ground.guard }], guard := some (17, false) }
abbrev sen10_o20 : Oper := { dst := some 63, op := Op.indexAddr 25 (Operand.tmp 61) (Operand.tmp 62), type := 0, pos := "law.go:69", after := #[{ on := 18, ground := Ground.data }, { on := 19, ground := Ground.data }, { on := 17, ground := Ground.guard }], guard := some (17, false) }
abbrev sen10_o21 : Oper := { dst := some 64, op := Op.load 5 (Operand.tmp 63), type := 5, pos := "law.go:69", after := #[{ on := 20, ground := Ground.data }, { on := 17, ground := Ground.guard }], guard := some (17, false) }
abbrev sen10_o22 : Oper := { dst := some 65, op := Op.move (Operand.tmp 1), type := 25, pos := "law.go:69", after := #[{ on := 17, ground := Ground.guard }], guard := some (17, false) }
abbrev sen10_o23 : Oper := { dst := some 66, op := Op.move (Operand.tmp 3), type := 3, pos := "law.go:69", after := #[{ on := 17, ground := Ground.guard }], guard := some (17, false) }
abbrev sen10_o24 : Oper := { dst := some 67, op := Op.indexAddr 25 (Operand.tmp 65) (Operand.tmp 66), type := 0, pos := "law.go:69", after := #[{ on := 22, ground := Ground.data }, { on := 23, ground := Ground.data }, { on := 17, ground := Ground.guard }], guard := some (17, false) }
abbrev sen10_o25 : Oper := { dst := some 68, op := Op.load 5 (Operand.tmp 67), type := 5, pos := "law.go:69", after := #[{ on := 24, ground := Ground.data }, { on := 17, ground := Ground.guard }], guard := some (17, false) }
abbrev sen10_o26 : Oper := { dst := some 69, op := Op.move (Operand.tmp 1), type := 25, pos := "law.go:69", after := #[{ on := 17, ground := Ground.guard }], guard := some (17, false) }
abbrev sen10_o27 : Oper := { dst := some 70, op := Op.move (Operand.tmp 2), type := 3, pos := "law.go:69", after := #[{ on := 17, ground := Ground.guard }], guard := some (17, false) }
abbrev sen10_o28 : Oper := { dst := some 71, op := Op.indexAddr 25 (Operand.tmp 69) (Operand.tmp 70), type := 0, pos := "law.go:69", after := #[{ on := 26, ground := Ground.data }, { on := 27, ground := Ground.data }, { on := 17, ground := Ground.guard }], guard := some (17, false) }
abbrev sen10_o29 : Oper := { dst := some 72, op := Op.load 5 (Operand.tmp 71), type := 5, pos := "law.go:69", after := #[{ on := 28, ground := Ground.data }, { on := 17, ground := Ground.guard }], guard := some (17, false) }
abbrev sen10_o30 : Oper := { dst := some 73, op := Op.buildSlice 25 3 #[(0, Operand.tmp 64), (1, Operand.tmp 68), (2, Operand.tmp 72)], type := 25, pos := "law.go:69", after := #[{ on := 21, ground := Ground.data }, { on := 25, ground := Ground.data }, { on := 29, ground := Ground.data }, { on := 17, ground := Ground.guard }], guard := some (17, false) }
abbrev sen10_o31 : Oper := { dst := some 74, op := Op.move (Operand.tmp 1), type := 25, pos := "law.go:69", after := #[{ on := 17, ground := Ground.guard }], guard := some (17, false) }
abbrev sen10_o32 : Oper := { dst := some 75, op := Op.move (Operand.tmp 2), type := 3, pos := "law.go:69", after := #[{ on := 17, ground := Ground.guard }], guard := some (17, false) }
abbrev sen10_o33 : Oper := { dst := some 76, op := Op.indexAddr 25 (Operand.tmp 74) (Operand.tmp 75), type := 0, pos := "law.go:69", after := #[{ on := 31, ground := Ground.data }, { on := 32, ground := Ground.data }, { on := 17, ground := Ground.guard }], guard := some (17, false) }
abbrev sen10_o34 : Oper := { dst := some 77, op := Op.load 5 (Operand.tmp 76), type := 5, pos := "law.go:69", after := #[{ on := 33, ground := Ground.data }, { on := 17, ground := Ground.guard }], guard := some (17, false) }
abbrev sen10_o35 : Oper := { dst := some 78, op := Op.move (Operand.tmp 1), type := 25, pos := "law.go:69", after := #[{ on := 17, ground := Ground.guard }], guard := some (17, false) }
abbrev sen10_o36 : Oper := { dst := some 79, op := Op.move (Operand.tmp 3), type := 3, pos := "law.go:69", after := #[{ on := 17, ground := Ground.guard }], guard := some (17, false) }
abbrev sen10_o37 : Oper := { dst := some 80, op := Op.indexAddr 25 (Operand.tmp 78) (Operand.tmp 79), type := 0, pos := "law.go:69", after := #[{ on := 35, ground := Ground.data }, { on := 36, ground := Ground.data }, { on := 17, ground := Ground.guard }], guard := some (17, false) }
abbrev sen10_o38 : Oper := { dst := some 81, op := Op.load 5 (Operand.tmp 80), type := 5, pos := "law.go:69", after := #[{ on := 37, ground := Ground.data }, { on := 17, ground := Ground.guard }], guard := some (17, false) }
abbrev sen10_o39 : Oper := { dst := some 82, op := Op.load 24 (Operand.tmp 4), type := 24, pos := "law.go:69", after := #[{ on := 17, ground := Ground.guard }], guard := some (17, false) }
abbrev sen10_o40 : Oper := { dst := some 83, op := Op.load 24 (Operand.tmp 5), type := 24, pos := "law.go:69", after := #[{ on := 17, ground := Ground.guard }], guard := some (17, false) }
abbrev sen10_o41 : Oper := { dst := some 84, op := Op.buildSlice 31 2 #[(0, Operand.tmp 82), (1, Operand.tmp 83)], type := 31, pos := "law.go:69", after := #[{ on := 39, ground := Ground.data }, { on := 40, ground := Ground.data }, { on := 17, ground := Ground.guard }], guard := some (17, false) }
abbrev sen10_o42 : Oper := { dst := some 85, op := Op.call { callee := Callee.value (Operand.func 4), args := #[Operand.tmp 73, Operand.tmp 77, Operand.tmp 81, Operand.tmp 84], argTypes := #[25, 5, 5, 31] }, type := 4, pos := "law.go:69", after := #[{ on := 30, ground := Ground.data }, { on := 34, ground := Ground.data }, { on := 38, ground := Ground.data }, { on := 41, ground := Ground.data }, { on := 17, ground := Ground.chain }, { on := 17, ground := Ground.guard }], guard := some (17, false) }
abbrev sen10_o43 : Oper := { dst := some 86, op := Op.unOp UnOp.not 4 (Operand.tmp 85), type := 4, pos := "law.go:69", after := #[{ on := 42, ground := Ground.data }, { on := 17, ground := Ground.guard }], guard := some (17, false) }
abbrev sen10_o44 : Oper := { dst := some 87, op := Op.pick (Operand.tmp 60) (Operand.const (Value.bool true)) (Operand.tmp 86), type := 4, pos := "law.go:69", after := #[{ on := 17, ground := Ground.data }, { on := 43, ground := Ground.data }], guard := none }
def sen10_ops : Array Oper := #[sen10_o0, sen10_o1, sen10_o2, sen10_o3, sen10_o4, sen10_o5, sen10_o6, sen10_o7, sen10_o8, sen10_o9, sen10_o10, sen10_o11, sen10_o12, sen10_o13, sen10_o14, sen10_o15, sen10_o16, sen10_o17, sen10_o18, sen10_o19, sen10_o20, sen10_o21, sen10_o22, sen10_o23, sen10_o24, sen10_o25, sen10_o26, sen10_o27, sen10_o28, sen10_o29, sen10_o30, sen10_o31, sen10_o32, sen10_o33, sen10_o34, sen10_o35, sen10_o36, sen10_o37, sen10_o38, sen10_o39, sen10_o40, sen10_o41, sen10_o42, sen10_o43, sen10_o44]
abbrev sen10_mem (s : Nat) : Prop := s ∈ [43, 44, 45, 46, 47, 48, 49, 50, 51, 52, 53, 54, 55, 56, 57, 58, 59, 60, 61, 62, 63, 64, 65, 66, 67, 68, 69, 70, 71, 72, 73, 74, 75, 76, 77, 78, 79, 80, 81, 82, 83, 84, 85, 86, 87]
set_option maxRecDepth 100000 in
theorem sen10_slots : ∀ j, j < 45 → sen10_mem (slotOf sen10_ops j) := by
  intro j hj
  match j, hj with
  | 0, _ => exact (by decide : sen10_mem 43)
  | 1, _ => exact (by decide : sen10_mem 44)
  | 2, _ => exact (by decide : sen10_mem 45)
  | 3, _ => exact (by decide : sen10_mem 46)
  | 4, _ => exact (by decide : sen10_mem 47)
  | 5, _ => exact (by decide : sen10_mem 48)
  | 6, _ => exact (by decide : sen10_mem 49)
  | 7, _ => exact (by decide : sen10_mem 50)
  | 8, _ => exact (by decide : sen10_mem 51)
  | 9, _ => exact (by decide : sen10_mem 52)
  | 10, _ => exact (by decide : sen10_mem 53)
  | 11, _ => exact (by decide : sen10_mem 54)
  | 12, _ => exact (by decide : sen10_mem 55)
  | 13, _ => exact (by decide : sen10_mem 56)
  | 14, _ => exact (by decide : sen10_mem 57)
  | 15, _ => exact (by decide : sen10_mem 58)
  | 16, _ => exact (by decide : sen10_mem 59)
  | 17, _ => exact (by decide : sen10_mem 60)
  | 18, _ => exact (by decide : sen10_mem 61)
  | 19, _ => exact (by decide : sen10_mem 62)
  | 20, _ => exact (by decide : sen10_mem 63)
  | 21, _ => exact (by decide : sen10_mem 64)
  | 22, _ => exact (by decide : sen10_mem 65)
  | 23, _ => exact (by decide : sen10_mem 66)
  | 24, _ => exact (by decide : sen10_mem 67)
  | 25, _ => exact (by decide : sen10_mem 68)
  | 26, _ => exact (by decide : sen10_mem 69)
  | 27, _ => exact (by decide : sen10_mem 70)
  | 28, _ => exact (by decide : sen10_mem 71)
  | 29, _ => exact (by decide : sen10_mem 72)
  | 30, _ => exact (by decide : sen10_mem 73)
  | 31, _ => exact (by decide : sen10_mem 74)
  | 32, _ => exact (by decide : sen10_mem 75)
  | 33, _ => exact (by decide : sen10_mem 76)
  | 34, _ => exact (by decide : sen10_mem 77)
  | 35, _ => exact (by decide : sen10_mem 78)
  | 36, _ => exact (by decide : sen10_mem 79)
  | 37, _ => exact (by decide : sen10_mem 80)
  | 38, _ => exact (by decide : sen10_mem 81)
  | 39, _ => exact (by decide : sen10_mem 82)
  | 40, _ => exact (by decide : sen10_mem 83)
  | 41, _ => exact (by decide : sen10_mem 84)
  | 42, _ => exact (by decide : sen10_mem 85)
  | 43, _ => exact (by decide : sen10_mem 86)
  | 44, _ => exact (by decide : sen10_mem 87)
  | k + 45, hj => omega
def sen10_val (gE i k r xa ya ua : Nat) (b4 b5 : Nat) (A B : Nat → Bool) : Nat → Value → World → Prop
  | 0, v, w => v = sv A
  | 1, v, w => v = .slice (some ⟨gE, 0, none⟩) 22 22
  | 2, v, w => v = .int .i64 (k : Nat)
  | 3, v, w => v = .pointer (some ⟨gE, k, none⟩)
  | 4, v, w => v = .int .u8 (ya : Nat)
  | 5, v, w => v = .bool true
  | 6, v, w => v = .bool false
  | 7, v, w => v = .bool false
  | 8, v, w => v = sv A
  | 9, v, w => v = sv (fun b => !A b)
  | 10, v, w => v = .slice (some ⟨gE, 0, none⟩) 22 22
  | 11, v, w => v = .int .i64 (i : Nat)
  | 12, v, w => v = .pointer (some ⟨gE, i, none⟩)
  | 13, v, w => v = .int .u8 (xa : Nat)
  | 14, v, w => v = .bool true
  | 15, v, w => v = .bool false
  | 16, v, w => v = .bool false
  | 17, v, w => v = .bool false
  | 18, v, w => v = .slice (some ⟨gE, 0, none⟩) 22 22
  | 19, v, w => v = .int .i64 (i : Nat)
  | 20, v, w => v = .pointer (some ⟨gE, i, none⟩)
  | 21, v, w => v = .int .u8 (xa : Nat)
  | 22, v, w => v = .slice (some ⟨gE, 0, none⟩) 22 22
  | 23, v, w => v = .int .i64 (k : Nat)
  | 24, v, w => v = .pointer (some ⟨gE, k, none⟩)
  | 25, v, w => v = .int .u8 (ya : Nat)
  | 26, v, w => v = .slice (some ⟨gE, 0, none⟩) 22 22
  | 27, v, w => v = .int .i64 (i : Nat)
  | 28, v, w => v = .pointer (some ⟨gE, i, none⟩)
  | 29, v, w => v = .int .u8 (xa : Nat)
  | 30, v, w => ∃ g, v = .slice (some ⟨g, 0, none⟩) 3 3 ∧ Byt w (some ⟨g, 0, none⟩) 3 (triB xa ya)
  | 31, v, w => v = .slice (some ⟨gE, 0, none⟩) 22 22
  | 32, v, w => v = .int .i64 (i : Nat)
  | 33, v, w => v = .pointer (some ⟨gE, i, none⟩)
  | 34, v, w => v = .int .u8 (xa : Nat)
  | 35, v, w => v = .slice (some ⟨gE, 0, none⟩) 22 22
  | 36, v, w => v = .int .i64 (k : Nat)
  | 37, v, w => v = .pointer (some ⟨gE, k, none⟩)
  | 38, v, w => v = .int .u8 (ya : Nat)
  | 39, v, w => v = sv A
  | 40, v, w => v = sv B
  | 41, v, w => ∃ g, v = .slice (some ⟨g, 0, none⟩) 2 2 ∧ Sets w (some ⟨g, 0, none⟩) 2 (two A B)
  | 42, v, w => v = .bool true
  | 43, v, w => v = .bool false
  | 44, v, w => v = .bool false
  | _, _, _ => True
theorem sen10_below (gE i k r xa ya ua : Nat) (b4 b5 : Nat) (A B : Nat → Bool) (w w' : World) (hb : Below w.heap.size w w') : ∀ j v, sen10_val gE i k r xa ya ua b4 b5 A B j v w → sen10_val gE i k r xa ya ua b4 b5 A B j v w' := by
  intro j v h
  match j, h with
  | 0, h => exact h
  | 1, h => exact h
  | 2, h => exact h
  | 3, h => exact h
  | 4, h => exact h
  | 5, h => exact h
  | 6, h => exact h
  | 7, h => exact h
  | 8, h => exact h
  | 9, h => exact h
  | 10, h => exact h
  | 11, h => exact h
  | 12, h => exact h
  | 13, h => exact h
  | 14, h => exact h
  | 15, h => exact h
  | 16, h => exact h
  | 17, h => exact h
  | 18, h => exact h
  | 19, h => exact h
  | 20, h => exact h
  | 21, h => exact h
  | 22, h => exact h
  | 23, h => exact h
  | 24, h => exact h
  | 25, h => exact h
  | 26, h => exact h
  | 27, h => exact h
  | 28, h => exact h
  | 29, h => exact h
  | 30, h => obtain ⟨g, h1, h2⟩ := h; exact ⟨g, h1, h2.below hb⟩
  | 31, h => exact h
  | 32, h => exact h
  | 33, h => exact h
  | 34, h => exact h
  | 35, h => exact h
  | 36, h => exact h
  | 37, h => exact h
  | 38, h => exact h
  | 39, h => exact h
  | 40, h => exact h
  | 41, h => obtain ⟨g, h1, h2⟩ := h; exact ⟨g, h1, h2.below hb⟩
  | 42, h => exact h
  | 43, h => exact h
  | 44, h => exact h
  | _ + 45, h => exact h
set_option maxRecDepth 100000 in
set_option maxHeartbeats 2000000 in
theorem sen10_s0 {Fc : Fence} (hF : Wide Fc) {nC : Nat} (gE i k r xa ya ua : Nat) (b4 b5 : Nat) (A B : Nat → Bool) (Q : Exit → Act → World → Prop) (df : List Deferred) (w0 : World)
    (hh : Hid (i < 22 ∧ k < 22 ∧ r < 22 ∧ xa < 256 ∧ ya < 256 ∧ ua < 256))
    (cx : ∀ W, Below w0.heap.size w0 W → W.cell? ⟨gE, i, none⟩ = some (.int .u8 (xa : Nat)))
    (cy : ∀ W, Below w0.heap.size w0 W → W.cell? ⟨gE, k, none⟩ = some (.int .u8 (ya : Nat)))
    (cu : ∀ W, Below w0.heap.size w0 W → W.cell? ⟨gE, r, none⟩ = some (.int .u8 (ua : Nat)))
    (h4 : SBox w0 b4 A) (h5 : SBox w0 b5 B) (hT : Tab w0)
    (x : Act) (w : World) (hB : Below w0.heap.size w0 w) (hdef : x.defers = df) (u1 : x.tmps.getD 1 undef = .slice (some ⟨gE, 0, none⟩) 22 22) (u2 : x.tmps.getD 2 undef = .int .i64 (i : Nat)) (u3 : x.tmps.getD 3 undef = .int .i64 (k : Nat)) (u4 : x.tmps.getD 4 undef = .pointer (some ⟨b4, 0, none⟩)) (u5 : x.tmps.getD 5 undef = .pointer (some ⟨b5, 0, none⟩))
    : wpOpIn Fc nC Tryd.prog sen10_ops Q 0 (fun a' w' => ∃ v, a' = x.put (some 43) v ∧ (v = sv A) ∧ Below w.heap.size w w') x w := by
  have ho : sen10_ops[0]? = some sen10_o0 := rfl
  simp only [Array.getD_eq_getD_getElem?] at u1 u2 u3 u4 u5
  have hsb := h4.below hB h4.lt
  have c0 := hsb.cell 0 (by omega)
  have c1 := hsb.cell 1 (by omega)
  have c2 := hsb.cell 2 (by omega)
  have c3 := hsb.cell 3 (by omega)
  refine wpOpIn_plain ho rfl (oper_inK hF.fn (fun K hK => ?_))
  clear ho
  rw [Oper.semAt_plain Fc _ _ (by intro c h; cases h)]
  simp only [sen10_o0]
  go_simp
  exact hK _ _ ⟨_, act_putD x hdef _ _, rfl, Below.refl _ _⟩
set_option maxRecDepth 100000 in
set_option maxHeartbeats 2000000 in
theorem sen10_s1 {Fc : Fence} (hF : Wide Fc) {nC : Nat} (gE i k r xa ya ua : Nat) (b4 b5 : Nat) (A B : Nat → Bool) (Q : Exit → Act → World → Prop) (df : List Deferred) (w0 : World)
    (hh : Hid (i < 22 ∧ k < 22 ∧ r < 22 ∧ xa < 256 ∧ ya < 256 ∧ ua < 256))
    (cx : ∀ W, Below w0.heap.size w0 W → W.cell? ⟨gE, i, none⟩ = some (.int .u8 (xa : Nat)))
    (cy : ∀ W, Below w0.heap.size w0 W → W.cell? ⟨gE, k, none⟩ = some (.int .u8 (ya : Nat)))
    (cu : ∀ W, Below w0.heap.size w0 W → W.cell? ⟨gE, r, none⟩ = some (.int .u8 (ua : Nat)))
    (h4 : SBox w0 b4 A) (h5 : SBox w0 b5 B) (hT : Tab w0)
    (x : Act) (w : World) (hB : Below w0.heap.size w0 w) (hdef : x.defers = df) (u1 : x.tmps.getD 1 undef = .slice (some ⟨gE, 0, none⟩) 22 22) (u2 : x.tmps.getD 2 undef = .int .i64 (i : Nat)) (u3 : x.tmps.getD 3 undef = .int .i64 (k : Nat)) (u4 : x.tmps.getD 4 undef = .pointer (some ⟨b4, 0, none⟩)) (u5 : x.tmps.getD 5 undef = .pointer (some ⟨b5, 0, none⟩))
    : wpOpIn Fc nC Tryd.prog sen10_ops Q 1 (fun a' w' => ∃ v, a' = x.put (some 44) v ∧ (v = .slice (some ⟨gE, 0, none⟩) 22 22) ∧ Below w.heap.size w w') x w := by
  have ho : sen10_ops[1]? = some sen10_o1 := rfl
  simp only [Array.getD_eq_getD_getElem?] at u1 u2 u3 u4 u5
  refine wpOpIn_plain ho rfl (oper_inK hF.fn (fun K hK => ?_))
  clear ho
  rw [Oper.semAt_plain Fc _ _ (by intro c h; cases h)]
  simp only [sen10_o1]
  go_simp
  exact hK _ _ ⟨_, act_putD x hdef _ _, rfl, Below.refl _ _⟩
set_option maxRecDepth 100000 in
set_option maxHeartbeats 2000000 in
theorem sen10_s2 {Fc : Fence} (hF : Wide Fc) {nC : Nat} (gE i k r xa ya ua : Nat) (b4 b5 : Nat) (A B : Nat → Bool) (Q : Exit → Act → World → Prop) (df : List Deferred) (w0 : World)
    (hh : Hid (i < 22 ∧ k < 22 ∧ r < 22 ∧ xa < 256 ∧ ya < 256 ∧ ua < 256))
    (cx : ∀ W, Below w0.heap.size w0 W → W.cell? ⟨gE, i, none⟩ = some (.int .u8 (xa : Nat)))
    (cy : ∀ W, Below w0.heap.size w0 W → W.cell? ⟨gE, k, none⟩ = some (.int .u8 (ya : Nat)))
    (cu : ∀ W, Below w0.heap.size w0 W → W.cell? ⟨gE, r, none⟩ = some (.int .u8 (ua : Nat)))
    (h4 : SBox w0 b4 A) (h5 : SBox w0 b5 B) (hT : Tab w0)
    (x : Act) (w : World) (hB : Below w0.heap.size w0 w) (hdef : x.defers = df) (u1 : x.tmps.getD 1 undef = .slice (some ⟨gE, 0, none⟩) 22 22) (u2 : x.tmps.getD 2 undef = .int .i64 (i : Nat)) (u3 : x.tmps.getD 3 undef = .int .i64 (k : Nat)) (u4 : x.tmps.getD 4 undef = .pointer (some ⟨b4, 0, none⟩)) (u5 : x.tmps.getD 5 undef = .pointer (some ⟨b5, 0, none⟩))
    : wpOpIn Fc nC Tryd.prog sen10_ops Q 2 (fun a' w' => ∃ v, a' = x.put (some 45) v ∧ (v = .int .i64 (k : Nat)) ∧ Below w.heap.size w w') x w := by
  have ho : sen10_ops[2]? = some sen10_o2 := rfl
  simp only [Array.getD_eq_getD_getElem?] at u1 u2 u3 u4 u5
  refine wpOpIn_plain ho rfl (oper_inK hF.fn (fun K hK => ?_))
  clear ho
  rw [Oper.semAt_plain Fc _ _ (by intro c h; cases h)]
  simp only [sen10_o2]
  go_simp
  exact hK _ _ ⟨_, act_putD x hdef _ _, rfl, Below.refl _ _⟩
set_option maxRecDepth 100000 in
set_option maxHeartbeats 2000000 in
theorem sen10_s3 {Fc : Fence} (hF : Wide Fc) {nC : Nat} (gE i k r xa ya ua : Nat) (b4 b5 : Nat) (A B : Nat → Bool) (Q : Exit → Act → World → Prop) (df : List Deferred) (w0 : World)
    (hh : Hid (i < 22 ∧ k < 22 ∧ r < 22 ∧ xa < 256 ∧ ya < 256 ∧ ua < 256))
    (cx : ∀ W, Below w0.heap.size w0 W → W.cell? ⟨gE, i, none⟩ = some (.int .u8 (xa : Nat)))
    (cy : ∀ W, Below w0.heap.size w0 W → W.cell? ⟨gE, k, none⟩ = some (.int .u8 (ya : Nat)))
    (cu : ∀ W, Below w0.heap.size w0 W → W.cell? ⟨gE, r, none⟩ = some (.int .u8 (ua : Nat)))
    (h4 : SBox w0 b4 A) (h5 : SBox w0 b5 B) (hT : Tab w0)
    (x : Act) (w : World) (hB : Below w0.heap.size w0 w) (hdef : x.defers = df) (u1 : x.tmps.getD 1 undef = .slice (some ⟨gE, 0, none⟩) 22 22) (u2 : x.tmps.getD 2 undef = .int .i64 (i : Nat)) (u3 : x.tmps.getD 3 undef = .int .i64 (k : Nat)) (u4 : x.tmps.getD 4 undef = .pointer (some ⟨b4, 0, none⟩)) (u5 : x.tmps.getD 5 undef = .pointer (some ⟨b5, 0, none⟩))
    (p1 : sen10_val gE i k r xa ya ua b4 b5 A B 1 (x.tmps.getD 44 undef) w)
    (p2 : sen10_val gE i k r xa ya ua b4 b5 A B 2 (x.tmps.getD 45 undef) w)
    : wpOpIn Fc nC Tryd.prog sen10_ops Q 3 (fun a' w' => ∃ v, a' = x.put (some 46) v ∧ (v = .pointer (some ⟨gE, k, none⟩)) ∧ Below w.heap.size w w') x w := by
  have ho : sen10_ops[3]? = some sen10_o3 := rfl
  simp only [Array.getD_eq_getD_getElem?] at u1 u2 u3 u4 u5
  have q1 : x.tmps.getD 44 undef = .slice (some ⟨gE, 0, none⟩) 22 22 := p1
  have q2 : x.tmps.getD 45 undef = .int .i64 (k : Nat) := p2
  simp only [Array.getD_eq_getD_getElem?] at q1 q2
  have i0 : (0 : Int) ≤ (k : Int) := by omega
  have i1 : (k : Int) < 22 := by have := hh.out; omega
  refine wpOpIn_plain ho rfl (oper_inK hF.fn (fun K hK => ?_))
  clear ho
  rw [Oper.semAt_plain Fc _ _ (by intro c h; cases h)]
  simp only [sen10_o3]
  go_simp
  exact hK _ _ ⟨_, act_putD x hdef _ _, rfl, Below.refl _ _⟩
set_option maxRecDepth 100000 in
set_option maxHeartbeats 2000000 in
theorem sen10_s4 {Fc : Fence} (hF : Wide Fc) {nC : Nat} (gE i k r xa ya ua : Nat) (b4 b5 : Nat) (A B : Nat → Bool) (Q : Exit → Act → World → Prop) (df : List Deferred) (w0 : World)
    (hh : Hid (i < 22 ∧ k < 22 ∧ r < 22 ∧ xa < 256 ∧ ya < 256 ∧ ua < 256))
    (cx : ∀ W, Below w0.heap.size w0 W → W.cell? ⟨gE, i, none⟩ = some (.int .u8 (xa : Nat)))
    (cy : ∀ W, Below w0.heap.size w0 W → W.cell? ⟨gE, k, none⟩ = some (.int .u8 (ya : Nat)))
    (cu : ∀ W, Below w0.heap.size w0 W → W.cell? ⟨gE, r, none⟩ = some (.int .u8 (ua : Nat)))
    (h4 : SBox w0 b4 A) (h5 : SBox w0 b5 B) (hT : Tab w0)
    (x : Act) (w : World) (hB : Below w0.heap.size w0 w) (hdef : x.defers = df) (u1 : x.tmps.getD 1 undef = .slice (some ⟨gE, 0, none⟩) 22 22) (u2 : x.tmps.getD 2 undef = .int .i64 (i : Nat)) (u3 : x.tmps.getD 3 undef = .int .i64 (k : Nat)) (u4 : x.tmps.getD 4 undef = .pointer (some ⟨b4, 0, none⟩)) (u5 : x.tmps.getD 5 undef = .pointer (some ⟨b5, 0, none⟩))
    (p3 : sen10_val gE i k r xa ya ua b4 b5 A B 3 (x.tmps.getD 46 undef) w)
    : wpOpIn Fc nC Tryd.prog sen10_ops Q 4 (fun a' w' => ∃ v, a' = x.put (some 47) v ∧ (v = .int .u8 (ya : Nat)) ∧ Below w.heap.size w w') x w := by
  have ho : sen10_ops[4]? = some sen10_o4 := rfl
  simp only [Array.getD_eq_getD_getElem?] at u1 u2 u3 u4 u5
  have q3 : x.tmps.getD 46 undef = .pointer (some ⟨gE, k, none⟩) := p3
  simp only [Array.getD_eq_getD_getElem?] at q3
  have m := cy w hB
  refine wpOpIn_plain ho rfl (oper_inK hF.fn (fun K hK => ?_))
  clear ho
  rw [Oper.semAt_plain Fc _ _ (by intro c h; cases h)]
  simp only [sen10_o4]
  go_simp
  exact hK _ _ ⟨_, act_putD x hdef _ _, rfl, Below.refl _ _⟩
set_option maxRecDepth 100000 in
set_option maxHeartbeats 2000000 in
theorem sen10_s5 {Fc : Fence} (hF : Wide Fc) {nC : Nat} (gE i k r xa ya ua : Nat) (b4 b5 : Nat) (A B : Nat → Bool) (Q : Exit → Act → World → Prop) (df : List Deferred) (w0 : World)
    (hh : Hid (i < 22 ∧ k < 22 ∧ r < 22 ∧ xa < 256 ∧ ya < 256 ∧ ua < 256))
    (cx : ∀ W, Below w0.heap.size w0 W → W.cell? ⟨gE, i, none⟩ = some (.int .u8 (xa : Nat)))
    (cy : ∀ W, Below w0.heap.size w0 W → W.cell? ⟨gE, k, none⟩ = some (.int .u8 (ya : Nat)))
    (cu : ∀ W, Below w0.heap.size w0 W → W.cell? ⟨gE, r, none⟩ = some (.int .u8 (ua : Nat)))
    (h4 : SBox w0 b4 A) (h5 : SBox w0 b5 B) (hT : Tab w0)
    (x : Act) (w : World) (hB : Below w0.heap.size w0 w) (hdef : x.defers = df) (u1 : x.tmps.getD 1 undef = .slice (some ⟨gE, 0, none⟩) 22 22) (u2 : x.tmps.getD 2 undef = .int .i64 (i : Nat)) (u3 : x.tmps.getD 3 undef = .int .i64 (k : Nat)) (u4 : x.tmps.getD 4 undef = .pointer (some ⟨b4, 0, none⟩)) (u5 : x.tmps.getD 5 undef = .pointer (some ⟨b5, 0, none⟩))
    (p0 : sen10_val gE i k r xa ya ua b4 b5 A B 0 (x.tmps.getD 43 undef) w)
    (p4 : sen10_val gE i k r xa ya ua b4 b5 A B 4 (x.tmps.getD 47 undef) w)
    : wpOpIn Fc nC Tryd.prog sen10_ops Q 5 (fun a' w' => ∃ v, a' = x.put (some 48) v ∧ (v = .bool true) ∧ Below w.heap.size w w') x w := by
  have ho : sen10_ops[5]? = some sen10_o5 := rfl
  simp only [Array.getD_eq_getD_getElem?] at u1 u2 u3 u4 u5
  have q0 : x.tmps.getD 43 undef = sv A := p0
  have q4 : x.tmps.getD 47 undef = .int .u8 (ya : Nat) := p4
  simp only [Array.getD_eq_getD_getElem?] at q0 q4
  refine wpOpIn_plain ho rfl (oper_inK hF.fn (fun K hK => ?_))
  clear ho
  rw [Oper.semAt_plain Fc _ _ (by intro c h; cases h)]
  simp only [sen10_o5]
  go_simp
  refine ⟨hF.deep, (hF.call (one_any A ya w hh.out.2.2.2.2.1 (hT.below hB))).mono ?_⟩
  rintro e w' ⟨rfl, hb⟩
  exact hK _ _ ⟨_, act_putD x hdef _ _, rfl, hb⟩
set_option maxRecDepth 100000 in
set_option maxHeartbeats 2000000 in
theorem sen10_s6 {Fc : Fence} (hF : Wide Fc) {nC : Nat} (gE i k r xa ya ua : Nat) (b4 b5 : Nat) (A B : Nat → Bool) (Q : Exit → Act → World → Prop) (df : List Deferred) (w0 : World)
    (hh : Hid (i < 22 ∧ k < 22 ∧ r < 22 ∧ xa < 256 ∧ ya < 256 ∧ ua < 256))
    (cx : ∀ W, Below w0.heap.size w0 W → W.cell? ⟨gE, i, none⟩ = some (.int .u8 (xa : Nat)))
    (cy : ∀ W, Below w0.heap.size w0 W → W.cell? ⟨gE, k, none⟩ = some (.int .u8 (ya : Nat)))
    (cu : ∀ W, Below w0.heap.size w0 W → W.cell? ⟨gE, r, none⟩ = some (.int .u8 (ua : Nat)))
    (h4 : SBox w0 b4 A) (h5 : SBox w0 b5 B) (hT : Tab w0)
    (x : Act) (w : World) (hB : Below w0.heap.size w0 w) (hdef : x.defers = df) (u1 : x.tmps.getD 1 undef = .slice (some ⟨gE, 0, none⟩) 22 22) (u2 : x.tmps.getD 2 undef = .int .i64 (i : Nat)) (u3 : x.tmps.getD 3 undef = .int .i64 (k : Nat)) (u4 : x.tmps.getD 4 undef = .pointer (some ⟨b4, 0, none⟩)) (u5 : x.tmps.getD 5 undef = .pointer (some ⟨b5, 0, none⟩))
    (p5 : sen10_val gE i k r xa ya ua b4 b5 A B 5 (x.tmps.getD 48 undef) w)
    : wpOpIn Fc nC Tryd.prog sen10_ops Q 6 (fun a' w' => ∃ v, a' = x.put (some 49) v ∧ (v = .bool false) ∧ Below w.heap.size w w') x w := by
  have ho : sen10_ops[6]? = some sen10_o6 := rfl
  simp only [Array.getD_eq_getD_getElem?] at u1 u2 u3 u4 u5
  have q5 : x.tmps.getD 48 undef = .bool true := p5
  simp only [Array.getD_eq_getD_getElem?] at q5
  refine wpOpIn_plain ho rfl (oper_inK hF.fn (fun K hK => ?_))
  clear ho
  rw [Oper.semAt_plain Fc _ _ (by intro c h; cases h)]
  simp only [sen10_o6]
  go_simp
  exact hK _ _ ⟨_, act_putD x hdef _ _, rfl, Below.refl _ _⟩
set_option maxRecDepth 100000 in
set_option maxHeartbeats 2000000 in
theorem sen10_s7 {Fc : Fence} (hF : Wide Fc) {nC : Nat} (gE i k r xa ya ua : Nat) (b4 b5 : Nat) (A B : Nat → Bool) (Q : Exit → Act → World → Prop) (df : List Deferred) (w0 : World)
    (hh : Hid (i < 22 ∧ k < 22 ∧ r < 22 ∧ xa < 256 ∧ ya < 256 ∧ ua < 256))
    (cx : ∀ W, Below w0.heap.size w0 W → W.cell? ⟨gE, i, none⟩ = some (.int .u8 (xa : Nat)))
    (cy : ∀ W, Below w0.heap.size w0 W → W.cell? ⟨gE, k, none⟩ = some (.int .u8 (ya : Nat)))
    (cu : ∀ W, Below w0.heap.size w0 W → W.cell? ⟨gE, r, none⟩ = some (.int .u8 (ua : Nat)))
    (h4 : SBox w0 b4 A) (h5 : SBox w0 b5 B) (hT : Tab w0)
    (x : Act) (w : World) (hB : Below w0.heap.size w0 w) (hdef : x.defers = df) (u1 : x.tmps.getD 1 undef = .slice (some ⟨gE, 0, none⟩) 22 22) (u2 : x.tmps.getD 2 undef = .int .i64 (i : Nat)) (u3 : x.tmps.getD 3 undef = .int .i64 (k : Nat)) (u4 : x.tmps.getD 4 undef = .pointer (some ⟨b4, 0, none⟩)) (u5 : x.tmps.getD 5 undef = .pointer (some ⟨b5, 0, none⟩))
    (p6 : sen10_val gE i k r xa ya ua b4 b5 A B 6 (x.tmps.getD 49 undef) w)
    : wpOpIn Fc nC Tryd.prog sen10_ops Q 7 (fun a' w' => ∃ v, a' = x.put (some 50) v ∧ (v = .bool false) ∧ Below w.heap.size w w') x w := by
  have ho : sen10_ops[7]? = some sen10_o7 := rfl
  simp only [Array.getD_eq_getD_getElem?] at u1 u2 u3 u4 u5
  have q6 : x.tmps.getD 49 undef = .bool false := p6
  simp only [Array.getD_eq_getD_getElem?] at q6
  refine wpOpIn_plain ho rfl (oper_inK hF.fn (fun K hK => ?_))
  clear ho
  rw [Oper.semAt_plain Fc _ _ (by intro c h; cases h)]
  simp only [sen10_o7]
  go_simp
  exact hK _ _ ⟨_, act_putD x hdef _ _, rfl, Below.refl _ _⟩
set_option maxRecDepth 100000 in
set_option maxHeartbeats 2000000 in
theorem sen10_s8 {Fc : Fence} (hF : Wide Fc) {nC : Nat} (gE i k r xa ya ua : Nat) (b4 b5 : Nat) (A B : Nat → Bool) (Q : Exit → Act → World → Prop) (df : List Deferred) (w0 : World)
    (hh : Hid (i < 22 ∧ k < 22 ∧ r < 22 ∧ xa < 256 ∧ ya < 256 ∧ ua < 256))
    (cx : ∀ W, Below w0.heap.size w0 W → W.cell? ⟨gE, i, none⟩ = some (.int .u8 (xa : Nat)))
    (cy : ∀ W, Below w0.heap.size w0 W → W.cell? ⟨gE, k, none⟩ = some (.int .u8 (ya : Nat)))
    (cu : ∀ W, Below w0.heap.size w0 W → W.cell? ⟨gE, r, none⟩ = some (.int .u8 (ua : Nat)))
    (h4 : SBox w0 b4 A) (h5 : SBox w0 b5 B) (hT : Tab w0)
    (x : Act) (w : World) (hB : Below w0.heap.size w0 w) (hdef : x.defers = df) (u1 : x.tmps.getD 1 undef = .slice (some ⟨gE, 0, none⟩) 22 22) (u2 : x.tmps.getD 2 undef = .int .i64 (i : Nat)) (u3 : x.tmps.getD 3 undef = .int .i64 (k : Nat)) (u4 : x.tmps.getD 4 undef = .pointer (some ⟨b4, 0, none⟩)) (u5 : x.tmps.getD 5 undef = .pointer (some ⟨b5, 0, none⟩))
    (p7 : sen10_val gE i k r xa ya ua b4 b5 A B 7 (x.tmps.getD 50 undef) w)
    : wpOpIn Fc nC Tryd.prog sen10_ops Q 8 (fun a' w' => ∃ v, a' = x.put (some 51) v ∧ (v = sv A) ∧ Below w.heap.size w w') x w := by
  have ho : sen10_ops[8]? = some sen10_o8 := rfl
  simp only [Array.getD_eq_getD_getElem?] at u1 u2 u3 u4 u5
  have q7 : x.tmps.getD 50 undef = .bool false := p7
  simp only [Array.getD_eq_getD_getElem?] at q7
  have e7 : (sen10_ops[7]?.bind fun x => x.dst) = some 50 := rfl
  have g7 := get_someT q7 (fun h => by cases h)
  have hsb := h4.below hB h4.lt
  have c0 := hsb.cell 0 (by omega)
  have c1 := hsb.cell 1 (by omega)
  have c2 := hsb.cell 2 (by omega)
  have c3 := hsb.cell 3 (by omega)
  refine wpOpIn_stepT hF ho (fun K hK => ?_)
  clear ho
  rw [Oper.semAt_plain Fc _ _ (by intro c h; cases h)]
  simp only [sen10_o8]
  go_simp
  exact hK _ _ ⟨_, act_putD x hdef _ _, rfl, Below.refl _ _⟩
set_option maxRecDepth 100000 in
set_option maxHeartbeats 2000000 in
theorem sen10_s9 {Fc : Fence} (hF : Wide Fc) {nC : Nat} (gE i k r xa ya ua : Nat) (b4 b5 : Nat) (A B : Nat → Bool) (Q : Exit → Act → World → Prop) (df : List Deferred) (w0 : World)
    (hh : Hid (i < 22 ∧ k < 22 ∧ r < 22 ∧ xa < 256 ∧ ya < 256 ∧ ua < 256))
    (cx : ∀ W, Below w0.heap.size w0 W → W.cell? ⟨gE, i, none⟩ = some (.int .u8 (xa : Nat)))
    (cy : ∀ W, Below w0.heap.size w0 W → W.cell? ⟨gE, k, none⟩ = some (.int .u8 (ya : Nat)))
    (cu : ∀ W, Below w0.heap.size w0 W → W.cell? ⟨gE, r, none⟩ = some (.int .u8 (ua : Nat)))
    (h4 : SBox w0 b4 A) (h5 : SBox w0 b5 B) (hT : Tab w0)
    (x : Act) (w : World) (hB : Below w0.heap.size w0 w) (hdef : x.defers = df) (u1 : x.tmps.getD 1 undef = .slice (some ⟨gE, 0, none⟩) 22 22) (u2 : x.tmps.getD 2 undef = .int .i64 (i : Nat)) (u3 : x.tmps.getD 3 undef = .int .i64 (k : Nat)) (u4 : x.tmps.getD 4 undef = .pointer (some ⟨b4, 0, none⟩)) (u5 : x.tmps.getD 5 undef = .pointer (some ⟨b5, 0, none⟩))
    (p8 : sen10_val gE i k r xa ya ua b4 b5 A B 8 (x.tmps.getD 51 undef) w)
    (p7 : sen10_val gE i k r xa ya ua b4 b5 A B 7 (x.tmps.getD 50 undef) w)
    : wpOpIn Fc nC Tryd.prog sen10_ops Q 9 (fun a' w' => ∃ v, a' = x.put (some 52) v ∧ (v = sv (fun b => !A b)) ∧ Below w.heap.size w w') x w := by
  have ho : sen10_ops[9]? = some sen10_o9 := rfl
  simp only [Array.getD_eq_getD_getElem?] at u1 u2 u3 u4 u5
  have q8 : x.tmps.getD 51 undef = sv A := p8
  have q7 : x.tmps.getD 50 undef = .bool false := p7
  simp only [Array.getD_eq_getD_getElem?] at q8 q7
  have e7 : (sen10_ops[7]?.bind fun x => x.dst) = some 50 := rfl
  have g7 := get_someT q7 (fun h => by cases h)
  refine wpOpIn_stepT hF ho (fun K hK => ?_)
  clear ho
  rw [Oper.semAt_plain Fc _ _ (by intro c h; cases h)]
  simp only [sen10_o9]
  go_simp
  refine ⟨hF.deep, (hF.call (not_any A w)).mono ?_⟩
  rintro e w' ⟨rfl, hb⟩
  exact hK _ _ ⟨_, act_putD x hdef _ _, rfl, hb⟩
set_option maxRecDepth 100000 in
set_option maxHeartbeats 2000000 in
theorem sen10_s10 {Fc : Fence} (hF : Wide Fc) {nC : Nat} (gE i k r xa ya ua : Nat) (b4 b5 : Nat) (A B : Nat → Bool) (Q : Exit → Act → World → Prop) (df : List Deferred) (w0 : World)
    (hh : Hid (i < 22 ∧ k < 22 ∧ r < 22 ∧ xa < 256 ∧ ya < 256 ∧ ua < 256))
    (cx : ∀ W, Below w0.heap.size w0 W → W.cell? ⟨gE, i, none⟩ = some (.int .u8 (xa : Nat)))
    (cy : ∀ W, Below w0.heap.size w0 W → W.cell? ⟨gE, k, none⟩ = some (.int .u8 (ya : Nat)))
    (cu : ∀ W, Below w0.heap.size w0 W → W.cell? ⟨gE, r, none⟩ = some (.int .u8 (ua : Nat)))
    (h4 : SBox w0 b4 A) (h5 : SBox w0 b5 B) (hT : Tab w0)
    (x : Act) (w : World) (hB : Below w0.heap.size w0 w) (hdef : x.defers = df) (u1 : x.tmps.getD 1 undef = .slice (some ⟨gE, 0, none⟩) 22 22) (u2 : x.tmps.getD 2 undef = .int .i64 (i : Nat)) (u3 : x.tmps.getD 3 undef = .int .i64 (k : Nat)) (u4 : x.tmps.getD 4 undef = .pointer (some ⟨b4, 0, none⟩)) (u5 : x.tmps.getD 5 undef = .pointer (some ⟨b5, 0, none⟩))
    (p7 : sen10_val gE i k r xa ya ua b4 b5 A B 7 (x.tmps.getD 50 undef) w)
    : wpOpIn Fc nC Tryd.prog sen10_ops Q 10 (fun a' w' => ∃ v, a' = x.put (some 53) v ∧ (v = .slice (some ⟨gE, 0, none⟩) 22 22) ∧ Below w.heap.size w w') x w := by
  have ho : sen10_ops[10]? = some sen10_o10 := rfl
  simp only [Array.getD_eq_getD_getElem?] at u1 u2 u3 u4 u5
  have q7 : x.tmps.getD 50 undef = .bool false := p7
  simp only [Array.getD_eq_getD_getElem?] at q7
  have e7 : (sen10_ops[7]?.bind fun x => x.dst) = some 50 := rfl
  have g7 := get_someT q7 (fun h => by cases h)
  refine wpOpIn_stepT hF ho (fun K hK => ?_)
  clear ho
  rw [Oper.semAt_plain Fc _ _ (by intro c h; cases h)]
  simp only [sen10_o10]
  go_simp
  exact hK _ _ ⟨_, act_putD x hdef _ _, rfl, Below.refl _ _⟩
set_option maxRecDepth 100000 in
set_option maxHeartbeats 2000000 in
theorem sen10_s11 {Fc : Fence} (hF : Wide Fc) {nC : Nat} (gE i k r xa ya ua : Nat) (b4 b5 : Nat) (A B : Nat → Bool) (Q : Exit → Act → World → Prop) (df : List Deferred) (w0 : World)
    (hh : Hid (i < 22 ∧ k < 22 ∧ r < 22 ∧ xa < 256 ∧ ya < 256 ∧ ua < 256))
    (cx : ∀ W, Below w0.heap.size w0 W → W.cell? ⟨gE, i, none⟩ = some (.int .u8 (xa : Nat)))
    (cy : ∀ W, Below w0.heap.size w0 W → W.cell? ⟨gE, k, none⟩ = some (.int .u8 (ya : Nat)))
    (cu : ∀ W, Below w0.heap.size w0 W → W.cell? ⟨gE, r, none⟩ = some (.int .u8 (ua : Nat)))
    (h4 : SBox w0 b4 A) (h5 : SBox w0 b5 B) (hT : Tab w0)
    (x : Act) (w : World) (hB : Below w0.heap.size w0 w) (hdef : x.defers = df) (u1 : x.tmps.getD 1 undef = .slice (some ⟨gE, 0, none⟩) 22 22) (u2 : x.tmps.getD 2 undef = .int .i64 (i : Nat)) (u3 : x.tmps.getD 3 undef = .int .i64 (k : Nat)) (u4 : x.tmps.getD 4 undef = .pointer (some ⟨b4, 0, none⟩)) (u5 : x.tmps.getD 5 undef = .pointer (some ⟨b5, 0, none⟩))
    (p7 : sen10_val gE i k r xa ya ua b4 b5 A B 7 (x.tmps.getD 50 undef) w)
    : wpOpIn Fc nC Tryd.prog sen10_ops Q 11 (fun a' w' => ∃ v, a' = x.put (some 54) v ∧ (v = .int .i64 (i : Nat)) ∧ Below w.heap.size w w') x w := by
  have ho : sen10_ops[11]? = some sen10_o11 := rfl
  simp only [Array.getD_eq_getD_getElem?] at u1 u2 u3 u4 u5
  have q7 : x.tmps.getD 50 undef = .bool false := p7
  simp only [Array.getD_eq_getD_getElem?] at q7
  have e7 : (sen10_ops[7]?.bind fun x => x.dst) = some 50 := rfl
  have g7 := get_someT q7 (fun h => by cases h)
  refine wpOpIn_stepT hF ho (fun K hK => ?_)
  clear ho
  rw [Oper.semAt_plain Fc _ _ (by intro c h; cases h)]
  simp only [sen10_o11]
  go_simp
  exact hK _ _ ⟨_, act_putD x hdef _ _, rfl, Below.refl _ _⟩
set_option maxRecDepth 100000 in
set_option maxHeartbeats 2000000 in
theorem sen10_s12 {Fc : Fence} (hF : Wide Fc) {nC : Nat} (gE i k r xa ya ua : Nat) (b4 b5 : Nat) (A B : Nat → Bool) (Q : Exit → Act → World → Prop) (df : List Deferred) (w0 : World)
    (hh : Hid (i < 22 ∧ k < 22 ∧ r < 22 ∧ xa < 256 ∧ ya < 256 ∧ ua < 256))
    (cx : ∀ W, Below w0.heap.size w0 W → W.cell? ⟨gE, i, none⟩ = some (.int .u8 (xa : Nat)))
    (cy : ∀ W, Below w0.heap.size w0 W → W.cell? ⟨gE, k, none⟩ = some (.int .u8 (ya : Nat)))
    (cu : ∀ W, Below w0.heap.size w0 W → W.cell? ⟨gE, r, none⟩ = some (.int .u8 (ua : Nat)))
    (h4 : SBox w0 b4 A) (h5 : SBox w0 b5 B) (hT : Tab w0)
    (x : Act) (w : World) (hB : Below w0.heap.size w0 w) (hdef : x.defers = df) (u1 : x.tmps.getD 1 undef = .slice (some ⟨gE, 0, none⟩) 22 22) (u2 : x.tmps.getD 2 undef = .int .i64 (i : Nat)) (u3 : x.tmps.getD 3 undef = .int .i64 (k : Nat)) (u4 : x.tmps.getD 4 undef = .pointer (some ⟨b4, 0, none⟩)) (u5 : x.tmps.getD 5 undef = .pointer (some ⟨b5, 0, none⟩))
    (p10 : sen10_val gE i k r xa ya ua b4 b5 A B 10 (x.tmps.getD 53 undef) w)
    (p11 : sen10_val gE i k r xa ya ua b4 b5 A B 11 (x.tmps.getD 54 undef) w)
    (p7 : sen10_val gE i k r xa ya ua b4 b5 A B 7 (x.tmps.getD 50 undef) w)
    : wpOpIn Fc nC Tryd.prog sen10_ops Q 12 (fun a' w' => ∃ v, a' = x.put (some 55) v ∧ (v = .pointer (some ⟨gE, i, none⟩)) ∧ Below w.heap.size w w') x w := by
  have ho : sen10_ops[12]? = some sen10_o12 := rfl
  simp only [Array.getD_eq_getD_getElem?] at u1 u2 u3 u4 u5
  have q10 : x.tmps.getD 53 undef = .slice (some ⟨gE, 0, none⟩) 22 22 := p10
  have q11 : x.tmps.getD 54 undef = .int .i64 (i : Nat) := p11
  have q7 : x.tmps.getD 50 undef = .bool false := p7
  simp only [Array.getD_eq_getD_getElem?] at q10 q11 q7
  have e7 : (sen10_ops[7]?.bind fun x => x.dst) = some 50 := rfl
  have g7 := get_someT q7 (fun h => by cases h)
  have i0 : (0 : Int) ≤ (i : Int) := by omega
  have i1 : (i : Int) < 22 := by have := hh.out; omega
  refine wpOpIn_stepT hF ho (fun K hK => ?_)
  clear ho
  rw [Oper.semAt_plain Fc _ _ (by intro c h; cases h)]
  simp only [sen10_o12]
  go_simp
  exact hK _ _ ⟨_, act_putD x hdef _ _, rfl, Below.refl _ _⟩
set_option maxRecDepth 100000 in
set_option maxHeartbeats 2000000 in
theorem sen10_s13 {Fc : Fence} (hF : Wide Fc) {nC : Nat} (gE i k r xa ya ua : Nat) (b4 b5 : Nat) (A B : Nat → Bool) (Q : Exit → Act → World → Prop) (df : List Deferred) (w0 : World)
    (hh : Hid (i < 22 ∧ k < 22 ∧ r < 22 ∧ xa < 256 ∧ ya < 256 ∧ ua < 256))
    (cx : ∀ W, Below w0.heap.size w0 W → W.cell? ⟨gE, i, none⟩ = some (.int .u8 (xa : Nat)))
    (cy : ∀ W, Below w0.heap.size w0 W → W.cell? ⟨gE, k, none⟩ = some (.int .u8 (ya : Nat)))
    (cu : ∀ W, Below w0.heap.size w0 W → W.cell? ⟨gE, r, none⟩ = some (.int .u8 (ua : Nat)))
    (h4 : SBox w0 b4 A) (h5 : SBox w0 b5 B) (hT : Tab w0)
    (x : Act) (w : World) (hB : Below w0.heap.size w0 w) (hdef : x.defers = df) (u1 : x.tmps.getD 1 undef = .slice (some ⟨gE, 0, none⟩) 22 22) (u2 : x.tmps.getD 2 undef = .int .i64 (i : Nat)) (u3 : x.tmps.getD 3 undef = .int .i64 (k : Nat)) (u4 : x.tmps.getD 4 undef = .pointer (some ⟨b4, 0, none⟩)) (u5 : x.tmps.getD 5 undef = .pointer (some ⟨b5, 0, none⟩))
    (p12 : sen10_val gE i k r xa ya ua b4 b5 A B 12 (x.tmps.getD 55 undef) w)
    (p7 : sen10_val gE i k r xa ya ua b4 b5 A B 7 (x.tmps.getD 50 undef) w)
    : wpOpIn Fc nC Tryd.prog sen10_ops Q 13 (fun a' w' => ∃ v, a' = x.put (some 56) v ∧ (v = .int .u8 (xa : Nat)) ∧ Below w.heap.size w w') x w := by
  have ho : sen10_ops[13]? = some sen10_o13 := rfl
  simp only [Array.getD_eq_getD_getElem?] at u1 u2 u3 u4 u5
  have q12 : x.tmps.getD 55 undef = .pointer (some ⟨gE, i, none⟩) := p12
  have q7 : x.tmps.getD 50 undef = .bool false := p7
  simp only [Array.getD_eq_getD_getElem?] at q12 q7
  have e7 : (sen10_ops[7]?.bind fun x => x.dst) = some 50 := rfl
  have g7 := get_someT q7 (fun h => by cases h)
  have m := cx w hB
  refine wpOpIn_stepT hF ho (fun K hK => ?_)
  clear ho
  rw [Oper.semAt_plain Fc _ _ (by intro c h; cases h)]
  simp only [sen10_o13]
  go_simp
  exact hK _ _ ⟨_, act_putD x hdef _ _, rfl, Below.refl _ _⟩
set_option maxRecDepth 100000 in
set_option maxHeartbeats 2000000 in
theorem sen10_s14 {Fc : Fence} (hF : Wide Fc) {nC : Nat} (gE i k r xa ya ua : Nat) (b4 b5 : Nat) (A B : Nat → Bool) (Q : Exit → Act → World → Prop) (df : List Deferred) (w0 : World)
    (hh : Hid (i < 22 ∧ k < 22 ∧ r < 22 ∧ xa < 256 ∧ ya < 256 ∧ ua < 256))
    (cx : ∀ W, Below w0.heap.size w0 W → W.cell? ⟨gE, i, none⟩ = some (.int .u8 (xa : Nat)))
    (cy : ∀ W, Below w0.heap.size w0 W → W.cell? ⟨gE, k, none⟩ = some (.int .u8 (ya : Nat)))
    (cu : ∀ W, Below w0.heap.size w0 W → W.cell? ⟨gE, r, none⟩ = some (.int .u8 (ua : Nat)))
    (h4 : SBox w0 b4 A) (h5 : SBox w0 b5 B) (hT : Tab w0)
    (x : Act) (w : World) (hB : Below w0.heap.size w0 w) (hdef : x.defers = df) (u1 : x.tmps.getD 1 undef = .slice (some ⟨gE, 0, none⟩) 22 22) (u2 : x.tmps.getD 2 undef = .int .i64 (i : Nat)) (u3 : x.tmps.getD 3 undef = .int .i64 (k : Nat)) (u4 : x.tmps.getD 4 undef = .pointer (some ⟨b4, 0, none⟩)) (u5 : x.tmps.getD 5 undef = .pointer (some ⟨b5, 0, none⟩))
    (p9 : sen10_val gE i k r xa ya ua b4 b5 A B 9 (x.tmps.getD 52 undef) w)
    (p13 : sen10_val gE i k r xa ya ua b4 b5 A B 13 (x.tmps.getD 56 undef) w)
    (p7 : sen10_val gE i k r xa ya ua b4 b5 A B 7 (x.tmps.getD 50 undef) w)
    : wpOpIn Fc nC Tryd.prog sen10_ops Q 14 (fun a' w' => ∃ v, a' = x.put (some 57) v ∧ (v = .bool true) ∧ Below w.heap.size w w') x w := by
  have ho : sen10_ops[14]? = some sen10_o14 := rfl
  simp only [Array.getD_eq_getD_getElem?] at u1 u2 u3 u4 u5
  have q9 : x.tmps.getD 52 undef = sv (fun b => !A b) := p9
  have q13 : x.tmps.getD 56 undef = .int .u8 (xa : Nat) := p13
  have q7 : x.tmps.getD 50 undef = .bool false := p7
  simp only [Array.getD_eq_getD_getElem?] at q9 q13 q7
  have e7 : (sen10_ops[7]?.bind fun x => x.dst) = some 50 := rfl
  have g7 := get_someT q7 (fun h => by cases h)
  refine wpOpIn_stepT hF ho (fun K hK => ?_)
  clear ho
  rw [Oper.semAt_plain Fc _ _ (by intro c h; cases h)]
  simp only [sen10_o14]
  go_simp
  refine ⟨hF.deep, (hF.call (one_any (fun b => !A b) xa w hh.out.2.2.2.1 (hT.below hB))).mono ?_⟩
  rintro e w' ⟨rfl, hb⟩
  exact hK _ _ ⟨_, act_putD x hdef _ _, rfl, hb⟩
set_option maxRecDepth 100000 in
set_option maxHeartbeats 2000000 in
theorem sen10_s15 {Fc : Fence} (hF : Wide Fc) {nC : Nat} (gE i k r xa ya ua : Nat) (b4 b5 : Nat) (A B : Nat → Bool) (Q : Exit → Act → World → Prop) (df : List Deferred) (w0 : World)
    (hh : Hid (i < 22 ∧ k < 22 ∧ r < 22 ∧ xa < 256 ∧ ya < 256 ∧ ua < 256))
    (cx : ∀ W, Below w0.heap.size w0 W → W.cell? ⟨gE, i, none⟩ = some (.int .u8 (xa : Nat)))
    (cy : ∀ W, Below w0.heap.size w0 W → W.cell? ⟨gE, k, none⟩ = some (.int .u8 (ya : Nat)))
    (cu : ∀ W, Below w0.heap.size w0 W → W.cell? ⟨gE, r, none⟩ = some (.int .u8 (ua : Nat)))
    (h4 : SBox w0 b4 A) (h5 : SBox w0 b5 B) (hT : Tab w0)
    (x : Act) (w : World) (hB : Below w0.heap.size w0 w) (hdef : x.defers = df) (u1 : x.tmps.getD 1 undef = .slice (some ⟨gE, 0, none⟩) 22 22) (u2 : x.tmps.getD 2 undef = .int .i64 (i : Nat)) (u3 : x.tmps.getD 3 undef = .int .i64 (k : Nat)) (u4 : x.tmps.getD 4 undef = .pointer (some ⟨b4, 0, none⟩)) (u5 : x.tmps.getD 5 undef = .pointer (some ⟨b5, 0, none⟩))
    (p14 : sen10_val gE i k r xa ya ua b4 b5 A B 14 (x.tmps.getD 57 undef) w)
    (p7 : sen10_val gE i k r xa ya ua b4 b5 A B 7 (x.tmps.getD 50 undef) w)
    : wpOpIn Fc nC Tryd.prog sen10_ops Q 15 (fun a' w' => ∃ v, a' = x.put (some 58) v ∧ (v = .bool false) ∧ Below w.heap.size w w') x w := by
  have ho : sen10_ops[15]? = some sen10_o15 := rfl
  simp only [Array.getD_eq_getD_getElem?] at u1 u2 u3 u4 u5
  have q14 : x.tmps.getD 57 undef = .bool true := p14
  have q7 : x.tmps.getD 50 undef = .bool false := p7
  simp only [Array.getD_eq_getD_getElem?] at q14 q7
  have e7 : (sen10_ops[7]?.bind fun x => x.dst) = some 50 := rfl
  have g7 := get_someT q7 (fun h => by cases h)
  refine wpOpIn_stepT hF ho (fun K hK => ?_)
  clear ho
  rw [Oper.semAt_plain Fc _ _ (by intro c h; cases h)]
  simp only [sen10_o15]
  go_simp
  exact hK _ _ ⟨_, act_putD x hdef _ _, rfl, Below.refl _ _⟩
set_option maxRecDepth 100000 in
set_option maxHeartbeats 2000000 in
theorem sen10_s16 {Fc : Fence} (hF : Wide Fc) {nC : Nat} (gE i k r xa ya ua : Nat) (b4 b5 : Nat) (A B : Nat → Bool) (Q : Exit → Act → World → Prop) (df : List Deferred) (w0 : World)
    (hh : Hid (i < 22 ∧ k < 22 ∧ r < 22 ∧ xa < 256 ∧ ya < 256 ∧ ua < 256))
    (cx : ∀ W, Below w0.heap.size w0 W → W.cell? ⟨gE, i, none⟩ = some (.int .u8 (xa : Nat)))
    (cy : ∀ W, Below w0.heap.size w0 W → W.cell? ⟨gE, k, none⟩ = some (.int .u8 (ya : Nat)))
    (cu : ∀ W, Below w0.heap.size w0 W → W.cell? ⟨gE, r, none⟩ = some (.int .u8 (ua : Nat)))
    (h4 : SBox w0 b4 A) (h5 : SBox w0 b5 B) (hT : Tab w0)
    (x : Act) (w : World) (hB : Below w0.heap.size w0 w) (hdef : x.defers = df) (u1 : x.tmps.getD 1 undef = .slice (some ⟨gE, 0, none⟩) 22 22) (u2 : x.tmps.getD 2 undef = .int .i64 (i : Nat)) (u3 : x.tmps.getD 3 undef = .int .i64 (k : Nat)) (u4 : x.tmps.getD 4 undef = .pointer (some ⟨b4, 0, none⟩)) (u5 : x.tmps.getD 5 undef = .pointer (some ⟨b5, 0, none⟩))
    (p7 : sen10_val gE i k r xa ya ua b4 b5 A B 7 (x.tmps.getD 50 undef) w)
    (p15 : sen10_val gE i k r xa ya ua b4 b5 A B 15 (x.tmps.getD 58 undef) w)
    : wpOpIn Fc nC Tryd.prog sen10_ops Q 16 (fun a' w' => ∃ v, a' = x.put (some 59) v ∧ (v = .bool false) ∧ Below w.heap.size w w') x w := by
  have ho : sen10_ops[16]? = some sen10_o16 := rfl
  simp only [Array.getD_eq_getD_getElem?] at u1 u2 u3 u4 u5
  have q7 : x.tmps.getD 50 undef = .bool false := p7
  have q15 : x.tmps.getD 58 undef = .bool false := p15
  simp only [Array.getD_eq_getD_getElem?] at q7 q15
  refine wpOpIn_plain ho rfl (oper_inK hF.fn (fun K hK => ?_))
  clear ho
  rw [Oper.semAt_plain Fc _ _ (by intro c h; cases h)]
  simp only [sen10_o16]
  go_simp
  exact hK _ _ ⟨_, act_putD x hdef _ _, rfl, Below.refl _ _⟩
set_option maxRecDepth 100000 in
set_option maxHeartbeats 2000000 in
theorem sen10_s17 {Fc : Fence} (hF : Wide Fc) {nC : Nat} (gE i k r xa ya ua : Nat) (b4 b5 : Nat) (A B : Nat → Bool) (Q : Exit → Act → World → Prop) (df : List Deferred) (w0 : World)
    (hh : Hid (i < 22 ∧ k < 22 ∧ r < 22 ∧ xa < 256 ∧ ya < 256 ∧ ua < 256))
    (cx : ∀ W, Below w0.heap.size w0 W → W.cell? ⟨gE, i, none⟩ = some (.int .u8 (xa : Nat)))
    (cy : ∀ W, Below w0.heap.size w0 W → W.cell? ⟨gE, k, none⟩ = some (.int .u8 (ya : Nat)))
    (cu : ∀ W, Below w0.heap.size w0 W → W.cell? ⟨gE, r, none⟩ = some (.int .u8 (ua : Nat)))
    (h4 : SBox w0 b4 A) (h5 : SBox w0 b5 B) (hT : Tab w0)
    (x : Act) (w : World) (hB : Below w0.heap.size w0 w) (hdef : x.defers = df) (u1 : x.tmps.getD 1 undef = .slice (some ⟨gE, 0, none⟩) 22 22) (u2 : x.tmps.getD 2 undef = .int .i64 (i : Nat)) (u3 : x.tmps.getD 3 undef = .int .i64 (k : Nat)) (u4 : x.tmps.getD 4 undef = .pointer (some ⟨b4, 0, none⟩)) (u5 : x.tmps.getD 5 undef = .pointer (some ⟨b5, 0, none⟩))
    (p16 : sen10_val gE i k r xa ya ua b4 b5 A B 16 (x.tmps.getD 59 undef) w)
    : wpOpIn Fc nC Tryd.prog sen10_ops Q 17 (fun a' w' => ∃ v, a' = x.put (some 60) v ∧ (v = .bool false) ∧ Below w.heap.size w w') x w := by
  have ho : sen10_ops[17]? = some sen10_o17 := rfl
  simp only [Array.getD_eq_getD_getElem?] at u1 u2 u3 u4 u5
  have q16 : x.tmps.getD 59 undef = .bool false := p16
  simp only [Array.getD_eq_getD_getElem?] at q16
  refine wpOpIn_plain ho rfl (oper_inK hF.fn (fun K hK => ?_))
  clear ho
  rw [Oper.semAt_plain Fc _ _ (by intro c h; cases h)]
  simp only [sen10_o17]
  go_simp
  exact hK _ _ ⟨_, act_putD x hdef _ _, rfl, Below.refl _ _⟩
set_option maxRecDepth 100000 in
set_option maxHeartbeats 2000000 in
theorem sen10_s18 {Fc : Fence} (hF : Wide Fc) {nC : Nat} (gE i k r xa ya ua : Nat) (b4 b5 : Nat) (A B : Nat → Bool) (Q : Exit → Act → World → Prop) (df : List Deferred) (w0 : World)
    (hh : Hid (i < 22 ∧ k < 22 ∧ r < 22 ∧ xa < 256 ∧ ya < 256 ∧ ua < 256))
    (cx : ∀ W, Below w0.heap.size w0 W → W.cell? ⟨gE, i, none⟩ = some (.int .u8 (xa : Nat)))
    (cy : ∀ W, Below w0.heap.size w0 W → W.cell? ⟨gE, k, none⟩ = some (.int .u8 (ya : Nat)))
    (cu : ∀ W, Below w0.heap.size w0 W → W.cell? ⟨gE, r, none⟩ = some (.int .u8 (ua : Nat)))
    (h4 : SBox w0 b4 A) (h5 : SBox w0 b5 B) (hT : Tab w0)
    (x : Act) (w : World) (hB : Below w0.heap.size w0 w) (hdef : x.defers = df) (u1 : x.tmps.getD 1 undef = .slice (some ⟨gE, 0, none⟩) 22 22) (u2 : x.tmps.getD 2 undef = .int .i64 (i : Nat)) (u3 : x.tmps.getD 3 undef = .int .i64 (k : Nat)) (u4 : x.tmps.getD 4 undef = .pointer (some ⟨b4, 0, none⟩)) (u5 : x.tmps.getD 5 undef = .pointer (some ⟨b5, 0, none⟩))
    (p17 : sen10_val gE i k r xa ya ua b4 b5 A B 17 (x.tmps.getD 60 undef) w)
    : wpOpIn Fc nC Tryd.prog sen10_ops Q 18 (fun a' w' => ∃ v, a' = x.put (some 61) v ∧ (v = .slice (some ⟨gE, 0, none⟩) 22 22) ∧ Below w.heap.size w w') x w := by
  have ho : sen10_ops[18]? = some sen10_o18 := rfl
  simp only [Array.getD_eq_getD_getElem?] at u1 u2 u3 u4 u5
  have q17 : x.tmps.getD 60 undef = .bool false := p17
  simp only [Array.getD_eq_getD_getElem?] at q17
  have e17 : (sen10_ops[17]?.bind fun x => x.dst) = some 60 := rfl
  have g17 := get_someT q17 (fun h => by cases h)
  refine wpOpIn_stepT hF ho (fun K hK => ?_)
  clear ho
  rw [Oper.semAt_plain Fc _ _ (by intro c h; cases h)]
  simp only [sen10_o18]
  go_simp
  exact hK _ _ ⟨_, act_putD x hdef _ _, rfl, Below.refl _ _⟩
set_option maxRecDepth 100000 in
set_option maxHeartbeats 2000000 in
theorem sen10_s19 {Fc : Fence} (hF : Wide Fc) {nC : Nat} (gE i k r xa ya ua : Nat) (b4 b5 : Nat) (A B : Nat → Bool) (Q : Exit → Act → World → Prop) (df : List Deferred) (w0 : World)
    (hh : Hid (i < 22 ∧ k < 22 ∧ r < 22 ∧ xa < 256 ∧ ya < 256 ∧ ua < 256))
    (cx : ∀ W, Below w0.heap.size w0 W → W.cell? ⟨gE, i, none⟩ = some (.int .u8 (xa : Nat)))
    (cy : ∀ W, Below w0.heap.size w0 W → W.cell? ⟨gE, k, none⟩ = some (.int .u8 (ya : Nat)))
    (cu : ∀ W, Below w0.heap.size w0 W → W.cell? ⟨gE, r, none⟩ = some (.int .u8 (ua : Nat)))
    (h4 : SBox w0 b4 A) (h5 : SBox w0 b5 B) (hT : Tab w0)
    (x : Act) (w : World) (hB : Below w0.heap.size w0 w) (hdef : x.defers = df) (u1 : x.tmps.getD 1 undef = .slice (some ⟨gE, 0, none⟩) 22 22) (u2 : x.tmps.getD 2 undef = .int .i64 (i : Nat)) (u3 : x.tmps.getD 3 undef = .int .i64 (k : Nat)) (u4 : x.tmps.getD 4 undef = .pointer (some ⟨b4, 0, none⟩)) (u5 : x.tmps.getD 5 undef = .pointer (some ⟨b5, 0, none⟩))
    (p17 : sen10_val gE i k r xa ya ua b4 b5 A B 17 (x.tmps.getD 60 undef) w)
    : wpOpIn Fc nC Tryd.prog sen10_ops Q 19 (fun a' w' => ∃ v, a' = x.put (some 62) v ∧ (v = .int .i64 (i : Nat)) ∧ Below w.heap.size w w') x w := by
  have ho : sen10_ops[19]? = some sen10_o19 := rfl
  simp only [Array.getD_eq_getD_getElem?] at u1 u2 u3 u4 u5
  have q17 : x.tmps.getD 60 undef = .bool false := p17
  simp only [Array.getD_eq_getD_getElem?] at q17
  have e17 : (sen10_ops[17]?.bind fun x => x.dst) = some 60 := rfl
  have g17 := get_someT q17 (fun h => by cases h)
  refine wpOpIn_stepT hF ho (fun K hK => ?_)
  clear ho
  rw [Oper.semAt_plain Fc _ _ (by intro c h; cases h)]
  simp only [sen10_o19]
  go_simp
  exact hK _ _ ⟨_, act_putD x hdef _ _, rfl, Below.refl _ _⟩
set_option maxRecDepth 100000 in
set_option maxHeartbeats 2000000 in
theorem sen10_s20 {Fc : Fence} (hF : Wide Fc) {nC : Nat} (gE i k r xa ya ua : Nat) (b4 b5 : Nat) (A B : Nat → Bool) (Q : Exit → Act → World → Prop) (df : List Deferred) (w0 : World)
    (hh : Hid (i < 22 ∧ k < 22 ∧ r < 22 ∧ xa < 256 ∧ ya < 256 ∧ ua < 256))
    (cx : ∀ W, Below w0.heap.size w0 W → W.cell? ⟨gE, i, none⟩ = some (.int .u8 (xa : Nat)))
    (cy : ∀ W, Below w0.heap.size w0 W → W.cell? ⟨gE, k, none⟩ = some (.int .u8 (ya : Nat)))
    (cu : ∀ W, Below w0.heap.size w0 W → W.cell? ⟨gE, r, none⟩ = some (.int .u8 (ua : Nat)))
    (h4 : SBox w0 b4 A) (h5 : SBox w0 b5 B) (hT : Tab w0)
    (x : Act) (w : World) (hB : Below w0.heap.size w0 w) (hdef : x.defers = df) (u1 : x.tmps.getD 1 undef = .slice (some ⟨gE, 0, none⟩) 22 22) (u2 : x.tmps.getD 2 undef = .int .i64 (i : Nat)) (u3 : x.tmps.getD 3 undef = .int .i64 (k : Nat)) (u4 : x.tmps.getD 4 undef = .pointer (some ⟨b4, 0, none⟩)) (u5 : x.tmps.getD 5 undef = .pointer (some ⟨b5, 0, none⟩))
    (p18 : sen10_val gE i k r xa ya ua b4 b5 A B 18 (x.tmps.getD 61 undef) w)
    (p19 : sen10_val gE i k r xa ya ua b4 b5 A B 19 (x.tmps.getD 62 undef) w)
    (p17 : sen10_val gE i k r xa ya ua b4 b5 A B 17 (x.tmps.getD 60 undef) w)
    : wpOpIn Fc nC Tryd.prog sen10_ops Q 20 (fun a' w' => ∃ v, a' = x.put (some 63) v ∧ (v = .pointer (some ⟨gE, i, none⟩)) ∧ Below w.heap.size w w') x w := by
  have ho : sen10_ops[20]? = some sen10_o20 := rfl
  simp only [Array.getD_eq_getD_getElem?] at u1 u2 u3 u4 u5
  have q18 : x.tmps.getD 61 undef = .slice (some ⟨gE, 0, none⟩) 22 22 := p18
  have q19 : x.tmps.getD 62 undef = .int .i64 (i : Nat) := p19
  have q17 : x.tmps.getD 60 undef = .bool false := p17
  simp only [Array.getD_eq_getD_getElem?] at q18 q19 q17
  have e17 : (sen10_ops[17]?.bind fun x => x.dst) = some 60 := rfl
  have g17 := get_someT q17 (fun h => by cases h)
  have i0 : (0 : Int) ≤ (i : Int) := by omega
  have i1 : (i : Int) < 22 := by have := hh.out; omega
  refine wpOpIn_stepT hF ho (fun K hK => ?_)
  clear ho
  rw [Oper.semAt_plain Fc _ _ (by intro c h; cases h)]
  simp only [sen10_o20]
  go_simp
  exact hK _ _ ⟨_, act_putD x hdef _ _, rfl, Below.refl _ _⟩
set_option maxRecDepth 100000 in
set_option maxHeartbeats 2000000 in
theorem sen10_s21 {Fc : Fence} (hF : Wide Fc) {nC : Nat} (gE i k r xa ya ua : Nat) (b4 b5 : Nat) (A B : Nat → Bool) (Q : Exit → Act → World → Prop) (df : List Deferred) (w0 : World)
    (hh : Hid (i < 22 ∧ k < 22 ∧ r < 22 ∧ xa < 256 ∧ ya < 256 ∧ ua < 256))
    (cx : ∀ W, Below w0.heap.size w0 W → W.cell? ⟨gE, i, none⟩ = some (.int .u8 (xa : Nat)))
    (cy : ∀ W, Below w0.heap.size w0 W → W.cell? ⟨gE, k, none⟩ = some (.int .u8 (ya : Nat)))
    (cu : ∀ W, Below w0.heap.size w0 W → W.cell? ⟨gE, r, none⟩ = some (.int .u8 (ua : Nat)))
    (h4 : SBox w0 b4 A) (h5 : SBox w0 b5 B) (hT : Tab w0)
    (x : Act) (w : World) (hB : Below w0.heap.size w0 w) (hdef : x.defers = df) (u1 : x.tmps.getD 1 undef = .slice (some ⟨gE, 0, none⟩) 22 22) (u2 : x.tmps.getD 2 undef = .int .i64 (i : Nat)) (u3 : x.tmps.getD 3 undef = .int .i64 (k : Nat)) (u4 : x.tmps.getD 4 undef = .pointer (some ⟨b4, 0, none⟩)) (u5 : x.tmps.getD 5 undef = .pointer (some ⟨b5, 0, none⟩))
    (p20 : sen10_val gE i k r xa ya ua b4 b5 A B 20 (x.tmps.getD 63 undef) w)
    (p17 : sen10_val gE i k r xa ya ua b4 b5 A B 17 (x.tmps.getD 60 undef) w)
    : wpOpIn Fc nC Tryd.prog sen10_ops Q 21 (fun a' w' => ∃ v, a' = x.put (some 64) v ∧ (v = .int .u8 (xa : Nat)) ∧ Below w.heap.size w w') x w := by
  have ho : sen10_ops[21]? = some sen10_o21 := rfl
  simp only [Array.getD_eq_getD_getElem?] at u1 u2 u3 u4 u5
  have q20 : x.tmps.getD 63 undef = .pointer (some ⟨gE, i, none⟩) := p20
  have q17 : x.tmps.getD 60 undef = .bool false := p17
  simp only [Array.getD_eq_getD_getElem?] at q20 q17
  have e17 : (sen10_ops[17]?.bind fun x => x.dst) = some 60 := rfl
  have g17 := get_someT q17 (fun h => by cases h)
  have m := cx w hB
  refine wpOpIn_stepT hF ho (fun K hK => ?_)
  clear ho
  rw [Oper.semAt_plain Fc _ _ (by intro c h; cases h)]
  simp only [sen10_o21]
  go_simp
  exact hK _ _ ⟨_, act_putD x hdef _ _, rfl, Below.refl _ _⟩
set_option maxRecDepth 100000 in
set_option maxHeartbeats 2000000 in
theorem sen10_s22 {Fc : Fence} (hF : Wide Fc) {nC : Nat} (gE i k r xa ya ua : Nat) (b4 b5 : Nat) (A B : Nat → Bool) (Q : Exit → Act → World → Prop) (df : List Deferred) (w0 : World)
    (hh : Hid (i < 22 ∧ k < 22 ∧ r < 22 ∧ xa < 256 ∧ ya < 256 ∧ ua < 256))
    (cx : ∀ W, Below w0.heap.size w0 W → W.cell? ⟨gE, i, none⟩ = some (.int .u8 (xa : Nat)))
    (cy : ∀ W, Below w0.heap.size w0 W → W.cell? ⟨gE, k, none⟩ = some (.int .u8 (ya : Nat)))
    (cu : ∀ W, Below w0.heap.size w0 W → W.cell? ⟨gE, r, none⟩ = some (.int .u8 (ua : Nat)))
    (h4 : SBox w0 b4 A) (h5 : SBox w0 b5 B) (hT : Tab w0)
    (x : Act) (w : World) (hB : Below w0.heap.size w0 w) (hdef : x.defers = df) (u1 : x.tmps.getD 1 undef = .slice (some ⟨gE, 0, none⟩) 22 22) (u2 : x.tmps.getD 2 undef = .int .i64 (i : Nat)) (u3 : x.tmps.getD 3 undef = .int .i64 (k : Nat)) (u4 : x.tmps.getD 4 undef = .pointer (some ⟨b4, 0, none⟩)) (u5 : x.tmps.getD 5 undef = .pointer (some ⟨b5, 0, none⟩))
    (p17 : sen10_val gE i k r xa ya ua b4 b5 A B 17 (x.tmps.getD 60 undef) w)
    : wpOpIn Fc nC Tryd.prog sen10_ops Q 22 (fun a' w' => ∃ v, a' = x.put (some 65) v ∧ (v = .slice (some ⟨gE, 0, none⟩) 22 22) ∧ Below w.heap.size w w') x w := by
  have ho : sen10_ops[22]? = some sen10_o22 := rfl
  simp only [Array.getD_eq_getD_getElem?] at u1 u2 u3 u4 u5
  have q17 : x.tmps.getD 60 undef = .bool false := p17
  simp only [Array.getD_eq_getD_getElem?] at q17
  have e17 : (sen10_ops[17]?.bind fun x => x.dst) = some 60 := rfl
  have g17 := get_someT q17 (fun h => by cases h)
  refine wpOpIn_stepT hF ho (fun K hK => ?_)
  clear ho
  rw [Oper.semAt_plain Fc _ _ (by intro c h; cases h)]
  simp only [sen10_o22]
  go_simp
  exact hK _ _ ⟨_, act_putD x hdef _ _, rfl, Below.refl _ _⟩
set_option maxRecDepth 100000 in
set_option maxHeartbeats 2000000 in
theorem sen10_s23 {Fc : Fence} (hF : Wide Fc) {nC : Nat} (gE i k r xa ya ua : Nat) (b4 b5 : Nat) (A B : Nat → Bool) (Q : Exit → Act → World → Prop) (df : List Deferred) (w0 : World)
    (hh : Hid (i < 22 ∧ k < 22 ∧ r < 22 ∧ xa < 256 ∧ ya < 256 ∧ ua < 256))
    (cx : ∀ W, Below w0.heap.size w0 W → W.cell? ⟨gE, i, none⟩ = some (.int .u8 (xa : Nat)))
    (cy : ∀ W, Below w0.heap.size w0 W → W.cell? ⟨gE, k, none⟩ = some (.int .u8 (ya : Nat)))
    (cu : ∀ W, Below w0.heap.size w0 W → W.cell? ⟨gE, r, none⟩ = some (.int .u8 (ua : Nat)))
    (h4 : SBox w0 b4 A) (h5 : SBox w0 b5 B) (hT : Tab w0)
    (x : Act) (w : World) (hB : Below w0.heap.size w0 w) (hdef : x.defers = df) (u1 : x.tmps.getD 1 undef = .slice (some ⟨gE, 0, none⟩) 22 22) (u2 : x.tmps.getD 2 undef = .int .i64 (i : Nat)) (u3 : x.tmps.getD 3 undef = .int .i64 (k : Nat)) (u4 : x.tmps.getD 4 undef = .pointer (some ⟨b4, 0, none⟩)) (u5 : x.tmps.getD 5 undef = .pointer (some ⟨b5, 0, none⟩))
    (p17 : sen10_val gE i k r xa ya ua b4 b5 A B 17 (x.tmps.getD 60 undef) w)
    : wpOpIn Fc nC Tryd.prog sen10_ops Q 23 (fun a' w' => ∃ v, a' = x.put (some 66) v ∧ (v = .int .i64 (k : Nat)) ∧ Below w.heap.size w w') x w := by
  have ho : sen10_ops[23]? = some sen10_o23 := rfl
  simp only [Array.getD_eq_getD_getElem?] at u1 u2 u3 u4 u5
  have q17 : x.tmps.getD 60 undef = .bool false := p17
  simp only [Array.getD_eq_getD_getElem?] at q17
  have e17 : (sen10_ops[17]?.bind fun x => x.dst) = some 60 := rfl
  have g17 := get_someT q17 (fun h => by cases h)
  refine wpOpIn_stepT hF ho (fun K hK => ?_)
  clear ho
  rw [Oper.semAt_plain Fc _ _ (by intro c h; cases h)]
  simp only [sen10_o23]
  go_simp
  exact hK _ _ ⟨_, act_putD x hdef _ _, rfl, Below.refl _ _⟩
set_option maxRecDepth 100000 in
set_option maxHeartbeats 2000000 in
theorem sen10_s24 {Fc : Fence} (hF : Wide Fc) {nC : Nat} (gE i k r xa ya ua : Nat) (b4 b5 : Nat) (A B : Nat → Bool) (Q : Exit → Act → World → Prop) (df : List Deferred) (w0 : World)
    (hh : Hid (i < 22 ∧ k < 22 ∧ r < 22 ∧ xa < 256 ∧ ya < 256 ∧ ua < 256))
    (cx : ∀ W, Below w0.heap.size w0 W → W.cell? ⟨gE, i, none⟩ = some (.int .u8 (xa : Nat)))
    (cy : ∀ W, Below w0.heap.size w0 W → W.cell? ⟨gE, k, none⟩ = some (.int .u8 (ya : Nat)))
    (cu : ∀ W, Below w0.heap.size w0 W → W.cell? ⟨gE, r, none⟩ = some (.int .u8 (ua : Nat)))
    (h4 : SBox w0 b4 A) (h5 : SBox w0 b5 B) (hT : Tab w0)
    (x : Act) (w : World) (hB : Below w0.heap.size w0 w) (hdef : x.defers = df) (u1 : x.tmps.getD 1 undef = .slice (some ⟨gE, 0, none⟩) 22 22) (u2 : x.tmps.getD 2 undef = .int .i64 (i : Nat)) (u3 : x.tmps.getD 3 undef = .int .i64 (k : Nat)) (u4 : x.tmps.getD 4 undef = .pointer (some ⟨b4, 0, none⟩)) (u5 : x.tmps.getD 5 undef = .pointer (some ⟨b5, 0, none⟩))
    (p22 : sen10_val gE i k r xa ya ua b4 b5 A B 22 (x.tmps.getD 65 undef) w)
    (p23 : sen10_val gE i k r xa ya ua b4 b5 A B 23 (x.tmps.getD 66 undef) w)
    (p17 : sen10_val gE i k r xa ya ua b4 b5 A B 17 (x.tmps.getD 60 undef) w)
    : wpOpIn Fc nC Tryd.prog sen10_ops Q 24 (fun a' w' => ∃ v, a' = x.put (some 67) v ∧ (v = .pointer (some ⟨gE, k, none⟩)) ∧ Below w.heap.size w w') x w := by
  have ho : sen10_ops[24]? = some sen10_o24 := rfl
  simp only [Array.getD_eq_getD_getElem?] at u1 u2 u3 u4 u5
  have q22 : x.tmps.getD 65 undef = .slice (some ⟨gE, 0, none⟩) 22 22 := p22
  have q23 : x.tmps.getD 66 undef = .int .i64 (k : Nat) := p23
  have q17 : x.tmps.getD 60 undef = .bool false := p17
  simp only [Array.getD_eq_getD_getElem?] at q22 q23 q17
  have e17 : (sen10_ops[17]?.bind fun x => x.dst) = some 60 := rfl
  have g17 := get_someT q17 (fun h => by cases h)
  have i0 : (0 : Int) ≤ (k : Int) := by omega
  have i1 : (k : Int) < 22 := by have := hh.out; omega
  refine wpOpIn_stepT hF ho (fun K hK => ?_)
  clear ho
  rw [Oper.semAt_plain Fc _ _ (by intro c h; cases h)]
  simp only [sen10_o24]
  go_simp
  exact hK _ _ ⟨_, act_putD x hdef _ _, rfl, Below.refl _ _⟩
set_option maxRecDepth 100000 in
set_option maxHeartbeats 2000000 in
theorem sen10_s25 {Fc : Fence} (hF : Wide Fc) {nC : Nat} (gE i k r xa ya ua : Nat) (b4 b5 : Nat) (A B : Nat → Bool) (Q : Exit → Act → World → Prop) (df : List Deferred) (w0 : World)
    (hh : Hid (i < 22 ∧ k < 22 ∧ r < 22 ∧ xa < 256 ∧ ya < 256 ∧ ua < 256))
    (cx : ∀ W, Below w0.heap.size w0 W → W.cell? ⟨gE, i, none⟩ = some (.int .u8 (xa : Nat)))
    (cy : ∀ W, Below w0.heap.size w0 W → W.cell? ⟨gE, k, none⟩ = some (.int .u8 (ya : Nat)))
    (cu : ∀ W, Below w0.heap.size w0 W → W.cell? ⟨gE, r, none⟩ = some (.int .u8 (ua : Nat)))
    (h4 : SBox w0 b4 A) (h5 : SBox w0 b5 B) (hT : Tab w0)
    (x : Act) (w : World) (hB : Below w0.heap.size w0 w) (hdef : x.defers = df) (u1 : x.tmps.getD 1 undef = .slice (some ⟨gE, 0, none⟩) 22 22) (u2 : x.tmps.getD 2 undef = .int .i64 (i : Nat)) (u3 : x.tmps.getD 3 undef = .int .i64 (k : Nat)) (u4 : x.tmps.getD 4 undef = .pointer (some ⟨b4, 0, none⟩)) (u5 : x.tmps.getD 5 undef = .pointer (some ⟨b5, 0, none⟩))
    (p24 : sen10_val gE i k r xa ya ua b4 b5 A B 24 (x.tmps.getD 67 undef) w)
    (p17 : sen10_val gE i k r xa ya ua b4 b5 A B 17 (x.tmps.getD 60 undef) w)
    : wpOpIn Fc nC Tryd.prog sen10_ops Q 25 (fun a' w' => ∃ v, a' = x.put (some 68) v ∧ (v = .int .u8 (ya : Nat)) ∧ Below w.heap.size w w') x w := by
  have ho : sen10_ops[25]? = some sen10_o25 := rfl
  simp only [Array.getD_eq_getD_getElem?] at u1 u2 u3 u4 u5
  have q24 : x.tmps.getD 67 undef = .pointer (some ⟨gE, k, none⟩) := p24
  have q17 : x.tmps.getD 60 undef = .bool false := p17
  simp only [Array.getD_eq_getD_getElem?] at q24 q17
  have e17 : (sen10_ops[17]?.bind fun x => x.dst) = some 60 := rfl
  have g17 := get_someT q17 (fun h => by cases h)
  have m := cy w hB
  refine wpOpIn_stepT hF ho (fun K hK => ?_)
  clear ho
  rw [Oper.semAt_plain Fc _ _ (by intro c h; cases h)]
  simp only [sen10_o25]
  go_simp
  exact hK _ _ ⟨_, act_putD x hdef _ _, rfl, Below.refl _ _⟩
set_option maxRecDepth 100000 in
set_option maxHeartbeats 2000000 in
theorem sen10_s26 {Fc : Fence} (hF : Wide Fc) {nC : Nat} (gE i k r xa ya ua : Nat) (b4 b5 : Nat) (A B : Nat → Bool) (Q : Exit → Act → World → Prop) (df : List Deferred) (w0 : World)
    (hh : Hid (i < 22 ∧ k < 22 ∧ r < 22 ∧ xa < 256 ∧ ya < 256 ∧ ua < 256))
    (cx : ∀ W, Below w0.heap.size w0 W → W.cell? ⟨gE, i, none⟩ = some (.int .u8 (xa : Nat)))
    (cy : ∀ W, Below w0.heap.size w0 W → W.cell? ⟨gE, k, none⟩ = some (.int .u8 (ya : Nat)))
    (cu : ∀ W, Below w0.heap.size w0 W → W.cell? ⟨gE, r, none⟩ = some (.int .u8 (ua : Nat)))
    (h4 : SBox w0 b4 A) (h5 : SBox w0 b5 B) (hT : Tab w0)
    (x : Act) (w : World) (hB : Below w0.heap.size w0 w) (hdef : x.defers = df) (u1 : x.tmps.getD 1 undef = .slice (some ⟨gE, 0, none⟩) 22 22) (u2 : x.tmps.getD 2 undef = .int .i64 (i : Nat)) (u3 : x.tmps.getD 3 undef = .int .i64 (k : Nat)) (u4 : x.tmps.getD 4 undef = .pointer (some ⟨b4, 0, none⟩)) (u5 : x.tmps.getD 5 undef = .pointer (some ⟨b5, 0, none⟩))
    (p17 : sen10_val gE i k r xa ya ua b4 b5 A B 17 (x.tmps.getD 60 undef) w)
    : wpOpIn Fc nC Tryd.prog sen10_ops Q 26 (fun a' w' => ∃ v, a' = x.put (some 69) v ∧ (v = .slice (some ⟨gE, 0, none⟩) 22 22) ∧ Below w.heap.size w w') x w := by
  have ho : sen10_ops[26]? = some sen10_o26 := rfl
  simp only [Array.getD_eq_getD_getElem?] at u1 u2 u3 u4 u5
  have q17 : x.tmps.getD 60 undef = .bool false := p17
  simp only [Array.getD_eq_getD_getElem?] at q17
  have e17 : (sen10_ops[17]?.bind fun x => x.dst) = some 60 := rfl
  have g17 := get_someT q17 (fun h => by cases h)
  refine wpOpIn_stepT hF ho (fun K hK => ?_)
  clear ho
  rw [Oper.semAt_plain Fc _ _ (by intro c h; cases h)]
  simp only [sen10_o26]
  go_simp
  exact hK _ _ ⟨_, act_putD x hdef _ _, rfl, Below.refl _ _⟩
set_option maxRecDepth 100000 in
set_option maxHeartbeats 2000000 in
theorem sen10_s27 {Fc : Fence} (hF : Wide Fc) {nC : Nat} (gE i k r xa ya ua : Nat) (b4 b5 : Nat) (A B : Nat → Bool) (Q : Exit → Act → World → Prop) (df : List Deferred) (w0 : World)
    (hh : Hid (i < 22 ∧ k < 22 ∧ r < 22 ∧ xa < 256 ∧ ya < 256 ∧ ua < 256))
    (cx : ∀ W, Below w0.heap.size w0 W → W.cell? ⟨gE, i, none⟩ = some (.int .u8 (xa : Nat)))
    (cy : ∀ W, Below w0.heap.size w0 W → W.cell? ⟨gE, k, none⟩ = some (.int .u8 (ya : Nat)))
    (cu : ∀ W, Below w0.heap.size w0 W → W.cell? ⟨gE, r, none⟩ = some (.int .u8 (ua : Nat)))
    (h4 : SBox w0 b4 A) (h5 : SBox w0 b5 B) (hT : Tab w0)
    (x : Act) (w : World) (hB : Below w0.heap.size w0 w) (hdef : x.defers = df) (u1 : x.tmps.getD 1 undef = .slice (some ⟨gE, 0, none⟩) 22 22) (u2 : x.tmps.getD 2 undef = .int .i64 (i : Nat)) (u3 : x.tmps.getD 3 undef = .int .i64 (k : Nat)) (u4 : x.tmps.getD 4 undef = .pointer (some ⟨b4, 0, none⟩)) (u5 : x.tmps.getD 5 undef = .pointer (some ⟨b5, 0, none⟩))
    (p17 : sen10_val gE i k r xa ya ua b4 b5 A B 17 (x.tmps.getD 60 undef) w)
    : wpOpIn Fc nC Tryd.prog sen10_ops Q 27 (fun a' w' => ∃ v, a' = x.put (some 70) v ∧ (v = .int .i64 (i : Nat)) ∧ Below w.heap.size w w') x w := by
  have ho : sen10_ops[27]? = some sen10_o27 := rfl
  simp only [Array.getD_eq_getD_getElem?] at u1 u2 u3 u4 u5
  have q17 : x.tmps.getD 60 undef = .bool false := p17
  simp only [Array.getD_eq_getD_getElem?] at q17
  have e17 : (sen10_ops[17]?.bind fun x => x.dst) = some 60 := rfl
  have g17 := get_someT q17 (fun h => by cases h)
  refine wpOpIn_stepT hF ho (fun K hK => ?_)
  clear ho
  rw [Oper.semAt_plain Fc _ _ (by intro c h; cases h)]
  simp only [sen10_o27]
  go_simp
  exact hK _ _ ⟨_, act_putD x hdef _ _, rfl, Below.refl _ _⟩
set_option maxRecDepth 100000 in
set_option maxHeartbeats 2000000 in
theorem sen10_s28 {Fc : Fence} (hF : Wide Fc) {nC : Nat} (gE i k r xa ya ua : Nat) (b4 b5 : Nat) (A B : Nat → Bool) (Q : Exit → Act → World → Prop) (df : List Deferred) (w0 : World)
    (hh : Hid (i < 22 ∧ k < 22 ∧ r < 22 ∧ xa < 256 ∧ ya < 256 ∧ ua < 256))
    (cx : ∀ W, Below w0.heap.size w0 W → W.cell? ⟨gE, i, none⟩ = some (.int .u8 (xa : Nat)))
    (cy : ∀ W, Below w0.heap.size w0 W → W.cell? ⟨gE, k, none⟩ = some (.int .u8 (ya : Nat)))
    (cu : ∀ W, Below w0.heap.size w0 W → W.cell? ⟨gE, r, none⟩ = some (.int .u8 (ua : Nat)))
    (h4 : SBox w0 b4 A) (h5 : SBox w0 b5 B) (hT : Tab w0)
    (x : Act) (w : World) (hB : Below w0.heap.size w0 w) (hdef : x.defers = df) (u1 : x.tmps.getD 1 undef = .slice (some ⟨gE, 0, none⟩) 22 22) (u2 : x.tmps.getD 2 undef = .int .i64 (i : Nat)) (u3 : x.tmps.getD 3 undef = .int .i64 (k : Nat)) (u4 : x.tmps.getD 4 undef = .pointer (some ⟨b4, 0, none⟩)) (u5 : x.tmps.getD 5 undef = .pointer (some ⟨b5, 0, none⟩))
    (p26 : sen10_val gE i k r xa ya ua b4 b5 A B 26 (x.tmps.getD 69 undef) w)
    (p27 : sen10_val gE i k r xa ya ua b4 b5 A B 27 (x.tmps.getD 70 undef) w)
    (p17 : sen10_val gE i k r xa ya ua b4 b5 A B 17 (x.tmps.getD 60 undef) w)
    : wpOpIn Fc nC Tryd.prog sen10_ops Q 28 (fun a' w' => ∃ v, a' = x.put (some 71) v ∧ (v = .pointer (some ⟨gE, i, none⟩)) ∧ Below w.heap.size w w') x w := by
  have ho : sen10_ops[28]? = some sen10_o28 := rfl
  simp only [Array.getD_eq_getD_getElem?] at u1 u2 u3 u4 u5
  have q26 : x.tmps.getD 69 undef = .slice (some ⟨gE, 0, none⟩) 22 22 := p26
  have q27 : x.tmps.getD 70 undef = .int .i64 (i : Nat) := p27
  have q17 : x.tmps.getD 60 undef = .bool false := p17
  simp only [Array.getD_eq_getD_getElem?] at q26 q27 q17
  have e17 : (sen10_ops[17]?.bind fun x => x.dst) = some 60 := rfl
  have g17 := get_someT q17 (fun h => by cases h)
  have i0 : (0 : Int) ≤ (i : Int) := by omega
  have i1 : (i : Int) < 22 := by have := hh.out; omega
  refine wpOpIn_stepT hF ho (fun K hK => ?_)
  clear ho
  rw [Oper.semAt_plain Fc _ _ (by intro c h; cases h)]
  simp only [sen10_o28]
  go_simp
  exact hK _ _ ⟨_, act_putD x hdef _ _, rfl, Below.refl _ _⟩
set_option maxRecDepth 100000 in
set_option maxHeartbeats 2000000 in
theorem sen10_s29 {Fc : Fence} (hF : Wide Fc) {nC : Nat} (gE i k r xa ya ua : Nat) (b4 b5 : Nat) (A B : Nat → Bool) (Q : Exit → Act → World → Prop) (df : List Deferred) (w0 : World)
    (hh : Hid (i < 22 ∧ k < 22 ∧ r < 22 ∧ xa < 256 ∧ ya < 256 ∧ ua < 256))
    (cx : ∀ W, Below w0.heap.size w0 W → W.cell? ⟨gE, i, none⟩ = some (.int .u8 (xa : Nat)))
    (cy : ∀ W, Below w0.heap.size w0 W → W.cell? ⟨gE, k, none⟩ = some (.int .u8 (ya : Nat)))
    (cu : ∀ W, Below w0.heap.size w0 W → W.cell? ⟨gE, r, none⟩ = some (.int .u8 (ua : Nat)))
    (h4 : SBox w0 b4 A) (h5 : SBox w0 b5 B) (hT : Tab w0)
    (x : Act) (w : World) (hB : Below w0.heap.size w0 w) (hdef : x.defers = df) (u1 : x.tmps.getD 1 undef = .slice (some ⟨gE, 0, none⟩) 22 22) (u2 : x.tmps.getD 2 undef = .int .i64 (i : Nat)) (u3 : x.tmps.getD 3 undef = .int .i64 (k : Nat)) (u4 : x.tmps.getD 4 undef = .pointer (some ⟨b4, 0, none⟩)) (u5 : x.tmps.getD 5 undef = .pointer (some ⟨b5, 0, none⟩))
    (p28 : sen10_val gE i k r xa ya ua b4 b5 A B 28 (x.tmps.getD 71 undef) w)
    (p17 : sen10_val gE i k r xa ya ua b4 b5 A B 17 (x.tmps.getD 60 undef) w)
    : wpOpIn Fc nC Tryd.prog sen10_ops Q 29 (fun a' w' => ∃ v, a' = x.put (some 72) v ∧ (v = .int .u8 (xa : Nat)) ∧ Below w.heap.size w w') x w := by
  have ho : sen10_ops[29]? = some sen10_o29 := rfl
  simp only [Array.getD_eq_getD_getElem?] at u1 u2 u3 u4 u5
  have q28 : x.tmps.getD 71 undef = .pointer (some ⟨gE, i, none⟩) := p28
  have q17 : x.tmps.getD 60 undef = .bool false := p17
  simp only [Array.getD_eq_getD_getElem?] at q28 q17
  have e17 : (sen10_ops[17]?.bind fun x => x.dst) = some 60 := rfl
  have g17 := get_someT q17 (fun h => by cases h)
  have m := cx w hB
  refine wpOpIn_stepT hF ho (fun K hK => ?_)
  clear ho
  rw [Oper.semAt_plain Fc _ _ (by intro c h; cases h)]
  simp only [sen10_o29]
  go_simp
  exact hK _ _ ⟨_, act_putD x hdef _ _, rfl, Below.refl _ _⟩
set_option maxRecDepth 100000 in
set_option maxHeartbeats 2000000 in
theorem sen10_s30 {Fc : Fence} (hF : Wide Fc) {nC : Nat} (gE i k r xa ya ua : Nat) (b4 b5 : Nat) (A B : Nat → Bool) (Q : Exit → Act → World → Prop) (df : List Deferred) (w0 : World)
    (hh : Hid (i < 22 ∧ k < 22 ∧ r < 22 ∧ xa < 256 ∧ ya < 256 ∧ ua < 256))
    (cx : ∀ W, Below w0.heap.size w0 W → W.cell? ⟨gE, i, none⟩ = some (.int .u8 (xa : Nat)))
    (cy : ∀ W, Below w0.heap.size w0 W → W.cell? ⟨gE, k, none⟩ = some (.int .u8 (ya : Nat)))
    (cu : ∀ W, Below w0.heap.size w0 W → W.cell? ⟨gE, r, none⟩ = some (.int .u8 (ua : Nat)))
    (h4 : SBox w0 b4 A) (h5 : SBox w0 b5 B) (hT : Tab w0)
    (x : Act) (w : World) (hB : Below w0.heap.size w0 w) (hdef : x.defers = df) (u1 : x.tmps.getD 1 undef = .slice (some ⟨gE, 0, none⟩) 22 22) (u2 : x.tmps.getD 2 undef = .int .i64 (i : Nat)) (u3 : x.tmps.getD 3 undef = .int .i64 (k : Nat)) (u4 : x.tmps.getD 4 undef = .pointer (some ⟨b4, 0, none⟩)) (u5 : x.tmps.getD 5 undef = .pointer (some ⟨b5, 0, none⟩))
    (p21 : sen10_val gE i k r xa ya ua b4 b5 A B 21 (x.tmps.getD 64 undef) w)
    (p25 : sen10_val gE i k r xa ya ua b4 b5 A B 25 (x.tmps.getD 68 undef) w)
    (p29 : sen10_val gE i k r xa ya ua b4 b5 A B 29 (x.tmps.getD 72 undef) w)
    (p17 : sen10_val gE i k r xa ya ua b4 b5 A B 17 (x.tmps.getD 60 undef) w)
    : wpOpIn Fc nC Tryd.prog sen10_ops Q 30 (fun a' w' => ∃ v, a' = x.put (some 73) v ∧ (∃ g, v = .slice (some ⟨g, 0, none⟩) 3 3 ∧ Byt w' (some ⟨g, 0, none⟩) 3 (triB xa ya)) ∧ Below w.heap.size w w') x w := by
  have ho : sen10_ops[30]? = some sen10_o30 := rfl
  simp only [Array.getD_eq_getD_getElem?] at u1 u2 u3 u4 u5
  have q21 : x.tmps.getD 64 undef = .int .u8 (xa : Nat) := p21
  have q25 : x.tmps.getD 68 undef = .int .u8 (ya : Nat) := p25
  have q29 : x.tmps.getD 72 undef = .int .u8 (xa : Nat) := p29
  have q17 : x.tmps.getD 60 undef = .bool false := p17
  simp only [Array.getD_eq_getD_getElem?] at q21 q25 q29 q17
  have e17 : (sen10_ops[17]?.bind fun x => x.dst) = some 60 := rfl
  have g17 := get_someT q17 (fun h => by cases h)
  refine wpOpIn_stepT hF ho (fun K hK => ?_)
  clear ho
  rw [Oper.semAt_plain Fc _ _ (by intro c h; cases h)]
  simp only [sen10_o30]
  go_simp
  exact hK _ _ ⟨_, act_putD x hdef _ _, ⟨_, rfl, tri_byt w w.heap.size rfl xa ya hh.out.2.2.2.1 hh.out.2.2.2.2.1⟩, below_alloc _ _⟩
set_option maxRecDepth 100000 in
set_option maxHeartbeats 2000000 in
theorem sen10_s31 {Fc : Fence} (hF : Wide Fc) {nC : Nat} (gE i k r xa ya ua : Nat) (b4 b5 : Nat) (A B : Nat → Bool) (Q : Exit → Act → World → Prop) (df : List Deferred) (w0 : World)
    (hh : Hid (i < 22 ∧ k < 22 ∧ r < 22 ∧ xa < 256 ∧ ya < 256 ∧ ua < 256))
    (cx : ∀ W, Below w0.heap.size w0 W → W.cell? ⟨gE, i, none⟩ = some (.int .u8 (xa : Nat)))
    (cy : ∀ W, Below w0.heap.size w0 W → W.cell? ⟨gE, k, none⟩ = some (.int .u8 (ya : Nat)))
    (cu : ∀ W, Below w0.heap.size w0 W → W.cell? ⟨gE, r, none⟩ = some (.int .u8 (ua : Nat)))
    (h4 : SBox w0 b4 A) (h5 : SBox w0 b5 B) (hT : Tab w0)
    (x : Act) (w : World) (hB : Below w0.heap.size w0 w) (hdef : x.defers = df) (u1 : x.tmps.getD 1 undef = .slice (some ⟨gE, 0, none⟩) 22 22) (u2 : x.tmps.getD 2 undef = .int .i64 (i : Nat)) (u3 : x.tmps.getD 3 undef = .int .i64 (k : Nat)) (u4 : x.tmps.getD 4 undef = .pointer (some ⟨b4, 0, none⟩)) (u5 : x.tmps.getD 5 undef = .pointer (some ⟨b5, 0, none⟩))
    (p17 : sen10_val gE i k r xa ya ua b4 b5 A B 17 (x.tmps.getD 60 undef) w)
    : wpOpIn Fc nC Tryd.prog sen10_ops Q 31 (fun a' w' => ∃ v, a' = x.put (some 74) v ∧ (v = .slice (some ⟨gE, 0, none⟩) 22 22) ∧ Below w.heap.size w w') x w := by
  have ho : sen10_ops[31]? = some sen10_o31 := rfl
  simp only [Array.getD_eq_getD_getElem?] at u1 u2 u3 u4 u5
  have q17 : x.tmps.getD 60 undef = .bool false := p17
  simp only [Array.getD_eq_getD_getElem?] at q17
  have e17 : (sen10_ops[17]?.bind fun x => x.dst) = some 60 := rfl
  have g17 := get_someT q17 (fun h => by cases h)
  refine wpOpIn_stepT hF ho (fun K hK => ?_)
  clear ho
  rw [Oper.semAt_plain Fc _ _ (by intro c h; cases h)]
  simp only [sen10_o31]
  go_simp
  exact hK _ _ ⟨_, act_putD x hdef _ _, rfl, Below.refl _ _⟩
set_option maxRecDepth 100000 in
set_option maxHeartbeats 2000000 in
theorem sen10_s32 {Fc : Fence} (hF : Wide Fc) {nC : Nat} (gE i k r xa ya ua : Nat) (b4 b5 : Nat) (A B : Nat → Bool) (Q : Exit → Act → World → Prop) (df : List Deferred) (w0 : World)
    (hh : Hid (i < 22 ∧ k < 22 ∧ r < 22 ∧ xa < 256 ∧ ya < 256 ∧ ua < 256))
    (cx : ∀ W, Below w0.heap.size w0 W → W.cell? ⟨gE, i, none⟩ = some (.int .u8 (xa : Nat)))
    (cy : ∀ W, Below w0.heap.size w0 W → W.cell? ⟨gE, k, none⟩ = some (.int .u8 (ya : Nat)))
    (cu : ∀ W, Below w0.heap.size w0 W → W.cell? ⟨gE, r, none⟩ = some (.int .u8 (ua : Nat)))
    (h4 : SBox w0 b4 A) (h5 : SBox w0 b5 B) (hT : Tab w0)
    (x : Act) (w : World) (hB : Below w0.heap.size w0 w) (hdef : x.defers = df) (u1 : x.tmps.getD 1 undef = .slice (some ⟨gE, 0, none⟩) 22 22) (u2 : x.tmps.getD 2 undef = .int .i64 (i : Nat)) (u3 : x.tmps.getD 3 undef = .int .i64 (k : Nat)) (u4 : x.tmps.getD 4 undef = .pointer (some ⟨b4, 0, none⟩)) (u5 : x.tmps.getD 5 undef = .pointer (some ⟨b5, 0, none⟩))
    (p17 : sen10_val gE i k r xa ya ua b4 b5 A B 17 (x.tmps.getD 60 undef) w)
    : wpOpIn Fc nC Tryd.prog sen10_ops Q 32 (fun a' w' => ∃ v, a' = x.put (some 75) v ∧ (v = .int .i64 (i : Nat)) ∧ Below w.heap.size w w') x w := by
  have ho : sen10_ops[32]? = some sen10_o32 := rfl
  simp only [Array.getD_eq_getD_getElem?] at u1 u2 u3 u4 u5
  have q17 : x.tmps.getD 60 undef = .bool false := p17
  simp only [Array.getD_eq_getD_getElem?] at q17
  have e17 : (sen10_ops[17]?.bind fun x => x.dst) = some 60 := rfl
  have g17 := get_someT q17 (fun h => by cases h)
  refine wpOpIn_stepT hF ho (fun K hK => ?_)
  clear ho
  rw [Oper.semAt_plain Fc _ _ (by intro c h; cases h)]
  simp only [sen10_o32]
  go_simp
  exact hK _ _ ⟨_, act_putD x hdef _ _, rfl, Below.refl _ _⟩
set_option maxRecDepth 100000 in
set_option maxHeartbeats 2000000 in
theorem sen10_s33 {Fc : Fence} (hF : Wide Fc) {nC : Nat} (gE i k r xa ya ua : Nat) (b4 b5 : Nat) (A B : Nat → Bool) (Q : Exit → Act → World → Prop) (df : List Deferred) (w0 : World)
    (hh : Hid (i < 22 ∧ k < 22 ∧ r < 22 ∧ xa < 256 ∧ ya < 256 ∧ ua < 256))
    (cx : ∀ W, Below w0.heap.size w0 W → W.cell? ⟨gE, i, none⟩ = some (.int .u8 (xa : Nat)))
    (cy : ∀ W, Below w0.heap.size w0 W → W.cell? ⟨gE, k, none⟩ = some (.int .u8 (ya : Nat)))
    (cu : ∀ W, Below w0.heap.size w0 W → W.cell? ⟨gE, r, none⟩ = some (.int .u8 (ua : Nat)))
    (h4 : SBox w0 b4 A) (h5 : SBox w0 b5 B) (hT : Tab w0)
    (x : Act) (w : World) (hB : Below w0.heap.size w0 w) (hdef : x.defers = df) (u1 : x.tmps.getD 1 undef = .slice (some ⟨gE, 0, none⟩) 22 22) (u2 : x.tmps.getD 2 undef = .int .i64 (i : Nat)) (u3 : x.tmps.getD 3 undef = .int .i64 (k : Nat)) (u4 : x.tmps.getD 4 undef = .pointer (some ⟨b4, 0, none⟩)) (u5 : x.tmps.getD 5 undef = .pointer (some ⟨b5, 0, none⟩))
    (p31 : sen10_val gE i k r xa ya ua b4 b5 A B 31 (x.tmps.getD 74 undef) w)
    (p32 : sen10_val gE i k r xa ya ua b4 b5 A B 32 (x.tmps.getD 75 undef) w)
    (p17 : sen10_val gE i k r xa ya ua b4 b5 A B 17 (x.tmps.getD 60 undef) w)
    : wpOpIn Fc nC Tryd.prog sen10_ops Q 33 (fun a' w' => ∃ v, a' = x.put (some 76) v ∧ (v = .pointer (some ⟨gE, i, none⟩)) ∧ Below w.heap.size w w') x w := by
  have ho : sen10_ops[33]? = some sen10_o33 := rfl
  simp only [Array.getD_eq_getD_getElem?] at u1 u2 u3 u4 u5
  have q31 : x.tmps.getD 74 undef = .slice (some ⟨gE, 0, none⟩) 22 22 := p31
  have q32 : x.tmps.getD 75 undef = .int .i64 (i : Nat) := p32
  have q17 : x.tmps.getD 60 undef = .bool false := p17
  simp only [Array.getD_eq_getD_getElem?] at q31 q32 q17
  have e17 : (sen10_ops[17]?.bind fun x => x.dst) = some 60 := rfl
  have g17 := get_someT q17 (fun h => by cases h)
  have i0 : (0 : Int) ≤ (i : Int) := by omega
  have i1 : (i : Int) < 22 := by have := hh.out; omega
  refine wpOpIn_stepT hF ho (fun K hK => ?_)
  clear ho
  rw [Oper.semAt_plain Fc _ _ (by intro c h; cases h)]
  simp only [sen10_o33]
  go_simp
  exact hK _ _ ⟨_, act_putD x hdef _ _, rfl, Below.refl _ _⟩
set_option maxRecDepth 100000 in
set_option maxHeartbeats 2000000 in
theorem sen10_s34 {Fc : Fence} (hF : Wide Fc) {nC : Nat} (gE i k r xa ya ua : Nat) (b4 b5 : Nat) (A B : Nat → Bool) (Q : Exit → Act → World → Prop) (df : List Deferred) (w0 : World)
    (hh : Hid (i < 22 ∧ k < 22 ∧ r < 22 ∧ xa < 256 ∧ ya < 256 ∧ ua < 256))
    (cx : ∀ W, Below w0.heap.size w0 W → W.cell? ⟨gE, i, none⟩ = some (.int .u8 (xa : Nat)))
    (cy : ∀ W, Below w0.heap.size w0 W → W.cell? ⟨gE, k, none⟩ = some (.int .u8 (ya : Nat)))
    (cu : ∀ W, Below w0.heap.size w0 W → W.cell? ⟨gE, r, none⟩ = some (.int .u8 (ua : Nat)))
    (h4 : SBox w0 b4 A) (h5 : SBox w0 b5 B) (hT : Tab w0)
    (x : Act) (w : World) (hB : Below w0.heap.size w0 w) (hdef : x.defers = df) (u1 : x.tmps.getD 1 undef = .slice (some ⟨gE, 0, none⟩) 22 22) (u2 : x.tmps.getD 2 undef = .int .i64 (i : Nat)) (u3 : x.tmps.getD 3 undef = .int .i64 (k : Nat)) (u4 : x.tmps.getD 4 undef = .pointer (some ⟨b4, 0, none⟩)) (u5 : x.tmps.getD 5 undef = .pointer (some ⟨b5, 0, none⟩))
    (p33 : sen10_val gE i k r xa ya ua b4 b5 A B 33 (x.tmps.getD 76 undef) w)
    (p17 : sen10_val gE i k r xa ya ua b4 b5 A B 17 (x.tmps.getD 60 undef) w)
    : wpOpIn Fc nC Tryd.prog sen10_ops Q 34 (fun a' w' => ∃ v, a' = x.put (some 77) v ∧ (v = .int .u8 (xa : Nat)) ∧ Below w.heap.size w w') x w := by
  have ho : sen10_ops[34]? = some sen10_o34 := rfl
  simp only [Array.getD_eq_getD_getElem?] at u1 u2 u3 u4 u5
  have q33 : x.tmps.getD 76 undef = .pointer (some ⟨gE, i, none⟩) := p33
  have q17 : x.tmps.getD 60 undef = .bool false := p17
  simp only [Array.getD_eq_getD_getElem?] at q33 q17
  have e17 : (sen10_ops[17]?.bind fun x => x.dst) = some 60 := rfl
  have g17 := get_someT q17 (fun h => by cases h)
  have m := cx w hB
  refine wpOpIn_stepT hF ho (fun K hK => ?_)
  clear ho
  rw [Oper.semAt_plain Fc _ _ (by intro c h; cases h)]
  simp only [sen10_o34]
  go_simp
  exact hK _ _ ⟨_, act_putD x hdef _ _, rfl, Below.refl _ _⟩
set_option maxRecDepth 100000 in
set_option maxHeartbeats 2000000 in
theorem sen10_s35 {Fc : Fence} (hF : Wide Fc) {nC : Nat} (gE i k r xa ya ua : Nat) (b4 b5 : Nat) (A B : Nat → Bool) (Q : Exit → Act → World → Prop) (df : List Deferred) (w0 : World)
    (hh : Hid (i < 22 ∧ k < 22 ∧ r < 22 ∧ xa < 256 ∧ ya < 256 ∧ ua < 256))
    (cx : ∀ W, Below w0.heap.size w0 W → W.cell? ⟨gE, i, none⟩ = some (.int .u8 (xa : Nat)))
    (cy : ∀ W, Below w0.heap.size w0 W → W.cell? ⟨gE, k, none⟩ = some (.int .u8 (ya : Nat)))
    (cu : ∀ W, Below w0.heap.size w0 W → W.cell? ⟨gE, r, none⟩ = some (.int .u8 (ua : Nat)))
    (h4 : SBox w0 b4 A) (h5 : SBox w0 b5 B) (hT : Tab w0)
    (x : Act) (w : World) (hB : Below w0.heap.size w0 w) (hdef : x.defers = df) (u1 : x.tmps.getD 1 undef = .slice (some ⟨gE, 0, none⟩) 22 22) (u2 : x.tmps.getD 2 undef = .int .i64 (i : Nat)) (u3 : x.tmps.getD 3 undef = .int .i64 (k : Nat)) (u4 : x.tmps.getD 4 undef = .pointer (some ⟨b4, 0, none⟩)) (u5 : x.tmps.getD 5 undef = .pointer (some ⟨b5, 0, none⟩))
    (p17 : sen10_val gE i k r xa ya ua b4 b5 A B 17 (x.tmps.getD 60 undef) w)
    : wpOpIn Fc nC Tryd.prog sen10_ops Q 35 (fun a' w' => ∃ v, a' = x.put (some 78) v ∧ (v = .slice (some ⟨gE, 0, none⟩) 22 22) ∧ Below w.heap.size w w') x w := by
  have ho : sen10_ops[35]? = some sen10_o35 := rfl
  simp only [Array.getD_eq_getD_getElem?] at u1 u2 u3 u4 u5
  have q17 : x.tmps.getD 60 undef = .bool false := p17
  simp only [Array.getD_eq_getD_getElem?] at q17
  have e17 : (sen10_ops[17]?.bind fun x => x.dst) = some 60 := rfl
  have g17 := get_someT q17 (fun h => by cases h)
  refine wpOpIn_stepT hF ho (fun K hK => ?_)
  clear ho
  rw [Oper.semAt_plain Fc _ _ (by intro c h; cases h)]
  simp only [sen10_o35]
  go_simp
  exact hK _ _ ⟨_, act_putD x hdef _ _, rfl, Below.refl _ _⟩
set_option maxRecDepth 100000 in
set_option maxHeartbeats 2000000 in
theorem sen10_s36 {Fc : Fence} (hF : Wide Fc) {nC : Nat} (gE i k r xa ya ua : Nat) (b4 b5 : Nat) (A B : Nat → Bool) (Q : Exit → Act → World → Prop) (df : List Deferred) (w0 : World)
    (hh : Hid (i < 22 ∧ k < 22 ∧ r < 22 ∧ xa < 256 ∧ ya < 256 ∧ ua < 256))
    (cx : ∀ W, Below w0.heap.size w0 W → W.cell? ⟨gE, i, none⟩ = some (.int .u8 (xa : Nat)))
    (cy : ∀ W, Below w0.heap.size w0 W → W.cell? ⟨gE, k, none⟩ = some (.int .u8 (ya : Nat)))
    (cu : ∀ W, Below w0.heap.size w0 W → W.cell? ⟨gE, r, none⟩ = some (.int .u8 (ua : Nat)))
    (h4 : SBox w0 b4 A) (h5 : SBox w0 b5 B) (hT : Tab w0)
    (x : Act) (w : World) (hB : Below w0.heap.size w0 w) (hdef : x.defers = df) (u1 : x.tmps.getD 1 undef = .slice (some ⟨gE, 0, none⟩) 22 22) (u2 : x.tmps.getD 2 undef = .int .i64 (i : Nat)) (u3 : x.tmps.getD 3 undef = .int .i64 (k : Nat)) (u4 : x.tmps.getD 4 undef = .pointer (some ⟨b4, 0, none⟩)) (u5 : x.tmps.getD 5 undef = .pointer (some ⟨b5, 0, none⟩))
    (p17 : sen10_val gE i k r xa ya ua b4 b5 A B 17 (x.tmps.getD 60 undef) w)
    : wpOpIn Fc nC Tryd.prog sen10_ops Q 36 (fun a' w' => ∃ v, a' = x.put (some 79) v ∧ (v = .int .i64 (k : Nat)) ∧ Below w.heap.size w w') x w := by
  have ho : sen10_ops[36]? = some sen10_o36 := rfl
  simp only [Array.getD_eq_getD_getElem?] at u1 u2 u3 u4 u5
  have q17 : x.tmps.getD 60 undef = .bool false := p17
  simp only [Array.getD_eq_getD_getElem?] at q17
  have e17 : (sen10_ops[17]?.bind fun x => x.dst) = some 60 := rfl
  have g17 := get_someT q17 (fun h => by cases h)
  refine wpOpIn_stepT hF ho (fun K hK => ?_)
  clear ho
  rw [Oper.semAt_plain Fc _ _ (by intro c h; cases h)]
  simp only [sen10_o36]
  go_simp
  exact hK _ _ ⟨_, act_putD x hdef _ _, rfl, Below.refl _ _⟩
set_option maxRecDepth 100000 in
set_option maxHeartbeats 2000000 in
theorem sen10_s37 {Fc : Fence} (hF : Wide Fc) {nC : Nat} (gE i k r xa ya ua : Nat) (b4 b5 : Nat) (A B : Nat → Bool) (Q : Exit → Act → World → Prop) (df : List Deferred) (w0 : World)
    (hh : Hid (i < 22 ∧ k < 22 ∧ r < 22 ∧ xa < 256 ∧ ya < 256 ∧ ua < 256))
    (cx : ∀ W, Below w0.heap.size w0 W → W.cell? ⟨gE, i, none⟩ = some (.int .u8 (xa : Nat)))
    (cy : ∀ W, Below w0.heap.size w0 W → W.cell? ⟨gE, k, none⟩ = some (.int .u8 (ya : Nat)))
    (cu : ∀ W, Below w0.heap.size w0 W → W.cell? ⟨gE, r, none⟩ = some (.int .u8 (ua : Nat)))
    (h4 : SBox w0 b4 A) (h5 : SBox w0 b5 B) (hT : Tab w0)
    (x : Act) (w : World) (hB : Below w0.heap.size w0 w) (hdef : x.defers = df) (u1 : x.tmps.getD 1 undef = .slice (some ⟨gE, 0, none⟩) 22 22) (u2 : x.tmps.getD 2 undef = .int .i64 (i : Nat)) (u3 : x.tmps.getD 3 undef = .int .i64 (k : Nat)) (u4 : x.tmps.getD 4 undef = .pointer (some ⟨b4, 0, none⟩)) (u5 : x.tmps.getD 5 undef = .pointer (some ⟨b5, 0, none⟩))
    (p35 : sen10_val gE i k r xa ya ua b4 b5 A B 35 (x.tmps.getD 78 undef) w)
    (p36 : sen10_val gE i k r xa ya ua b4 b5 A B 36 (x.tmps.getD 79 undef) w)
    (p17 : sen10_val gE i k r xa ya ua b4 b5 A B 17 (x.tmps.getD 60 undef) w)
    : wpOpIn Fc nC Tryd.prog sen10_ops Q 37 (fun a' w' => ∃ v, a' = x.put (some 80) v ∧ (v = .pointer (some ⟨gE, k, none⟩)) ∧ Below w.heap.size w w') x w := by
  have ho : sen10_ops[37]? = some sen10_o37 := rfl
  simp only [Array.getD_eq_getD_getElem?] at u1 u2 u3 u4 u5
  have q35 : x.tmps.getD 78 undef = .slice (some ⟨gE, 0, none⟩) 22 22 := p35
  have q36 : x.tmps.getD 79 undef = .int .i64 (k : Nat) := p36
  have q17 : x.tmps.getD 60 undef = .bool false := p17
  simp only [Array.getD_eq_getD_getElem?] at q35 q36 q17
  have e17 : (sen10_ops[17]?.bind fun x => x.dst) = some 60 := rfl
  have g17 := get_someT q17 (fun h => by cases h)
  have i0 : (0 : Int) ≤ (k : Int) := by omega
  have i1 : (k : Int) < 22 := by have := hh.out; omega
  refine wpOpIn_stepT hF ho (fun K hK => ?_)
  clear ho
  rw [Oper.semAt_plain Fc _ _ (by intro c h; cases h)]
  simp only [sen10_o37]
  go_simp
  exact hK _ _ ⟨_, act_putD x hdef _ _, rfl, Below.refl _ _⟩
set_option maxRecDepth 100000 in
set_option maxHeartbeats 2000000 in
theorem sen10_s38 {Fc : Fence} (hF : Wide Fc) {nC : Nat} (gE i k r xa ya ua : Nat) (b4 b5 : Nat) (A B : Nat → Bool) (Q : Exit → Act → World → Prop) (df : List Deferred) (w0 : World)
    (hh : Hid (i < 22 ∧ k < 22 ∧ r < 22 ∧ xa < 256 ∧ ya < 256 ∧ ua < 256))
    (cx : ∀ W, Below w0.heap.size w0 W → W.cell? ⟨gE, i, none⟩ = some (.int .u8 (xa : Nat)))
    (cy : ∀ W, Below w0.heap.size w0 W → W.cell? ⟨gE, k, none⟩ = some (.int .u8 (ya : Nat)))
    (cu : ∀ W, Below w0.heap.size w0 W → W.cell? ⟨gE, r, none⟩ = some (.int .u8 (ua : Nat)))
    (h4 : SBox w0 b4 A) (h5 : SBox w0 b5 B) (hT : Tab w0)
    (x : Act) (w : World) (hB : Below w0.heap.size w0 w) (hdef : x.defers = df) (u1 : x.tmps.getD 1 undef = .slice (some ⟨gE, 0, none⟩) 22 22) (u2 : x.tmps.getD 2 undef = .int .i64 (i : Nat)) (u3 : x.tmps.getD 3 undef = .int .i64 (k : Nat)) (u4 : x.tmps.getD 4 undef = .pointer (some ⟨b4, 0, none⟩)) (u5 : x.tmps.getD 5 undef = .pointer (some ⟨b5, 0, none⟩))
    (p37 : sen10_val gE i k r xa ya ua b4 b5 A B 37 (x.tmps.getD 80 undef) w)
    (p17 : sen10_val gE i k r xa ya ua b4 b5 A B 17 (x.tmps.getD 60 undef) w)
    : wpOpIn Fc nC Tryd.prog sen10_ops Q 38 (fun a' w' => ∃ v, a' = x.put (some 81) v ∧ (v = .int .u8 (ya : Nat)) ∧ Below w.heap.size w w') x w := by
  have ho : sen10_ops[38]? = some sen10_o38 := rfl
  simp only [Array.getD_eq_getD_getElem?] at u1 u2 u3 u4 u5
  have q37 : x.tmps.getD 80 undef = .pointer (some ⟨gE, k, none⟩) := p37
  have q17 : x.tmps.getD 60 undef = .bool false := p17
  simp only [Array.getD_eq_getD_getElem?] at q37 q17
  have e17 : (sen10_ops[17]?.bind fun x => x.dst) = some 60 := rfl
  have g17 := get_someT q17 (fun h => by cases h)
  have m := cy w hB
  refine wpOpIn_stepT hF ho (fun K hK => ?_)
  clear ho
  rw [Oper.semAt_plain Fc _ _ (by intro c h; cases h)]
  simp only [sen10_o38]
  go_simp
  exact hK _ _ ⟨_, act_putD x hdef _ _, rfl, Below.refl _ _⟩
set_option maxRecDepth 100000 in
set_option maxHeartbeats 2000000 in
theorem sen10_s39 {Fc : Fence} (hF : Wide Fc) {nC : Nat} (gE i k r xa ya ua : Nat) (b4 b5 : Nat) (A B : Nat → Bool) (Q : Exit → Act → World → Prop) (df : List Deferred) (w0 : World)
    (hh : Hid (i < 22 ∧ k < 22 ∧ r < 22 ∧ xa < 256 ∧ ya < 256 ∧ ua < 256))
    (cx : ∀ W, Below w0.heap.size w0 W → W.cell? ⟨gE, i, none⟩ = some (.int .u8 (xa : Nat)))
    (cy : ∀ W, Below w0.heap.size w0 W → W.cell? ⟨gE, k, none⟩ = some (.int .u8 (ya : Nat)))
    (cu : ∀ W, Below w0.heap.size w0 W → W.cell? ⟨gE, r, none⟩ = some (.int .u8 (ua : Nat)))
    (h4 : SBox w0 b4 A) (h5 : SBox w0 b5 B) (hT : Tab w0)
    (x : Act) (w : World) (hB : Below w0.heap.size w0 w) (hdef : x.defers = df) (u1 : x.tmps.getD 1 undef = .slice (some ⟨gE, 0, none⟩) 22 22) (u2 : x.tmps.getD 2 undef = .int .i64 (i : Nat)) (u3 : x.tmps.getD 3 undef = .int .i64 (k : Nat)) (u4 : x.tmps.getD 4 undef = .pointer (some ⟨b4, 0, none⟩)) (u5 : x.tmps.getD 5 undef = .pointer (some ⟨b5, 0, none⟩))
    (p17 : sen10_val gE i k r xa ya ua b4 b5 A B 17 (x.tmps.getD 60 undef) w)
    : wpOpIn Fc nC Tryd.prog sen10_ops Q 39 (fun a' w' => ∃ v, a' = x.put (some 82) v ∧ (v = sv A) ∧ Below w.heap.size w w') x w := by
  have ho : sen10_ops[39]? = some sen10_o39 := rfl
  simp only [Array.getD_eq_getD_getElem?] at u1 u2 u3 u4 u5
  have q17 : x.tmps.getD 60 undef = .bool false := p17
  simp only [Array.getD_eq_getD_getElem?] at q17
  have e17 : (sen10_ops[17]?.bind fun x => x.dst) = some 60 := rfl
  have g17 := get_someT q17 (fun h => by cases h)
  have hsb := h4.below hB h4.lt
  have c0 := hsb.cell 0 (by omega)
  have c1 := hsb.cell 1 (by omega)
  have c2 := hsb.cell 2 (by omega)
  have c3 := hsb.cell 3 (by omega)
  refine wpOpIn_stepT hF ho (fun K hK => ?_)
  clear ho
  rw [Oper.semAt_plain Fc _ _ (by intro c h; cases h)]
  simp only [sen10_o39]
  go_simp
  exact hK _ _ ⟨_, act_putD x hdef _ _, rfl, Below.refl _ _⟩
set_option maxRecDepth 100000 in
set_option maxHeartbeats 2000000 in
theorem sen10_s40 {Fc : Fence} (hF : Wide Fc) {nC : Nat} (gE i k r xa ya ua : Nat) (b4 b5 : Nat) (A B : Nat → Bool) (Q : Exit → Act → World → Prop) (df : List Deferred) (w0 : World)
    (hh : Hid (i < 22 ∧ k < 22 ∧ r < 22 ∧ xa < 256 ∧ ya < 256 ∧ ua < 256))
    (cx : ∀ W, Below w0.heap.size w0 W → W.cell? ⟨gE, i, none⟩ = some (.int .u8 (xa : Nat)))
    (cy : ∀ W, Below w0.heap.size w0 W → W.cell? ⟨gE, k, none⟩ = some (.int .u8 (ya : Nat)))
    (cu : ∀ W, Below w0.heap.size w0 W → W.cell? ⟨gE, r, none⟩ = some (.int .u8 (ua : Nat)))
    (h4 : SBox w0 b4 A) (h5 : SBox w0 b5 B) (hT : Tab w0)
    (x : Act) (w : World) (hB : Below w0.heap.size w0 w) (hdef : x.defers = df) (u1 : x.tmps.getD 1 undef = .slice (some ⟨gE, 0, none⟩) 22 22) (u2 : x.tmps.getD 2 undef = .int .i64 (i : Nat)) (u3 : x.tmps.getD 3 undef = .int .i64 (k : Nat)) (u4 : x.tmps.getD 4 undef = .pointer (some ⟨b4, 0, none⟩)) (u5 : x.tmps.getD 5 undef = .pointer (some ⟨b5, 0, none⟩))
    (p17 : sen10_val gE i k r xa ya ua b4 b5 A B 17 (x.tmps.getD 60 undef) w)
    : wpOpIn Fc nC Tryd.prog sen10_ops Q 40 (fun a' w' => ∃ v, a' = x.put (some 83) v ∧ (v = sv B) ∧ Below w.heap.size w w') x w := by
  have ho : sen10_ops[40]? = some sen10_o40 := rfl
  simp only [Array.getD_eq_getD_getElem?] at u1 u2 u3 u4 u5
  have q17 : x.tmps.getD 60 undef = .bool false := p17
  simp only [Array.getD_eq_getD_getElem?] at q17
  have e17 : (sen10_ops[17]?.bind fun x => x.dst) = some 60 := rfl
  have g17 := get_someT q17 (fun h => by cases h)
  have hsb := h5.below hB h5.lt
  have c0 := hsb.cell 0 (by omega)
  have c1 := hsb.cell 1 (by omega)
  have c2 := hsb.cell 2 (by omega)
  have c3 := hsb.cell 3 (by omega)
  refine wpOpIn_stepT hF ho (fun K hK => ?_)
  clear ho
  rw [Oper.semAt_plain Fc _ _ (by intro c h; cases h)]
  simp only [sen10_o40]
  go_simp
  exact hK _ _ ⟨_, act_putD x hdef _ _, rfl, Below.refl _ _⟩
set_option maxRecDepth 100000 in
set_option maxHeartbeats 2000000 in
theorem sen10_s41 {Fc : Fence} (hF : Wide Fc) {nC : Nat} (gE i k r xa ya ua : Nat) (b4 b5 : Nat) (A B : Nat → Bool) (Q : Exit → Act → World → Prop) (df : List Deferred) (w0 : World)
    (hh : Hid (i < 22 ∧ k < 22 ∧ r < 22 ∧ xa < 256 ∧ ya < 256 ∧ ua < 256))
    (cx : ∀ W, Below w0.heap.size w0 W → W.cell? ⟨gE, i, none⟩ = some (.int .u8 (xa : Nat)))
    (cy : ∀ W, Below w0.heap.size w0 W → W.cell? ⟨gE, k, none⟩ = some (.int .u8 (ya : Nat)))
    (cu : ∀ W, Below w0.heap.size w0 W → W.cell? ⟨gE, r, none⟩ = some (.int .u8 (ua : Nat)))
    (h4 : SBox w0 b4 A) (h5 : SBox w0 b5 B) (hT : Tab w0)
    (x : Act) (w : World) (hB : Below w0.heap.size w0 w) (hdef : x.defers = df) (u1 : x.tmps.getD 1 undef = .slice (some ⟨gE, 0, none⟩) 22 22) (u2 : x.tmps.getD 2 undef = .int .i64 (i : Nat)) (u3 : x.tmps.getD 3 undef = .int .i64 (k : Nat)) (u4 : x.tmps.getD 4 undef = .pointer (some ⟨b4, 0, none⟩)) (u5 : x.tmps.getD 5 undef = .pointer (some ⟨b5, 0, none⟩))
    (p39 : sen10_val gE i k r xa ya ua b4 b5 A B 39 (x.tmps.getD 82 undef) w)
    (p40 : sen10_val gE i k r xa ya ua b4 b5 A B 40 (x.tmps.getD 83 undef) w)
    (p17 : sen10_val gE i k r xa ya ua b4 b5 A B 17 (x.tmps.getD 60 undef) w)
    : wpOpIn Fc nC Tryd.prog sen10_ops Q 41 (fun a' w' => ∃ v, a' = x.put (some 84) v ∧ (∃ g, v = .slice (some ⟨g, 0, none⟩) 2 2 ∧ Sets w' (some ⟨g, 0, none⟩) 2 (two A B)) ∧ Below w.heap.size w w') x w := by
  have ho : sen10_ops[41]? = some sen10_o41 := rfl
  simp only [Array.getD_eq_getD_getElem?] at u1 u2 u3 u4 u5
  have q39 : x.tmps.getD 82 undef = sv A := p39
  have q40 : x.tmps.getD 83 undef = sv B := p40
  have q17 : x.tmps.getD 60 undef = .bool false := p17
  simp only [Array.getD_eq_getD_getElem?] at q39 q40 q17
  have e17 : (sen10_ops[17]?.bind fun x => x.dst) = some 60 := rfl
  have g17 := get_someT q17 (fun h => by cases h)
  simp only [sv, st, sc] at q39 q40
  refine wpOpIn_stepT hF ho (fun K hK => ?_)
  clear ho
  rw [Oper.semAt_plain Fc _ _ (by intro c h; cases h)]
  simp only [sen10_o41]
  go_simp
  exact hK _ _ ⟨_, act_putD x hdef _ _, ⟨_, rfl, two_sets w w.heap.size rfl A B _⟩, below_alloc _ _⟩
set_option maxRecDepth 100000 in
set_option maxHeartbeats 2000000 in
theorem sen10_s42 {Fc : Fence} (hF : Wide Fc) {nC : Nat} (gE i k r xa ya ua : Nat) (b4 b5 : Nat) (A B : Nat → Bool) (Q : Exit → Act → World → Prop) (df : List Deferred) (w0 : World)
    (hh : Hid (i < 22 ∧ k < 22 ∧ r < 22 ∧ xa < 256 ∧ ya < 256 ∧ ua < 256))
    (cx : ∀ W, Below w0.heap.size w0 W → W.cell? ⟨gE, i, none⟩ = some (.int .u8 (xa : Nat)))
    (cy : ∀ W, Below w0.heap.size w0 W → W.cell? ⟨gE, k, none⟩ = some (.int .u8 (ya : Nat)))
    (cu : ∀ W, Below w0.heap.size w0 W → W.cell? ⟨gE, r, none⟩ = some (.int .u8 (ua : Nat)))
    (h4 : SBox w0 b4 A) (h5 : SBox w0 b5 B) (hT : Tab w0)
    (x : Act) (w : World) (hB : Below w0.heap.size w0 w) (hdef : x.defers = df) (u1 : x.tmps.getD 1 undef = .slice (some ⟨gE, 0, none⟩) 22 22) (u2 : x.tmps.getD 2 undef = .int .i64 (i : Nat)) (u3 : x.tmps.getD 3 undef = .int .i64 (k : Nat)) (u4 : x.tmps.getD 4 undef = .pointer (some ⟨b4, 0, none⟩)) (u5 : x.tmps.getD 5 undef = .pointer (some ⟨b5, 0, none⟩))
    (p30 : sen10_val gE i k r xa ya ua b4 b5 A B 30 (x.tmps.getD 73 undef) w)
    (p34 : sen10_val gE i k r xa ya ua b4 b5 A B 34 (x.tmps.getD 77 undef) w)
    (p38 : sen10_val gE i k r xa ya ua b4 b5 A B 38 (x.tmps.getD 81 undef) w)
    (p41 : sen10_val gE i k r xa ya ua b4 b5 A B 41 (x.tmps.getD 84 undef) w)
    (p17 : sen10_val gE i k r xa ya ua b4 b5 A B 17 (x.tmps.getD 60 undef) w)
    : wpOpIn Fc nC Tryd.prog sen10_ops Q 42 (fun a' w' => ∃ v, a' = x.put (some 85) v ∧ (v = .bool true) ∧ Below w.heap.size w w') x w := by
  have ho : sen10_ops[42]? = some sen10_o42 := rfl
  simp only [Array.getD_eq_getD_getElem?] at u1 u2 u3 u4 u5
  obtain ⟨g30, q30, p30⟩ := p30
  have q30 : x.tmps.getD 73 undef = .slice (some ⟨g30, 0, none⟩) 3 3 := q30
  have q34 : x.tmps.getD 77 undef = .int .u8 (xa : Nat) := p34
  have q38 : x.tmps.getD 81 undef = .int .u8 (ya : Nat) := p38
  obtain ⟨g41, q41, p41⟩ := p41
  have q41 : x.tmps.getD 84 undef = .slice (some ⟨g41, 0, none⟩) 2 2 := q41
  have q17 : x.tmps.getD 60 undef = .bool false := p17
  simp only [Array.getD_eq_getD_getElem?] at q30 q34 q38 q41 q17
  have e17 : (sen10_ops[17]?.bind fun x => x.dst) = some 60 := rfl
  have g17 := get_someT q17 (fun h => by cases h)
  refine wpOpIn_stepT hF ho (fun K hK => ?_)
  clear ho
  rw [Oper.semAt_plain Fc _ _ (by intro c h; cases h)]
  simp only [sen10_o42]
  go_simp
  refine ⟨hF.deep, (hF.call (setMakes_any _ 3 3 (triB xa ya) xa ya _ 2 2 (two A B) w (by omega) (fun e => by cases e) p30 hh.out.2.2.2.1 hh.out.2.2.2.2.1 (by omega) (fun e => by cases e) (by omega) p41 (hT.below hB))).mono ?_⟩
  rintro e w' ⟨rfl, hb⟩
  exact hK _ _ ⟨_, act_putD x hdef _ _, rfl, hb⟩
set_option maxRecDepth 100000 in
set_option maxHeartbeats 2000000 in
theorem sen10_s43 {Fc : Fence} (hF : Wide Fc) {nC : Nat} (gE i k r xa ya ua : Nat) (b4 b5 : Nat) (A B : Nat → Bool) (Q : Exit → Act → World → Prop) (df : List Deferred) (w0 : World)
    (hh : Hid (i < 22 ∧ k < 22 ∧ r < 22 ∧ xa < 256 ∧ ya < 256 ∧ ua < 256))
    (cx : ∀ W, Below w0.heap.size w0 W → W.cell? ⟨gE, i, none⟩ = some (.int .u8 (xa : Nat)))
    (cy : ∀ W, Below w0.heap.size w0 W → W.cell? ⟨gE, k, none⟩ = some (.int .u8 (ya : Nat)))
    (cu : ∀ W, Below w0.heap.size w0 W → W.cell? ⟨gE, r, none⟩ = some (.int .u8 (ua : Nat)))
    (h4 : SBox w0 b4 A) (h5 : SBox w0 b5 B) (hT : Tab w0)
    (x : Act) (w : World) (hB : Below w0.heap.size w0 w) (hdef : x.defers = df) (u1 : x.tmps.getD 1 undef = .slice (some ⟨gE, 0, none⟩) 22 22) (u2 : x.tmps.getD 2 undef = .int .i64 (i : Nat)) (u3 : x.tmps.getD 3 undef = .int .i64 (k : Nat)) (u4 : x.tmps.getD 4 undef = .pointer (some ⟨b4, 0, none⟩)) (u5 : x.tmps.getD 5 undef = .pointer (some ⟨b5, 0, none⟩))
    (p42 : sen10_val gE i k r xa ya ua b4 b5 A B 42 (x.tmps.getD 85 undef) w)
    (p17 : sen10_val gE i k r xa ya ua b4 b5 A B 17 (x.tmps.getD 60 undef) w)
    : wpOpIn Fc nC Tryd.prog sen10_ops Q 43 (fun a' w' => ∃ v, a' = x.put (some 86) v ∧ (v = .bool false) ∧ Below w.heap.size w w') x w := by
  have ho : sen10_ops[43]? = some sen10_o43 := rfl
  simp only [Array.getD_eq_getD_getElem?] at u1 u2 u3 u4 u5
  have q42 : x.tmps.getD 85 undef = .bool true := p42
  have q17 : x.tmps.getD 60 undef = .bool false := p17
  simp only [Array.getD_eq_getD_getElem?] at q42 q17
  have e17 : (sen10_ops[17]?.bind fun x => x.dst) = some 60 := rfl
  have g17 := get_someT q17 (fun h => by cases h)
  refine wpOpIn_stepT hF ho (fun K hK => ?_)
  clear ho
  rw [Oper.semAt_plain Fc _ _ (by intro c h; cases h)]
  simp only [sen10_o43]
  go_simp
  exact hK _ _ ⟨_, act_putD x hdef _ _, rfl, Below.refl _ _⟩
set_option maxRecDepth 100000 in
set_option maxHeartbeats 2000000 in
theorem sen10_s44 {Fc : Fence} (hF : Wide Fc) {nC : Nat} (gE i k r xa ya ua : Nat) (b4 b5 : Nat) (A B : Nat → Bool) (Q : Exit → Act → World → Prop) (df : List Deferred) (w0 : World)
    (hh : Hid (i < 22 ∧ k < 22 ∧ r < 22 ∧ xa < 256 ∧ ya < 256 ∧ ua < 256))
    (cx : ∀ W, Below w0.heap.size w0 W → W.cell? ⟨gE, i, none⟩ = some (.int .u8 (xa : Nat)))
    (cy : ∀ W, Below w0.heap.size w0 W → W.cell? ⟨gE, k, none⟩ = some (.int .u8 (ya : Nat)))
    (cu : ∀ W, Below w0.heap.size w0 W → W.cell? ⟨gE, r, none⟩ = some (.int .u8 (ua : Nat)))
    (h4 : SBox w0 b4 A) (h5 : SBox w0 b5 B) (hT : Tab w0)
    (x : Act) (w : World) (hB : Below w0.heap.size w0 w) (hdef : x.defers = df) (u1 : x.tmps.getD 1 undef = .slice (some ⟨gE, 0, none⟩) 22 22) (u2 : x.tmps.getD 2 undef = .int .i64 (i : Nat)) (u3 : x.tmps.getD 3 undef = .int .i64 (k : Nat)) (u4 : x.tmps.getD 4 undef = .pointer (some ⟨b4, 0, none⟩)) (u5 : x.tmps.getD 5 undef = .pointer (some ⟨b5, 0, none⟩))
    (p17 : sen10_val gE i k r xa ya ua b4 b5 A B 17 (x.tmps.getD 60 undef) w)
    (p43 : sen10_val gE i k r xa ya ua b4 b5 A B 43 (x.tmps.getD 86 undef) w)
    : wpOpIn Fc nC Tryd.prog sen10_ops Q 44 (fun a' w' => ∃ v, a' = x.put (some 87) v ∧ (v = .bool false) ∧ Below w.heap.size w w') x w := by
  have ho : sen10_ops[44]? = some sen10_o44 := rfl
  simp only [Array.getD_eq_getD_getElem?] at u1 u2 u3 u4 u5
  have q17 : x.tmps.getD 60 undef = .bool false := p17
  have q43 : x.tmps.getD 86 undef = .bool false := p43
  simp only [Array.getD_eq_getD_getElem?] at q17 q43
  refine wpOpIn_plain ho rfl (oper_inK hF.fn (fun K hK => ?_))
  clear ho
  rw [Oper.semAt_plain Fc _ _ (by intro c h; cases h)]
  simp only [sen10_o44]
  go_simp
  exact hK _ _ ⟨_, act_putD x hdef _ _, rfl, Below.refl _ _⟩

set_option maxRecDepth 100000 in
set_option maxHeartbeats 4000000 in
theorem sen10 {Fc : Fence} (hF : Wide Fc) {nC : Nat} (gE i k r xa ya ua : Nat) (b4 b5 : Nat) (A B : Nat → Bool) (Q : Exit → Act → World → Prop) (t0 : Array Value) (df : List Deferred) (w0 : World) (ht : t0.size = 126)
    (hs1 : t0.getD 1 undef = .slice (some ⟨gE, 0, none⟩) 22 22) (hs2 : t0.getD 2 undef = .int .i64 (i : Nat)) (hs3 : t0.getD 3 undef = .int .i64 (k : Nat)) (hs4 : t0.getD 4 undef = .pointer (some ⟨b4, 0, none⟩)) (hs5 : t0.getD 5 undef = .pointer (some ⟨b5, 0, none⟩))
    (hh : Hid (i < 22 ∧ k < 22 ∧ r < 22 ∧ xa < 256 ∧ ya < 256 ∧ ua < 256))
    (cx : ∀ W, Below w0.heap.size w0 W → W.cell? ⟨gE, i, none⟩ = some (.int .u8 (xa : Nat)))
    (cy : ∀ W, Below w0.heap.size w0 W → W.cell? ⟨gE, k, none⟩ = some (.int .u8 (ya : Nat)))
    (cu : ∀ W, Below w0.heap.size w0 W → W.cell? ⟨gE, r, none⟩ = some (.int .u8 (ua : Nat)))
    (h4 : SBox w0 b4 A) (h5 : SBox w0 b5 B) (hT : Tab w0)
    (hQ : ∀ (vs : Nat → Value) (w : World), Below w0.heap.size w0 w → (vs 87 = .bool false) → Q .normal { tmps := [43, 44, 45, 46, 47, 48, 49, 50, 51, 52, 53, 54, 55, 56, 57, 58, 59, 60, 61, 62, 63, 64, 65, 66, 67, 68, 69, 70, 71, 72, 73, 74, 75, 76, 77, 78, 79, 80, 81, 82, 83, 84, 85, 86, 87].foldl (fun y d => y.setIfInBounds d (vs d)) t0, defers := df } w) :
    (Code.region 10 sen10_ops true).wpIn Fc nC Tryd.prog Q { tmps := t0, defers := df } w0 := by
  refine wpIn_region_tail 45 (by decide) (by kernel_rfl) (fun a b => Below a.heap.size a b) (sen10_val gE i k r xa ya ua b4 b5 A B) t0 df w0 (by rw [ht]; kernel_rfl) (by kernel_rfl) (by kernel_rfl) (by kernel_rfl) ((Below.refl _ _).drew) (fun _ _ _ h k => h.trans (k.mono h.size)) (sen10_below gE i k r xa ya ua b4 b5 A B) ?_ ?_
  · intro j o ho hj x w hB hdef hsz hs hdeps
    have hs' : ∀ s, ¬ sen10_mem s → x.tmps.getD s undef = t0.getD s undef := fun s hn => hs s (fun j hj e => hn (by rw [e]; exact sen10_slots j hj))
    have u1 := (hs' 1 (by decide)).trans hs1
    have u2 := (hs' 2 (by decide)).trans hs2
    have u3 := (hs' 3 (by decide)).trans hs3
    have u4 := (hs' 4 (by decide)).trans hs4
    have u5 := (hs' 5 (by decide)).trans hs5
    match j, ho, hj with
    | 0, ho, _ =>
      have e : o = sen10_o0 := (Option.some.inj ho).symm
      subst e
      exact sen10_s0 hF gE i k r xa ya ua b4 b5 A B Q df w0 hh cx cy cu h4 h5 hT x w hB hdef u1 u2 u3 u4 u5 
    | 1, ho, _ =>
      have e : o = sen10_o1 := (Option.some.inj ho).symm
      subst e
      exact sen10_s1 hF gE i k r xa ya ua b4 b5 A B Q df w0 hh cx cy cu h4 h5 hT x w hB hdef u1 u2 u3 u4 u5 
    | 2, ho, _ =>
      have e : o = sen10_o2 := (Option.some.inj ho).symm
      subst e
      exact sen10_s2 hF gE i k r xa ya ua b4 b5 A B Q df w0 hh cx cy cu h4 h5 hT x w hB hdef u1 u2 u3 u4 u5 
    | 3, ho, _ =>
      have e : o = sen10_o3 := (Option.some.inj ho).symm
      subst e
      exact sen10_s3 hF gE i k r xa ya ua b4 b5 A B Q df w0 hh cx cy cu h4 h5 hT x w hB hdef u1 u2 u3 u4 u5 (hdeps { on := 1, ground := Ground.data } (by simp) rfl) (hdeps { on := 2, ground := Ground.data } (by simp) rfl)
    | 4, ho, _ =>
      have e : o = sen10_o4 := (Option.some.inj ho).symm
      subst e
      exact sen10_s4 hF gE i k r xa ya ua b4 b5 A B Q df w0 hh cx cy cu h4 h5 hT x w hB hdef u1 u2 u3 u4 u5 (hdeps { on := 3, ground := Ground.data } (by simp) rfl)
    | 5, ho, _ =>
      have e : o = sen10_o5 := (Option.some.inj ho).symm
      subst e
      exact sen10_s5 hF gE i k r xa ya ua b4 b5 A B Q df w0 hh cx cy cu h4 h5 hT x w hB hdef u1 u2 u3 u4 u5 (hdeps { on := 0, ground := Ground.data } (by simp) rfl) (hdeps { on := 4, ground := Ground.data } (by simp) rfl)
    | 6, ho, _ =>
      have e : o = sen10_o6 := (Option.some.inj ho).symm
      subst e
      exact sen10_s6 hF gE i k r xa ya ua b4 b5 A B Q df w0 hh cx cy cu h4 h5 hT x w hB hdef u1 u2 u3 u4 u5 (hdeps { on := 5, ground := Ground.data } (by simp) rfl)
    | 7, ho, _ =>
      have e : o = sen10_o7 := (Option.some.inj ho).symm
      subst e
      exact sen10_s7 hF gE i k r xa ya ua b4 b5 A B Q df w0 hh cx cy cu h4 h5 hT x w hB hdef u1 u2 u3 u4 u5 (hdeps { on := 6, ground := Ground.data } (by simp) rfl)
    | 8, ho, _ =>
      have e : o = sen10_o8 := (Option.some.inj ho).symm
      subst e
      exact sen10_s8 hF gE i k r xa ya ua b4 b5 A B Q df w0 hh cx cy cu h4 h5 hT x w hB hdef u1 u2 u3 u4 u5 (hdeps { on := 7, ground := Ground.guard } (by simp) rfl)
    | 9, ho, _ =>
      have e : o = sen10_o9 := (Option.some.inj ho).symm
      subst e
      exact sen10_s9 hF gE i k r xa ya ua b4 b5 A B Q df w0 hh cx cy cu h4 h5 hT x w hB hdef u1 u2 u3 u4 u5 (hdeps { on := 8, ground := Ground.data } (by simp) rfl) (hdeps { on := 7, ground := Ground.guard } (by simp) rfl)
    | 10, ho, _ =>
      have e : o = sen10_o10 := (Option.some.inj ho).symm
      subst e
      exact sen10_s10 hF gE i k r xa ya ua b4 b5 A B Q df w0 hh cx cy cu h4 h5 hT x w hB hdef u1 u2 u3 u4 u5 (hdeps { on := 7, ground := Ground.guard } (by simp) rfl)
    | 11, ho, _ =>
      have e : o = sen10_o11 := (Option.some.inj ho).symm
      subst e
      exact sen10_s11 hF gE i k r xa ya ua b4 b5 A B Q df w0 hh cx cy cu h4 h5 hT x w hB hdef u1 u2 u3 u4 u5 (hdeps { on := 7, ground := Ground.guard } (by simp) rfl)
    | 12, ho, _ =>
      have e : o = sen10_o12 := (Option.some.inj ho).symm
      subst e
      exact sen10_s12 hF gE i k r xa ya ua b4 b5 A B Q df w0 hh cx cy cu h4 h5 hT x w hB hdef u1 u2 u3 u4 u5 (hdeps { on := 10, ground := Ground.data } (by simp) rfl) (hdeps { on := 11, ground := Ground.data } (by simp) rfl) (hdeps { on := 7, ground := Ground.guard } (by simp) rfl)
    | 13, ho, _ =>
      have e : o = sen10_o13 := (Option.some.inj ho).symm
      subst e
      exact sen10_s13 hF gE i k r xa ya ua b4 b5 A B Q df w0 hh cx cy cu h4 h5 hT x w hB hdef u1 u2 u3 u4 u5 (hdeps { on := 12, ground := Ground.data } (by simp) rfl) (hdeps { on := 7, ground := Ground.guard } (by simp) rfl)
    | 14, ho, _ =>
      have e : o = sen10_o14 := (Option.some.inj ho).symm
      subst e
      exact sen10_s14 hF gE i k r xa ya ua b4 b5 A B Q df w0 hh cx cy cu h4 h5 hT x w hB hdef u1 u2 u3 u4 u5 (hdeps { on := 9, ground := Ground.data } (by simp) rfl) (hdeps { on := 13, ground := Ground.data } (by simp) rfl) (hdeps { on := 7, ground := Ground.guard } (by simp) rfl)
    | 15, ho, _ =>
      have e : o = sen10_o15 := (Option.some.inj ho).symm
      subst e
      exact sen10_s15 hF gE i k r xa ya ua b4 b5 A B Q df w0 hh cx cy cu h4 h5 hT x w hB hdef u1 u2 u3 u4 u5 (hdeps { on := 14, ground := Ground.data } (by simp) rfl) (hdeps { on := 7, ground := Ground.guard } (by simp) rfl)
    | 16, ho, _ =>
      have e : o = sen10_o16 := (Option.some.inj ho).symm
      subst e
      exact sen10_s16 hF gE i k r xa ya ua b4 b5 A B Q df w0 hh cx cy cu h4 h5 hT x w hB hdef u1 u2 u3 u4 u5 (hdeps { on := 7, ground := Ground.data } (by simp) rfl) (hdeps { on := 15, ground := Ground.data } (by simp) rfl)
    | 17, ho, _ =>
      have e : o = sen10_o17 := (Option.some.inj ho).symm
      subst e
      exact sen10_s17 hF gE i k r xa ya ua b4 b5 A B Q df w0 hh cx cy cu h4 h5 hT x w hB hdef u1 u2 u3 u4 u5 (hdeps { on := 16, ground := Ground.data } (by simp) rfl)
    | 18, ho, _ =>
      have e : o = sen10_o18 := (Option.some.inj ho).symm
      subst e
      exact sen10_s18 hF gE i k r xa ya ua b4 b5 A B Q df w0 hh cx cy cu h4 h5 hT x w hB hdef u1 u2 u3 u4 u5 (hdeps { on := 17, ground := Ground.guard } (by simp) rfl)
    | 19, ho, _ =>
      have e : o = sen10_o19 := (Option.some.inj ho).symm
      subst e
      exact sen10_s19 hF gE i k r xa ya ua b4 b5 A B Q df w0 hh cx cy cu h4 h5 hT x w hB hdef u1 u2 u3 u4 u5 (hdeps { on := 17, ground := Ground.guard } (by simp) rfl)
    | 20, ho, _ =>
      have e : o = sen10_o20 := (Option.some.inj ho).symm
      subst e
      exact sen10_s20 hF gE i k r xa ya ua b4 b5 A B Q df w0 hh cx cy cu h4 h5 hT x w hB hdef u1 u2 u3 u4 u5 (hdeps { on := 18, ground := Ground.data } (by simp) rfl) (hdeps { on := 19, ground := Ground.data } (by simp) rfl) (hdeps { on := 17, ground := Ground.guard } (by simp) rfl)
    | 21, ho, _ =>
      have e : o = sen10_o21 := (Option.some.inj ho).symm
      subst e
      exact sen10_s21 hF gE i k r xa ya ua b4 b5 A B Q df w0 hh cx cy cu h4 h5 hT x w hB hdef u1 u2 u3 u4 u5 (hdeps { on := 20, ground := Ground.data } (by simp) rfl) (hdeps { on := 17, ground := Ground.guard } (by simp) rfl)
    | 22, ho, _ =>
      have e : o = sen10_o22 := (Option.some.inj ho).symm
      subst e
      exact sen10_s22 hF gE i k r xa ya ua b4 b5 A B Q df w0 hh cx cy cu h4 h5 hT x w hB hdef u1 u2 u3 u4 u5 (hdeps { on := 17, ground := Ground.guard } (by simp) rfl)
    | 23, ho, _ =>
      have e : o = sen10_o23 := (Option.some.inj ho).symm
      subst e
      exact sen10_s23 hF gE i k r xa ya ua b4 b5 A B Q df w0 hh cx cy cu h4 h5 hT x w hB hdef u1 u2 u3 u4 u5 (hdeps { on := 17, ground := Ground.guard } (by simp) rfl)
    | 24, ho, _ =>
      have e : o = sen10_o24 := (Option.some.inj ho).symm
      subst e
      exact sen10_s24 hF gE i k r xa ya ua b4 b5 A B Q df w0 hh cx cy cu h4 h5 hT x w hB hdef u1 u2 u3 u4 u5 (hdeps { on := 22, ground := Ground.data } (by simp) rfl) (hdeps { on := 23, ground := Ground.data } (by simp) rfl) (hdeps { on := 17, ground := Ground.guard } (by simp) rfl)
    | 25, ho, _ =>
      have e : o = sen10_o25 := (Option.some.inj ho).symm
      subst e
      exact sen10_s25 hF gE i k r xa ya ua b4 b5 A B Q df w0 hh cx cy cu h4 h5 hT x w hB hdef u1 u2 u3 u4 u5 (hdeps { on := 24, ground := Ground.data } (by simp) rfl) (hdeps { on := 17, ground := Ground.guard } (by simp) rfl)
    | 26, ho, _ =>
      have e : o = sen10_o26 := (Option.some.inj ho).symm
      subst e
      exact sen10_s26 hF gE i k r xa ya ua b4 b5 A B Q df w0 hh cx cy cu h4 h5 hT x w hB hdef u1 u2 u3 u4 u5 (hdeps { on := 17, ground := Ground.guard } (by simp) rfl)
    | 27, ho, _ =>
      have e : o = sen10_o27 := (Option.some.inj ho).symm
      subst e
      exact sen10_s27 hF gE i k r xa ya ua b4 b5 A B Q df w0 hh cx cy cu h4 h5 hT x w hB hdef u1 u2 u3 u4 u5 (hdeps { on := 17, ground := Ground.guard } (by simp) rfl)
    | 28, ho, _ =>
      have e : o = sen10_o28 := (Option.some.inj ho).symm
      subst e
      exact sen10_s28 hF gE i k r xa ya ua b4 b5 A B Q df w0 hh cx cy cu h4 h5 hT x w hB hdef u1 u2 u3 u4 u5 (hdeps { on := 26, ground := Ground.data } (by simp) rfl) (hdeps { on := 27, ground := Ground.data } (by simp) rfl) (hdeps { on := 17, ground := Ground.guard } (by simp) rfl)
    | 29, ho, _ =>
      have e : o = sen10_o29 := (Option.some.inj ho).symm
      subst e
      exact sen10_s29 hF gE i k r xa ya ua b4 b5 A B Q df w0 hh cx cy cu h4 h5 hT x w hB hdef u1 u2 u3 u4 u5 (hdeps { on := 28, ground := Ground.data } (by simp) rfl) (hdeps { on := 17, ground := Ground.guard } (by simp) rfl)
    | 30, ho, _ =>
      have e : o = sen10_o30 := (Option.some.inj ho).symm
      subst e
      exact sen10_s30 hF gE i k r xa ya ua b4 b5 A B Q df w0 hh cx cy cu h4 h5 hT x w hB hdef u1 u2 u3 u4 u5 (hdeps { on := 21, ground := Ground.data } (by simp) rfl) (hdeps { on := 25, ground := Ground.data } (by simp) rfl) (hdeps { on := 29, ground := Ground.data } (by simp) rfl) (hdeps { on := 17, ground := Ground.guard } (by simp) rfl)
    | 31, ho, _ =>
      have e : o = sen10_o31 := (Option.some.inj ho).symm
      subst e
      exact sen10_s31 hF gE i k r xa ya ua b4 b5 A B Q df w0 hh cx cy cu h4 h5 hT x w hB hdef u1 u2 u3 u4 u5 (hdeps { on := 17, ground := Ground.guard } (by simp) rfl)
    | 32, ho, _ =>
      have e : o = sen10_o32 := (Option.some.inj ho).symm
      subst e
      exact sen10_s32 hF gE i k r xa ya ua b4 b5 A B Q df w0 hh cx cy cu h4 h5 hT x w hB hdef u1 u2 u3 u4 u5 (hdeps { on := 17, ground := Ground.guard } (by simp) rfl)
    | 33, ho, _ =>
      have e : o = sen10_o33 := (Option.some.inj ho).symm
      subst e
      exact sen10_s33 hF gE i k r xa ya ua b4 b5 A B Q df w0 hh cx cy cu h4 h5 hT x w hB hdef u1 u2 u3 u4 u5 (hdeps { on := 31, ground := Ground.data } (by simp) rfl) (hdeps { on := 32, ground := Ground.data } (by simp) rfl) (hdeps { on := 17, ground := Ground.guard } (by simp) rfl)
    | 34, ho, _ =>
      have e : o = sen10_o34 := (Option.some.inj ho).symm
      subst e
      exact sen10_s34 hF gE i k r xa ya ua b4 b5 A B Q df w0 hh cx cy cu h4 h5 hT x w hB hdef u1 u2 u3 u4 u5 (hdeps { on := 33, ground := Ground.data } (by simp) rfl) (hdeps { on := 17, ground := Ground.guard } (by simp) rfl)
    | 35, ho, _ =>
      have e : o = sen10_o35 := (Option.some.inj ho).symm
      subst e
      exact sen10_s35 hF gE i k r xa ya ua b4 b5 A B Q df w0 hh cx cy cu h4 h5 hT x w hB hdef u1 u2 u3 u4 u5 (hdeps { on := 17, ground := Ground.guard } (by simp) rfl)
    | 36, ho, _ =>
      have e : o = sen10_o36 := (Option.some.inj ho).symm
      subst e
      exact sen10_s36 hF gE i k r xa ya ua b4 b5 A B Q df w0 hh cx cy cu h4 h5 hT x w hB hdef u1 u2 u3 u4 u5 (hdeps { on := 17, ground := Ground.guard } (by simp) rfl)
    | 37, ho, _ =>
      have e : o = sen10_o37 := (Option.some.inj ho).symm
      subst e
      exact sen10_s37 hF gE i k r xa ya ua b4 b5 A B Q df w0 hh cx cy cu h4 h5 hT x w hB hdef u1 u2 u3 u4 u5 (hdeps { on := 35, ground := Ground.data } (by simp) rfl) (hdeps { on := 36, ground := Ground.data } (by simp) rfl) (hdeps { on := 17, ground := Ground.guard } (by simp) rfl)
    | 38, ho, _ =>
      have e : o = sen10_o38 := (Option.some.inj ho).symm
      subst e
      exact sen10_s38 hF gE i k r xa ya ua b4 b5 A B Q df w0 hh cx cy cu h4 h5 hT x w hB hdef u1 u2 u3 u4 u5 (hdeps { on := 37, ground := Ground.data } (by simp) rfl) (hdeps { on := 17, ground := Ground.guard } (by simp) rfl)
    | 39, ho, _ =>
      have e : o = sen10_o39 := (Option.some.inj ho).symm
      subst e
      exact sen10_s39 hF gE i k r xa ya ua b4 b5 A B Q df w0 hh cx cy cu h4 h5 hT x w hB hdef u1 u2 u3 u4 u5 (hdeps { on := 17, ground := Ground.guard } (by simp) rfl)
    | 40, ho, _ =>
      have e : o = sen10_o40 := (Option.some.inj ho).symm
      subst e
      exact sen10_s40 hF gE i k r xa ya ua b4 b5 A B Q df w0 hh cx cy cu h4 h5 hT x w hB hdef u1 u2 u3 u4 u5 (hdeps { on := 17, ground := Ground.guard } (by simp) rfl)
    | 41, ho, _ =>
      have e : o = sen10_o41 := (Option.some.inj ho).symm
      subst e
      exact sen10_s41 hF gE i k r xa ya ua b4 b5 A B Q df w0 hh cx cy cu h4 h5 hT x w hB hdef u1 u2 u3 u4 u5 (hdeps { on := 39, ground := Ground.data } (by simp) rfl) (hdeps { on := 40, ground := Ground.data } (by simp) rfl) (hdeps { on := 17, ground := Ground.guard } (by simp) rfl)
    | 42, ho, _ =>
      have e : o = sen10_o42 := (Option.some.inj ho).symm
      subst e
      exact sen10_s42 hF gE i k r xa ya ua b4 b5 A B Q df w0 hh cx cy cu h4 h5 hT x w hB hdef u1 u2 u3 u4 u5 (hdeps { on := 30, ground := Ground.data } (by simp) rfl) (hdeps { on := 34, ground := Ground.data } (by simp) rfl) (hdeps { on := 38, ground := Ground.data } (by simp) rfl) (hdeps { on := 41, ground := Ground.data } (by simp) rfl) (hdeps { on := 17, ground := Ground.guard } (by simp) rfl)
    | 43, ho, _ =>
      have e : o = sen10_o43 := (Option.some.inj ho).symm
      subst e
      exact sen10_s43 hF gE i k r xa ya ua b4 b5 A B Q df w0 hh cx cy cu h4 h5 hT x w hB hdef u1 u2 u3 u4 u5 (hdeps { on := 42, ground := Ground.data } (by simp) rfl) (hdeps { on := 17, ground := Ground.guard } (by simp) rfl)
    | 44, ho, _ =>
      have e : o = sen10_o44 := (Option.some.inj ho).symm
      subst e
      exact sen10_s44 hF gE i k r xa ya ua b4 b5 A B Q df w0 hh cx cy cu h4 h5 hT x w hB hdef u1 u2 u3 u4 u5 (hdeps { on := 17, ground := Ground.data } (by simp) rfl) (hdeps { on := 43, ground := Ground.data } (by simp) rfl)
    | k + 45, _, hj => omega
  · intro x w hB hdef hsz hs hv
    have hx := frame_sets x.tmps t0 hsz [43, 44, 45, 46, 47, 48, 49, 50, 51, 52, 53, 54, 55, 56, 57, 58, 59, 60, 61, 62, 63, 64, 65, 66, 67, 68, 69, 70, 71, 72, 73, 74, 75, 76, 77, 78, 79, 80, 81, 82, 83, 84, 85, 86, 87] (fun s hn => hs s (fun j hj e => hn (by rw [e]; exact sen10_slots j hj)))
    have hq := hQ (fun d => x.tmps.getD d undef) w hB (hv 44 (by decide))
    obtain ⟨T, Df⟩ := x
    dsimp only at hx hdef hq
    subst hdef
    rw [← hx] at hq
    exact hq
end Go.Proofs.YtmnjicpgdhnimaaDoor
