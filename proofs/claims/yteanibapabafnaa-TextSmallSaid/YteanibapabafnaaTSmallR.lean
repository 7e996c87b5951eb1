/-
  TextSmall's region that draws its order (written by tools/gen-tsmall.py).
-/
import Derived.Test.YteanibapabafnaaRelM
namespace Go.Proofs.Yteanibapabafnaa
open Go.RowKit
set_option linter.unusedVariables false
set_option linter.unusedSimpArgs false

abbrev small21_mem (s : Nat) : Prop := s ∈ [52, 53, 54, 55, 56, 57, 58, 59, 60, 61, 62, 63, 64, 65, 66, 67, 68, 69, 70, 71, 72, 73, 74, 75, 76, 77, 78, 79, 80, 81, 82, 83, 84, 85]
theorem small21_list (s : Nat) (h : small21_mem s) : s ∈ [52, 53, 54, 55, 56, 57, 58, 59, 60, 61, 62, 63, 64, 65, 66, 67, 68, 69, 70, 71, 72, 73, 74, 75, 76, 77, 78, 79, 80, 81, 82, 83, 84, 85] := h
def small21_ops : Array Oper :=
  #[{ dst := some 52, op := Op.buildSlice 22 3 #[(0, Operand.const (Value.int IntKind.u8 97)), (1, Operand.const (Value.int IntKind.u8 10)), (2, Operand.const (Value.int IntKind.u8 98))], type := 22, pos := "law.go:52", after := #[], guard := none },
    { dst := some 53, op := Op.convert 22 22 (Operand.tmp 52), type := 22, pos := "law.go:52", after := #[{ on := 0, ground := Ground.data }], guard := none },
    { dst := some 54, op := Op.move (Operand.tmp 5), type := 23, pos := "law.go:52", after := #[], guard := none },
    { dst := some 55, op := Op.move (Operand.tmp 6), type := 3, pos := "law.go:52", after := #[], guard := none },
    { dst := some 56, op := Op.indexAddr 23 (Operand.tmp 54) (Operand.tmp 55), type := 0, pos := "law.go:52", after := #[{ on := 2, ground := Ground.data }, { on := 3, ground := Ground.data }], guard := none },
    { dst := some 57, op := Op.load 3 (Operand.tmp 56), type := 3, pos := "law.go:52", after := #[{ on := 4, ground := Ground.data }], guard := none },
    { dst := some 58, op := Op.move (Operand.tmp 5), type := 23, pos := "law.go:52", after := #[], guard := none },
    { dst := some 59, op := Op.move (Operand.tmp 7), type := 3, pos := "law.go:52", after := #[], guard := none },
    { dst := some 60, op := Op.indexAddr 23 (Operand.tmp 58) (Operand.tmp 59), type := 0, pos := "law.go:52", after := #[{ on := 6, ground := Ground.data }, { on := 7, ground := Ground.data }], guard := none },
    { dst := some 61, op := Op.load 3 (Operand.tmp 60), type := 3, pos := "law.go:52", after := #[{ on := 8, ground := Ground.data }], guard := none },
    { dst := some 62, op := Op.buildSlice 23 2 #[(0, Operand.tmp 57), (1, Operand.tmp 61)], type := 23, pos := "law.go:52", after := #[{ on := 5, ground := Ground.data }, { on := 9, ground := Ground.data }], guard := none },
    { dst := some 63, op := Op.move (Operand.tmp 5), type := 23, pos := "law.go:52", after := #[], guard := none },
    { dst := some 64, op := Op.move (Operand.tmp 7), type := 3, pos := "law.go:52", after := #[], guard := none },
    { dst := some 65, op := Op.indexAddr 23 (Operand.tmp 63) (Operand.tmp 64), type := 0, pos := "law.go:52", after := #[{ on := 11, ground := Ground.data }, { on := 12, ground := Ground.data }], guard := none },
    { dst := some 66, op := Op.load 3 (Operand.tmp 65), type := 3, pos := "law.go:52", after := #[{ on := 13, ground := Ground.data }], guard := none },
    { dst := some 67, op := Op.move (Operand.tmp 5), type := 23, pos := "law.go:52", after := #[], guard := none },
    { dst := some 68, op := Op.move (Operand.tmp 6), type := 3, pos := "law.go:52", after := #[], guard := none },
    { dst := some 69, op := Op.indexAddr 23 (Operand.tmp 67) (Operand.tmp 68), type := 0, pos := "law.go:52", after := #[{ on := 15, ground := Ground.data }, { on := 16, ground := Ground.data }], guard := none },
    { dst := some 70, op := Op.load 3 (Operand.tmp 69), type := 3, pos := "law.go:52", after := #[{ on := 17, ground := Ground.data }], guard := none },
    { dst := some 71, op := Op.call { callee := Callee.value (Operand.func 3), args := #[Operand.tmp 53, Operand.tmp 62, Operand.tmp 66, Operand.tmp 70], argTypes := #[22, 23, 3, 3] }, type := 4, pos := "law.go:52", after := #[{ on := 1, ground := Ground.data }, { on := 10, ground := Ground.data }, { on := 14, ground := Ground.data }, { on := 18, ground := Ground.data }], guard := none },
    { dst := some 72, op := Op.unOp UnOp.not 4 (Operand.tmp 71), type := 4, pos := "law.go:52", after := #[{ on := 19, ground := Ground.data }], guard := none },
    { dst := some 73, op := Op.move (Operand.tmp 72), type := 4, pos := "law.go:52", after := #[{ on := 20, ground := Ground.data }, { on := 19, ground := Ground.chain }], guard := none },
    { dst := some 74, op := Op.move (Operand.tmp 5), type := 23, pos := "law.go:52", after := #[{ on := 21, ground := Ground.guard }], guard := some (21, false) },
    { dst := some 75, op := Op.move (Operand.tmp 7), type := 3, pos := "law.go:52", after := #[{ on := 21, ground := Ground.guard }], guard := some (21, false) },
    { dst := some 76, op := Op.indexAddr 23 (Operand.tmp 74) (Operand.tmp 75), type := 0, pos := "law.go:52", after := #[{ on := 22, ground := Ground.data }, { on := 23, ground := Ground.data }, { on := 21, ground := Ground.guard }], guard := some (21, false) },
    { dst := some 77, op := Op.load 3 (Operand.tmp 76), type := 3, pos := "law.go:52", after := #[{ on := 24, ground := Ground.data }, { on := 21, ground := Ground.guard }], guard := some (21, false) },
    { dst := some 78, op := Op.buildSlice 23 1 #[(0, Operand.tmp 77)], type := 23, pos := "law.go:52", after := #[{ on := 25, ground := Ground.data }, { on := 21, ground := Ground.guard }], guard := some (21, false) },
    { dst := some 79, op := Op.move (Operand.tmp 5), type := 23, pos := "law.go:52", after := #[{ on := 21, ground := Ground.guard }], guard := some (21, false) },
    { dst := some 80, op := Op.move (Operand.tmp 6), type := 3, pos := "law.go:52", after := #[{ on := 21, ground := Ground.guard }], guard := some (21, false) },
    { dst := some 81, op := Op.indexAddr 23 (Operand.tmp 79) (Operand.tmp 80), type := 0, pos := "law.go:52", after := #[{ on := 27, ground := Ground.data }, { on := 28, ground := Ground.data }, { on := 21, ground := Ground.guard }], guard := some (21, false) },
    { dst := some 82, op := Op.load 3 (Operand.tmp 81), type := 3, pos := "law.go:52", after := #[{ on := 29, ground := Ground.data }, { on := 21, ground := Ground.guard }], guard := some (21, false) },
    { dst := some 83, op := Op.call { callee := Callee.value (Operand.func 3), args := #[Operand.const (Value.slice none 0 0), Operand.tmp 78, Operand.tmp 82, Operand.const (Value.int IntKind.i64 1)], argTypes := #[22, 23, 3, 3] }, type := 4, pos := "law.go:52", after := #[{ on := 26, ground := Ground.data }, { on := 30, ground := Ground.data }, { on := 21, ground := Ground.chain }, { on := 21, ground := Ground.guard }], guard := some (21, false) },
    { dst := some 84, op := Op.unOp UnOp.not 4 (Operand.tmp 83), type := 4, pos := "law.go:52", after := #[{ on := 31, ground := Ground.data }, { on := 21, ground := Ground.guard }], guard := some (21, false) },
    { dst := some 85, op := Op.pick (Operand.tmp 73) (Operand.const (Value.bool true)) (Operand.tmp 84), type := 4, pos := "law.go:52", after := #[{ on := 21, ground := Ground.data }, { on := 32, ground := Ground.data }], guard := none }]
def small21_slot : Nat → Nat
  | 0 => 52
  | 1 => 53
  | 2 => 54
  | 3 => 55
  | 4 => 56
  | 5 => 57
  | 6 => 58
  | 7 => 59
  | 8 => 60
  | 9 => 61
  | 10 => 62
  | 11 => 63
  | 12 => 64
  | 13 => 65
  | 14 => 66
  | 15 => 67
  | 16 => 68
  | 17 => 69
  | 18 => 70
  | 19 => 71
  | 20 => 72
  | 21 => 73
  | 22 => 74
  | 23 => 75
  | 24 => 76
  | 25 => 77
  | 26 => 78
  | 27 => 79
  | 28 => 80
  | 29 => 81
  | 30 => 82
  | 31 => 83
  | 32 => 84
  | 33 => 85
  | j + 34 => 1087 + j
set_option maxRecDepth 100000 in
theorem small21_inj (i j : Nat) (hi : i < 34) (hj : j < 34) (h : small21_slot i = small21_slot j) : i = j := by
  have key : ∀ i j : Fin 34, small21_slot i.val = small21_slot j.val → i = j := by decide
  exact Fin.mk.inj (key ⟨i, hi⟩ ⟨j, hj⟩ h)
def small21_val (n0 G i k : Nat) (vx vy : Int) : Nat → Value → World → Prop
  | 0, v, w => ∃ g fr, v = .slice (some ⟨g, 0, none⟩) 3 3 ∧ n0 ≤ g ∧ w.heap[g]? = some (.cells #[.int .u8 97, .int .u8 10, .int .u8 98] 5 fr)
  | 1, v, w => ∃ g fr, v = .slice (some ⟨g, 0, none⟩) 3 3 ∧ n0 ≤ g ∧ w.heap[g]? = some (.cells #[.int .u8 97, .int .u8 10, .int .u8 98] 5 fr)
  | 2, v, w => v = .slice (some ⟨G, 0, none⟩) 8 8
  | 3, v, w => v = .int .i64 (i : Nat)
  | 4, v, w => v = .pointer (some ⟨G, i, none⟩)
  | 5, v, w => v = .int .i64 vx
  | 6, v, w => v = .slice (some ⟨G, 0, none⟩) 8 8
  | 7, v, w => v = .int .i64 (k : Nat)
  | 8, v, w => v = .pointer (some ⟨G, k, none⟩)
  | 9, v, w => v = .int .i64 vy
  | 10, v, w => ∃ g fr, v = .slice (some ⟨g, 0, none⟩) 2 2 ∧ n0 ≤ g ∧ w.heap[g]? = some (.cells #[.int .i64 vx, .int .i64 vy] 3 fr)
  | 11, v, w => v = .slice (some ⟨G, 0, none⟩) 8 8
  | 12, v, w => v = .int .i64 (k : Nat)
  | 13, v, w => v = .pointer (some ⟨G, k, none⟩)
  | 14, v, w => v = .int .i64 vy
  | 15, v, w => v = .slice (some ⟨G, 0, none⟩) 8 8
  | 16, v, w => v = .int .i64 (i : Nat)
  | 17, v, w => v = .pointer (some ⟨G, i, none⟩)
  | 18, v, w => v = .int .i64 vx
  | 19, v, w => v = .bool true
  | 20, v, w => v = .bool false
  | 21, v, w => v = .bool false
  | 22, v, w => v = .slice (some ⟨G, 0, none⟩) 8 8
  | 23, v, w => v = .int .i64 (k : Nat)
  | 24, v, w => v = .pointer (some ⟨G, k, none⟩)
  | 25, v, w => v = .int .i64 vy
  | 26, v, w => ∃ g fr, v = .slice (some ⟨g, 0, none⟩) 1 1 ∧ n0 ≤ g ∧ w.heap[g]? = some (.cells #[.int .i64 vy] 3 fr)
  | 27, v, w => v = .slice (some ⟨G, 0, none⟩) 8 8
  | 28, v, w => v = .int .i64 (i : Nat)
  | 29, v, w => v = .pointer (some ⟨G, i, none⟩)
  | 30, v, w => v = .int .i64 vx
  | 31, v, w => v = .bool true
  | 32, v, w => v = .bool false
  | 33, v, w => v = .bool false
  | _, _, _ => True
theorem small21_below (n0 G i k : Nat) (vx vy : Int) (w w' : World) (hb : MK n0 w w') : ∀ j v, small21_val n0 G i k vx vy j v w → small21_val n0 G i k vx vy j v w' := by
  intro j v h
  match j, h with
  | 0, h => obtain ⟨g, fr, h1, h2, h3⟩ := h; obtain ⟨fr2, h4⟩ := hb.cells _ _ _ _ h3; exact ⟨g, fr2, h1, h2, h4⟩
  | 1, h => obtain ⟨g, fr, h1, h2, h3⟩ := h; obtain ⟨fr2, h4⟩ := hb.cells _ _ _ _ h3; exact ⟨g, fr2, h1, h2, h4⟩
  | 2, h => exact h
  | 3, h => exact h
  | 4, h => exact h
  | 5, h => exact h
  | 6, h => exact h
  | 7, h => exact h
  | 8, h => exact h
  | 9, h => exact h
  | 10, h => obtain ⟨g, fr, h1, h2, h3⟩ := h; obtain ⟨fr2, h4⟩ := hb.cells _ _ _ _ h3; exact ⟨g, fr2, h1, h2, h4⟩
  | 11, h => exact h
  | 12, h => exact h
  | 13, h => exact h
  | 14, h => exact h
  | 15, h => exact h
  | 16, h => exact h
  | 17, h => exact h
  | 18, h => exact h
  | 19, h => exact h
  | 20, h => exact h
  | 21, h => exact h
  | 22, h => exact h
  | 23, h => exact h
  | 24, h => exact h
  | 25, h => exact h
  | 26, h => obtain ⟨g, fr, h1, h2, h3⟩ := h; obtain ⟨fr2, h4⟩ := hb.cells _ _ _ _ h3; exact ⟨g, fr2, h1, h2, h4⟩
  | 27, h => exact h
  | 28, h => exact h
  | 29, h => exact h
  | 30, h => exact h
  | 31, h => exact h
  | 32, h => exact h
  | 33, h => exact h
  | _ + 34, h => exact h

set_option maxRecDepth 100000 in
set_option maxHeartbeats 10000000 in
theorem small21 (n0 G i k : Nat) (vx vy : Int) (Q : Exit → Act → World → Prop) (t0 : Array Value) (w0 : World) (ht : t0.size = 87)
    (hs5 : t0.getD 5 undef = .slice (some ⟨G, 0, none⟩) 8 8) (hs6 : t0.getD 6 undef = .int .i64 (i : Nat)) (hs7 : t0.getD 7 undef = .int .i64 (k : Nat))
    (hn0 : n0 = w0.heap.size)
    (hh : Hid (i < 8 ∧ k < 8))
    (ci : ∀ W, MK n0 w0 W → W.cell? ⟨G, i, none⟩ = some (.int .i64 vx))
    (ck : ∀ W, MK n0 w0 W → W.cell? ⟨G, k, none⟩ = some (.int .i64 vy))
    (c1 : ∀ W g fr g2 fr2, MK n0 w0 W → W.heap[g]? = some (.cells #[.int .u8 97, .int .u8 10, .int .u8 98] 5 fr) → W.heap[g2]? = some (.cells #[.int .i64 vx, .int .i64 vy] 3 fr2) → Calls Try.prog 3 #[.slice (some ⟨g, 0, none⟩) 3 3, .slice (some ⟨g2, 0, none⟩) 2 2, .int .i64 vy, .int .i64 vx] W fun e w' => e = .returned (.bool true) ∧ Below W.heap.size W w')
    (c2 : ∀ W g fr, MK n0 w0 W → W.heap[g]? = some (.cells #[.int .i64 vy] 3 fr) → Calls Try.prog 3 #[.slice none 0 0, .slice (some ⟨g, 0, none⟩) 1 1, .int .i64 vx, .int .i64 1] W fun e w' => e = .returned (.bool true) ∧ Below W.heap.size W w')
    (hQ : ∀ (vs : Nat → Value) (w : World), MK n0 w0 w → (vs 85 = .bool false) → Q .normal { tmps := [52, 53, 54, 55, 56, 57, 58, 59, 60, 61, 62, 63, 64, 65, 66, 67, 68, 69, 70, 71, 72, 73, 74, 75, 76, 77, 78, 79, 80, 81, 82, 83, 84, 85].foldl (fun y d => y.setIfInBounds d (vs d)) t0, defers := [] } w) :
    (Code.region 21 small21_ops true).wp Try.prog Q { tmps := t0, defers := [] } w0 := by
  have hsl : ∀ j, j < 34 → small21_mem (small21_slot j) := by
    intro j hj
    match j, hj with
    | 0, _ => exact (by decide : small21_mem 52)
    | 1, _ => exact (by decide : small21_mem 53)
    | 2, _ => exact (by decide : small21_mem 54)
    | 3, _ => exact (by decide : small21_mem 55)
    | 4, _ => exact (by decide : small21_mem 56)
    | 5, _ => exact (by decide : small21_mem 57)
    | 6, _ => exact (by decide : small21_mem 58)
    | 7, _ => exact (by decide : small21_mem 59)
    | 8, _ => exact (by decide : small21_mem 60)
    | 9, _ => exact (by decide : small21_mem 61)
    | 10, _ => exact (by decide : small21_mem 62)
    | 11, _ => exact (by decide : small21_mem 63)
    | 12, _ => exact (by decide : small21_mem 64)
    | 13, _ => exact (by decide : small21_mem 65)
    | 14, _ => exact (by decide : small21_mem 66)
    | 15, _ => exact (by decide : small21_mem 67)
    | 16, _ => exact (by decide : small21_mem 68)
    | 17, _ => exact (by decide : small21_mem 69)
    | 18, _ => exact (by decide : small21_mem 70)
    | 19, _ => exact (by decide : small21_mem 71)
    | 20, _ => exact (by decide : small21_mem 72)
    | 21, _ => exact (by decide : small21_mem 73)
    | 22, _ => exact (by decide : small21_mem 74)
    | 23, _ => exact (by decide : small21_mem 75)
    | 24, _ => exact (by decide : small21_mem 76)
    | 25, _ => exact (by decide : small21_mem 77)
    | 26, _ => exact (by decide : small21_mem 78)
    | 27, _ => exact (by decide : small21_mem 79)
    | 28, _ => exact (by decide : small21_mem 80)
    | 29, _ => exact (by decide : small21_mem 81)
    | 30, _ => exact (by decide : small21_mem 82)
    | 31, _ => exact (by decide : small21_mem 83)
    | 32, _ => exact (by decide : small21_mem 84)
    | 33, _ => exact (by decide : small21_mem 85)
    | k + 34, hj => omega
  refine wp_region_rel (by kernel_rfl) small21_slot (MK n0) (small21_val n0 G i k vx vy) t0 w0 ?_ ?_ ?_ (MK.drew _ _) (fun _ _ _ h k => h.trans k) (small21_below n0 G i k vx vy) ?_ ?_
  · intro j o ho
    have hj : j < 34 := (Array.getElem?_eq_some_iff.1 ho).1
    rw [ht]
    match j, ho with
    | 0, ho => cases ho; exact ⟨rfl, by decide⟩
    | 1, ho => cases ho; exact ⟨rfl, by decide⟩
    | 2, ho => cases ho; exact ⟨rfl, by decide⟩
    | 3, ho => cases ho; exact ⟨rfl, by decide⟩
    | 4, ho => cases ho; exact ⟨rfl, by decide⟩
    | 5, ho => cases ho; exact ⟨rfl, by decide⟩
    | 6, ho => cases ho; exact ⟨rfl, by decide⟩
    | 7, ho => cases ho; exact ⟨rfl, by decide⟩
    | 8, ho => cases ho; exact ⟨rfl, by decide⟩
    | 9, ho => cases ho; exact ⟨rfl, by decide⟩
    | 10, ho => cases ho; exact ⟨rfl, by decide⟩
    | 11, ho => cases ho; exact ⟨rfl, by decide⟩
    | 12, ho => cases ho; exact ⟨rfl, by decide⟩
    | 13, ho => cases ho; exact ⟨rfl, by decide⟩
    | 14, ho => cases ho; exact ⟨rfl, by decide⟩
    | 15, ho => cases ho; exact ⟨rfl, by decide⟩
    | 16, ho => cases ho; exact ⟨rfl, by decide⟩
    | 17, ho => cases ho; exact ⟨rfl, by decide⟩
    | 18, ho => cases ho; exact ⟨rfl, by decide⟩
    | 19, ho => cases ho; exact ⟨rfl, by decide⟩
    | 20, ho => cases ho; exact ⟨rfl, by decide⟩
    | 21, ho => cases ho; exact ⟨rfl, by decide⟩
    | 22, ho => cases ho; exact ⟨rfl, by decide⟩
    | 23, ho => cases ho; exact ⟨rfl, by decide⟩
    | 24, ho => cases ho; exact ⟨rfl, by decide⟩
    | 25, ho => cases ho; exact ⟨rfl, by decide⟩
    | 26, ho => cases ho; exact ⟨rfl, by decide⟩
    | 27, ho => cases ho; exact ⟨rfl, by decide⟩
    | 28, ho => cases ho; exact ⟨rfl, by decide⟩
    | 29, ho => cases ho; exact ⟨rfl, by decide⟩
    | 30, ho => cases ho; exact ⟨rfl, by decide⟩
    | 31, ho => cases ho; exact ⟨rfl, by decide⟩
    | 32, ho => cases ho; exact ⟨rfl, by decide⟩
    | 33, ho => cases ho; exact ⟨rfl, by decide⟩
    | k + 34, _ => omega
  · intro i j hi hj h
    exact small21_inj i j hi hj h
  · intro j o ho
    have hj : j < 34 := (Array.getElem?_eq_some_iff.1 ho).1
    match j, ho with
    | 0, ho => cases ho; decide
    | 1, ho => cases ho; decide
    | 2, ho => cases ho; decide
    | 3, ho => cases ho; decide
    | 4, ho => cases ho; decide
    | 5, ho => cases ho; decide
    | 6, ho => cases ho; decide
    | 7, ho => cases ho; decide
    | 8, ho => cases ho; decide
    | 9, ho => cases ho; decide
    | 10, ho => cases ho; decide
    | 11, ho => cases ho; decide
    | 12, ho => cases ho; decide
    | 13, ho => cases ho; decide
    | 14, ho => cases ho; decide
    | 15, ho => cases ho; decide
    | 16, ho => cases ho; decide
    | 17, ho => cases ho; decide
    | 18, ho => cases ho; decide
    | 19, ho => cases ho; decide
    | 20, ho => cases ho; decide
    | 21, ho => cases ho; decide
    | 22, ho => cases ho; decide
    | 23, ho => cases ho; decide
    | 24, ho => cases ho; decide
    | 25, ho => cases ho; decide
    | 26, ho => cases ho; decide
    | 27, ho => cases ho; decide
    | 28, ho => cases ho; decide
    | 29, ho => cases ho; decide
    | 30, ho => cases ho; decide
    | 31, ho => cases ho; decide
    | 32, ho => cases ho; decide
    | 33, ho => cases ho; decide
    | k + 34, _ => omega
  · intro j o ho x w hB hdef hsz hs hdeps
    have hs' : ∀ s, ¬ small21_mem s → x.tmps.getD s undef = t0.getD s undef := fun s hn => hs s (fun j hj e => hn (by rw [e]; exact hsl j hj))
    have u5 := (hs' 5 (by decide)).trans hs5
    have u6 := (hs' 6 (by decide)).trans hs6
    have u7 := (hs' 7 (by decide)).trans hs7
    have hj : j < 34 := (Array.getElem?_eq_some_iff.1 ho).1
    clear hs hs' hsl hsz ht hQ hs5 hs6 hs7
    simp only [Array.getD_eq_getD_getElem?] at u5 u6 u7
    match j, ho with
    | 0, ho =>
      have e : o = { dst := some 52, op := Op.buildSlice 22 3 #[(0, Operand.const (Value.int IntKind.u8 97)), (1, Operand.const (Value.int IntKind.u8 10)), (2, Operand.const (Value.int IntKind.u8 98))], type := 22, pos := "law.go:52", after := #[], guard := none } := (Option.some.inj ho).symm
      subst e
      clear hdeps
      refine wpOp_step ho (fun K hK => ?_)
      clear ho
      go_simp
      have hsz := hB.size
      exact hK _ _ ⟨_, act_putD x hdef _ _, ⟨_, _, rfl, by omega, World.alloc_heap_new _ _⟩, MK.of_below (below_alloc _ _) (by omega)⟩
    | 1, ho =>
      have e : o = { dst := some 53, op := Op.convert 22 22 (Operand.tmp 52), type := 22, pos := "law.go:52", after := #[{ on := 0, ground := Ground.data }], guard := none } := (Option.some.inj ho).symm
      subst e
      obtain ⟨g0, fr0, q0, le0, p0⟩ := hdeps { on := 0, ground := Ground.data } (by simp) rfl
      have q0 : x.tmps.getD 52 undef = .slice (some ⟨g0, 0, none⟩) 3 3 := q0
      simp only [Array.getD_eq_getD_getElem?] at q0
      clear hdeps
      obtain ⟨w', hcv, hm⟩ := conv_mark (n := 3) (c := 3) p0 le0
      refine wpOp_step ho (fun K hK => ?_)
      clear ho
      go_simp
      obtain ⟨fr2, h4⟩ := hm.cells _ _ _ _ p0
      exact hK _ _ ⟨_, act_putD x hdef _ _, ⟨_, fr2, rfl, le0, h4⟩, hm⟩
    | 2, ho =>
      have e : o = { dst := some 54, op := Op.move (Operand.tmp 5), type := 23, pos := "law.go:52", after := #[], guard := none } := (Option.some.inj ho).symm
      subst e
      clear hdeps
      refine wpOp_step ho (fun K hK => ?_)
      clear ho
      go_simp
      exact hK _ _ ⟨_, act_putD x hdef _ _, rfl, MK.refl _ _⟩
    | 3, ho =>
      have e : o = { dst := some 55, op := Op.move (Operand.tmp 6), type := 3, pos := "law.go:52", after := #[], guard := none } := (Option.some.inj ho).symm
      subst e
      clear hdeps
      refine wpOp_step ho (fun K hK => ?_)
      clear ho
      go_simp
      exact hK _ _ ⟨_, act_putD x hdef _ _, rfl, MK.refl _ _⟩
    | 4, ho =>
      have e : o = { dst := some 56, op := Op.indexAddr 23 (Operand.tmp 54) (Operand.tmp 55), type := 0, pos := "law.go:52", after := #[{ on := 2, ground := Ground.data }, { on := 3, ground := Ground.data }], guard := none } := (Option.some.inj ho).symm
      subst e
      have q2 : x.tmps.getD 54 undef = .slice (some ⟨G, 0, none⟩) 8 8 := hdeps { on := 2, ground := Ground.data } (by simp) rfl
      have q3 : x.tmps.getD 55 undef = .int .i64 (i : Nat) := hdeps { on := 3, ground := Ground.data } (by simp) rfl
      simp only [Array.getD_eq_getD_getElem?] at q2 q3
      clear hdeps
      have i0 : (0 : Int) ≤ (i : Int) := by omega
      have i1 : (i : Int) < 8 := by have := hh.out; omega
      refine wpOp_step ho (fun K hK => ?_)
      clear ho
      go_simp
      exact hK _ _ ⟨_, act_putD x hdef _ _, rfl, MK.refl _ _⟩
    | 5, ho =>
      have e : o = { dst := some 57, op := Op.load 3 (Operand.tmp 56), type := 3, pos := "law.go:52", after := #[{ on := 4, ground := Ground.data }], guard := none } := (Option.some.inj ho).symm
      subst e
      have q4 : x.tmps.getD 56 undef = .pointer (some ⟨G, i, none⟩) := hdeps { on := 4, ground := Ground.data } (by simp) rfl
      simp only [Array.getD_eq_getD_getElem?] at q4
      clear hdeps
      have m := ci w hB
      refine wpOp_step ho (fun K hK => ?_)
      clear ho
      go_simp
      exact hK _ _ ⟨_, act_putD x hdef _ _, rfl, MK.refl _ _⟩
    | 6, ho =>
      have e : o = { dst := some 58, op := Op.move (Operand.tmp 5), type := 23, pos := "law.go:52", after := #[], guard := none } := (Option.some.inj ho).symm
      subst e
      clear hdeps
      refine wpOp_step ho (fun K hK => ?_)
      clear ho
      go_simp
      exact hK _ _ ⟨_, act_putD x hdef _ _, rfl, MK.refl _ _⟩
    | 7, ho =>
      have e : o = { dst := some 59, op := Op.move (Operand.tmp 7), type := 3, pos := "law.go:52", after := #[], guard := none } := (Option.some.inj ho).symm
      subst e
      clear hdeps
      refine wpOp_step ho (fun K hK => ?_)
      clear ho
      go_simp
      exact hK _ _ ⟨_, act_putD x hdef _ _, rfl, MK.refl _ _⟩
    | 8, ho =>
      have e : o = { dst := some 60, op := Op.indexAddr 23 (Operand.tmp 58) (Operand.tmp 59), type := 0, pos := "law.go:52", after := #[{ on := 6, ground := Ground.data }, { on := 7, ground := Ground.data }], guard := none } := (Option.some.inj ho).symm
      subst e
      have q6 : x.tmps.getD 58 undef = .slice (some ⟨G, 0, none⟩) 8 8 := hdeps { on := 6, ground := Ground.data } (by simp) rfl
      have q7 : x.tmps.getD 59 undef = .int .i64 (k : Nat) := hdeps { on := 7, ground := Ground.data } (by simp) rfl
      simp only [Array.getD_eq_getD_getElem?] at q6 q7
      clear hdeps
      have i0 : (0 : Int) ≤ (k : Int) := by omega
      have i1 : (k : Int) < 8 := by have := hh.out; omega
      refine wpOp_step ho (fun K hK => ?_)
      clear ho
      go_simp
      exact hK _ _ ⟨_, act_putD x hdef _ _, rfl, MK.refl _ _⟩
    | 9, ho =>
      have e : o = { dst := some 61, op := Op.load 3 (Operand.tmp 60), type := 3, pos := "law.go:52", after := #[{ on := 8, ground := Ground.data }], guard := none } := (Option.some.inj ho).symm
      subst e
      have q8 : x.tmps.getD 60 undef = .pointer (some ⟨G, k, none⟩) := hdeps { on := 8, ground := Ground.data } (by simp) rfl
      simp only [Array.getD_eq_getD_getElem?] at q8
      clear hdeps
      have m := ck w hB
      refine wpOp_step ho (fun K hK => ?_)
      clear ho
      go_simp
      exact hK _ _ ⟨_, act_putD x hdef _ _, rfl, MK.refl _ _⟩
    | 10, ho =>
      have e : o = { dst := some 62, op := Op.buildSlice 23 2 #[(0, Operand.tmp 57), (1, Operand.tmp 61)], type := 23, pos := "law.go:52", after := #[{ on := 5, ground := Ground.data }, { on := 9, ground := Ground.data }], guard := none } := (Option.some.inj ho).symm
      subst e
      have q5 : x.tmps.getD 57 undef = .int .i64 vx := hdeps { on := 5, ground := Ground.data } (by simp) rfl
      have q9 : x.tmps.getD 61 undef = .int .i64 vy := hdeps { on := 9, ground := Ground.data } (by simp) rfl
      simp only [Array.getD_eq_getD_getElem?] at q5 q9
      clear hdeps
      refine wpOp_step ho (fun K hK => ?_)
      clear ho
      go_simp
      have hsz := hB.size
      exact hK _ _ ⟨_, act_putD x hdef _ _, ⟨_, _, rfl, by omega, World.alloc_heap_new _ _⟩, MK.of_below (below_alloc _ _) (by omega)⟩
    | 11, ho =>
      have e : o = { dst := some 63, op := Op.move (Operand.tmp 5), type := 23, pos := "law.go:52", after := #[], guard := none } := (Option.some.inj ho).symm
      subst e
      clear hdeps
      refine wpOp_step ho (fun K hK => ?_)
      clear ho
      go_simp
      exact hK _ _ ⟨_, act_putD x hdef _ _, rfl, MK.refl _ _⟩
    | 12, ho =>
      have e : o = { dst := some 64, op := Op.move (Operand.tmp 7), type := 3, pos := "law.go:52", after := #[], guard := none } := (Option.some.inj ho).symm
      subst e
      clear hdeps
      refine wpOp_step ho (fun K hK => ?_)
      clear ho
      go_simp
      exact hK _ _ ⟨_, act_putD x hdef _ _, rfl, MK.refl _ _⟩
    | 13, ho =>
      have e : o = { dst := some 65, op := Op.indexAddr 23 (Operand.tmp 63) (Operand.tmp 64), type := 0, pos := "law.go:52", after := #[{ on := 11, ground := Ground.data }, { on := 12, ground := Ground.data }], guard := none } := (Option.some.inj ho).symm
      subst e
      have q11 : x.tmps.getD 63 undef = .slice (some ⟨G, 0, none⟩) 8 8 := hdeps { on := 11, ground := Ground.data } (by simp) rfl
      have q12 : x.tmps.getD 64 undef = .int .i64 (k : Nat) := hdeps { on := 12, ground := Ground.data } (by simp) rfl
      simp only [Array.getD_eq_getD_getElem?] at q11 q12
      clear hdeps
      have i0 : (0 : Int) ≤ (k : Int) := by omega
      have i1 : (k : Int) < 8 := by have := hh.out; omega
      refine wpOp_step ho (fun K hK => ?_)
      clear ho
      go_simp
      exact hK _ _ ⟨_, act_putD x hdef _ _, rfl, MK.refl _ _⟩
    | 14, ho =>
      have e : o = { dst := some 66, op := Op.load 3 (Operand.tmp 65), type := 3, pos := "law.go:52", after := #[{ on := 13, ground := Ground.data }], guard := none } := (Option.some.inj ho).symm
      subst e
      have q13 : x.tmps.getD 65 undef = .pointer (some ⟨G, k, none⟩) := hdeps { on := 13, ground := Ground.data } (by simp) rfl
      simp only [Array.getD_eq_getD_getElem?] at q13
      clear hdeps
      have m := ck w hB
      refine wpOp_step ho (fun K hK => ?_)
      clear ho
      go_simp
      exact hK _ _ ⟨_, act_putD x hdef _ _, rfl, MK.refl _ _⟩
    | 15, ho =>
      have e : o = { dst := some 67, op := Op.move (Operand.tmp 5), type := 23, pos := "law.go:52", after := #[], guard := none } := (Option.some.inj ho).symm
      subst e
      clear hdeps
      refine wpOp_step ho (fun K hK => ?_)
      clear ho
      go_simp
      exact hK _ _ ⟨_, act_putD x hdef _ _, rfl, MK.refl _ _⟩
    | 16, ho =>
      have e : o = { dst := some 68, op := Op.move (Operand.tmp 6), type := 3, pos := "law.go:52", after := #[], guard := none } := (Option.some.inj ho).symm
      subst e
      clear hdeps
      refine wpOp_step ho (fun K hK => ?_)
      clear ho
      go_simp
      exact hK _ _ ⟨_, act_putD x hdef _ _, rfl, MK.refl _ _⟩
    | 17, ho =>
      have e : o = { dst := some 69, op := Op.indexAddr 23 (Operand.tmp 67) (Operand.tmp 68), type := 0, pos := "law.go:52", after := #[{ on := 15, ground := Ground.data }, { on := 16, ground := Ground.data }], guard := none } := (Option.some.inj ho).symm
      subst e
      have q15 : x.tmps.getD 67 undef = .slice (some ⟨G, 0, none⟩) 8 8 := hdeps { on := 15, ground := Ground.data } (by simp) rfl
      have q16 : x.tmps.getD 68 undef = .int .i64 (i : Nat) := hdeps { on := 16, ground := Ground.data } (by simp) rfl
      simp only [Array.getD_eq_getD_getElem?] at q15 q16
      clear hdeps
      have i0 : (0 : Int) ≤ (i : Int) := by omega
      have i1 : (i : Int) < 8 := by have := hh.out; omega
      refine wpOp_step ho (fun K hK => ?_)
      clear ho
      go_simp
      exact hK _ _ ⟨_, act_putD x hdef _ _, rfl, MK.refl _ _⟩
    | 18, ho =>
      have e : o = { dst := some 70, op := Op.load 3 (Operand.tmp 69), type := 3, pos := "law.go:52", after := #[{ on := 17, ground := Ground.data }], guard := none } := (Option.some.inj ho).symm
      subst e
      have q17 : x.tmps.getD 69 undef = .pointer (some ⟨G, i, none⟩) := hdeps { on := 17, ground := Ground.data } (by simp) rfl
      simp only [Array.getD_eq_getD_getElem?] at q17
      clear hdeps
      have m := ci w hB
      refine wpOp_step ho (fun K hK => ?_)
      clear ho
      go_simp
      exact hK _ _ ⟨_, act_putD x hdef _ _, rfl, MK.refl _ _⟩
    | 19, ho =>
      have e : o = { dst := some 71, op := Op.call { callee := Callee.value (Operand.func 3), args := #[Operand.tmp 53, Operand.tmp 62, Operand.tmp 66, Operand.tmp 70], argTypes := #[22, 23, 3, 3] }, type := 4, pos := "law.go:52", after := #[{ on := 1, ground := Ground.data }, { on := 10, ground := Ground.data }, { on := 14, ground := Ground.data }, { on := 18, ground := Ground.data }], guard := none } := (Option.some.inj ho).symm
      subst e
      obtain ⟨g1, fr1, q1, le1, p1⟩ := hdeps { on := 1, ground := Ground.data } (by simp) rfl
      have q1 : x.tmps.getD 53 undef = .slice (some ⟨g1, 0, none⟩) 3 3 := q1
      obtain ⟨g10, fr10, q10, le10, p10⟩ := hdeps { on := 10, ground := Ground.data } (by simp) rfl
      have q10 : x.tmps.getD 62 undef = .slice (some ⟨g10, 0, none⟩) 2 2 := q10
      have q14 : x.tmps.getD 66 undef = .int .i64 vy := hdeps { on := 14, ground := Ground.data } (by simp) rfl
      have q18 : x.tmps.getD 70 undef = .int .i64 vx := hdeps { on := 18, ground := Ground.data } (by simp) rfl
      simp only [Array.getD_eq_getD_getElem?] at q1 q10 q14 q18
      clear hdeps
      refine wpOp_step ho (fun K hK => ?_)
      clear ho
      go_simp
      refine (c1 w _ _ _ _ hB p1 p10).mono ?_
      rintro e w' ⟨rfl, hb⟩
      have hsz := hB.size
      exact hK _ _ ⟨_, act_putD x hdef _ _, rfl, MK.of_below hb (by omega)⟩
    | 20, ho =>
      have e : o = { dst := some 72, op := Op.unOp UnOp.not 4 (Operand.tmp 71), type := 4, pos := "law.go:52", after := #[{ on := 19, ground := Ground.data }], guard := none } := (Option.some.inj ho).symm
      subst e
      have q19 : x.tmps.getD 71 undef = .bool true := hdeps { on := 19, ground := Ground.data } (by simp) rfl
      simp only [Array.getD_eq_getD_getElem?] at q19
      clear hdeps
      refine wpOp_step ho (fun K hK => ?_)
      clear ho
      go_simp
      exact hK _ _ ⟨_, act_putD x hdef _ _, rfl, MK.refl _ _⟩
    | 21, ho =>
      have e : o = { dst := some 73, op := Op.move (Operand.tmp 72), type := 4, pos := "law.go:52", after := #[{ on := 20, ground := Ground.data }, { on := 19, ground := Ground.chain }], guard := none } := (Option.some.inj ho).symm
      subst e
      have q20 : x.tmps.getD 72 undef = .bool false := hdeps { on := 20, ground := Ground.data } (by simp) rfl
      simp only [Array.getD_eq_getD_getElem?] at q20
      clear hdeps
      refine wpOp_step ho (fun K hK => ?_)
      clear ho
      go_simp
      exact hK _ _ ⟨_, act_putD x hdef _ _, rfl, MK.refl _ _⟩
    | 22, ho =>
      have e : o = { dst := some 74, op := Op.move (Operand.tmp 5), type := 23, pos := "law.go:52", after := #[{ on := 21, ground := Ground.guard }], guard := some (21, false) } := (Option.some.inj ho).symm
      subst e
      have q21 : x.tmps.getD 73 undef = .bool false := hdeps { on := 21, ground := Ground.guard } (by simp) rfl
      have e21 : (small21_ops[21]?.bind fun x => x.dst) = some 73 := rfl
      have g21 := get_someR q21 (fun h => by cases h)
      simp only [Array.getD_eq_getD_getElem?] at q21
      clear hdeps
      refine wpOp_step ho (fun K hK => ?_)
      clear ho
      go_simp
      exact hK _ _ ⟨_, act_putD x hdef _ _, rfl, MK.refl _ _⟩
    | 23, ho =>
      have e : o = { dst := some 75, op := Op.move (Operand.tmp 7), type := 3, pos := "law.go:52", after := #[{ on := 21, ground := Ground.guard }], guard := some (21, false) } := (Option.some.inj ho).symm
      subst e
      have q21 : x.tmps.getD 73 undef = .bool false := hdeps { on := 21, ground := Ground.guard } (by simp) rfl
      have e21 : (small21_ops[21]?.bind fun x => x.dst) = some 73 := rfl
      have g21 := get_someR q21 (fun h => by cases h)
      simp only [Array.getD_eq_getD_getElem?] at q21
      clear hdeps
      refine wpOp_step ho (fun K hK => ?_)
      clear ho
      go_simp
      exact hK _ _ ⟨_, act_putD x hdef _ _, rfl, MK.refl _ _⟩
    | 24, ho =>
      have e : o = { dst := some 76, op := Op.indexAddr 23 (Operand.tmp 74) (Operand.tmp 75), type := 0, pos := "law.go:52", after := #[{ on := 22, ground := Ground.data }, { on := 23, ground := Ground.data }, { on := 21, ground := Ground.guard }], guard := some (21, false) } := (Option.some.inj ho).symm
      subst e
      have q22 : x.tmps.getD 74 undef = .slice (some ⟨G, 0, none⟩) 8 8 := hdeps { on := 22, ground := Ground.data } (by simp) rfl
      have q23 : x.tmps.getD 75 undef = .int .i64 (k : Nat) := hdeps { on := 23, ground := Ground.data } (by simp) rfl
      have q21 : x.tmps.getD 73 undef = .bool false := hdeps { on := 21, ground := Ground.guard } (by simp) rfl
      have e21 : (small21_ops[21]?.bind fun x => x.dst) = some 73 := rfl
      have g21 := get_someR q21 (fun h => by cases h)
      simp only [Array.getD_eq_getD_getElem?] at q22 q23 q21
      clear hdeps
      have i0 : (0 : Int) ≤ (k : Int) := by omega
      have i1 : (k : Int) < 8 := by have := hh.out; omega
      refine wpOp_step ho (fun K hK => ?_)
      clear ho
      go_simp
      exact hK _ _ ⟨_, act_putD x hdef _ _, rfl, MK.refl _ _⟩
    | 25, ho =>
      have e : o = { dst := some 77, op := Op.load 3 (Operand.tmp 76), type := 3, pos := "law.go:52", after := #[{ on := 24, ground := Ground.data }, { on := 21, ground := Ground.guard }], guard := some (21, false) } := (Option.some.inj ho).symm
      subst e
      have q24 : x.tmps.getD 76 undef = .pointer (some ⟨G, k, none⟩) := hdeps { on := 24, ground := Ground.data } (by simp) rfl
      have q21 : x.tmps.getD 73 undef = .bool false := hdeps { on := 21, ground := Ground.guard } (by simp) rfl
      have e21 : (small21_ops[21]?.bind fun x => x.dst) = some 73 := rfl
      have g21 := get_someR q21 (fun h => by cases h)
      simp only [Array.getD_eq_getD_getElem?] at q24 q21
      clear hdeps
      have m := ck w hB
      refine wpOp_step ho (fun K hK => ?_)
      clear ho
      go_simp
      exact hK _ _ ⟨_, act_putD x hdef _ _, rfl, MK.refl _ _⟩
    | 26, ho =>
      have e : o = { dst := some 78, op := Op.buildSlice 23 1 #[(0, Operand.tmp 77)], type := 23, pos := "law.go:52", after := #[{ on := 25, ground := Ground.data }, { on := 21, ground := Ground.guard }], guard := some (21, false) } := (Option.some.inj ho).symm
      subst e
      have q25 : x.tmps.getD 77 undef = .int .i64 vy := hdeps { on := 25, ground := Ground.data } (by simp) rfl
      have q21 : x.tmps.getD 73 undef = .bool false := hdeps { on := 21, ground := Ground.guard } (by simp) rfl
      have e21 : (small21_ops[21]?.bind fun x => x.dst) = some 73 := rfl
      have g21 := get_someR q21 (fun h => by cases h)
      simp only [Array.getD_eq_getD_getElem?] at q25 q21
      clear hdeps
      refine wpOp_step ho (fun K hK => ?_)
      clear ho
      go_simp
      have hsz := hB.size
      exact hK _ _ ⟨_, act_putD x hdef _ _, ⟨_, _, rfl, by omega, World.alloc_heap_new _ _⟩, MK.of_below (below_alloc _ _) (by omega)⟩
    | 27, ho =>
      have e : o = { dst := some 79, op := Op.move (Operand.tmp 5), type := 23, pos := "law.go:52", after := #[{ on := 21, ground := Ground.guard }], guard := some (21, false) } := (Option.some.inj ho).symm
      subst e
      have q21 : x.tmps.getD 73 undef = .bool false := hdeps { on := 21, ground := Ground.guard } (by simp) rfl
      have e21 : (small21_ops[21]?.bind fun x => x.dst) = some 73 := rfl
      have g21 := get_someR q21 (fun h => by cases h)
      simp only [Array.getD_eq_getD_getElem?] at q21
      clear hdeps
      refine wpOp_step ho (fun K hK => ?_)
      clear ho
      go_simp
      exact hK _ _ ⟨_, act_putD x hdef _ _, rfl, MK.refl _ _⟩
    | 28, ho =>
      have e : o = { dst := some 80, op := Op.move (Operand.tmp 6), type := 3, pos := "law.go:52", after := #[{ on := 21, ground := Ground.guard }], guard := some (21, false) } := (Option.some.inj ho).symm
      subst e
      have q21 : x.tmps.getD 73 undef = .bool false := hdeps { on := 21, ground := Ground.guard } (by simp) rfl
      have e21 : (small21_ops[21]?.bind fun x => x.dst) = some 73 := rfl
      have g21 := get_someR q21 (fun h => by cases h)
      simp only [Array.getD_eq_getD_getElem?] at q21
      clear hdeps
      refine wpOp_step ho (fun K hK => ?_)
      clear ho
      go_simp
      exact hK _ _ ⟨_, act_putD x hdef _ _, rfl, MK.refl _ _⟩
    | 29, ho =>
      have e : o = { dst := some 81, op := Op.indexAddr 23 (Operand.tmp 79) (Operand.tmp 80), type := 0, pos := "law.go:52", after := #[{ on := 27, ground := Ground.data }, { on := 28, ground := Ground.data }, { on := 21, ground := Ground.guard }], guard := some (21, false) } := (Option.some.inj ho).symm
      subst e
      have q27 : x.tmps.getD 79 undef = .slice (some ⟨G, 0, none⟩) 8 8 := hdeps { on := 27, ground := Ground.data } (by simp) rfl
      have q28 : x.tmps.getD 80 undef = .int .i64 (i : Nat) := hdeps { on := 28, ground := Ground.data } (by simp) rfl
      have q21 : x.tmps.getD 73 undef = .bool false := hdeps { on := 21, ground := Ground.guard } (by simp) rfl
      have e21 : (small21_ops[21]?.bind fun x => x.dst) = some 73 := rfl
      have g21 := get_someR q21 (fun h => by cases h)
      simp only [Array.getD_eq_getD_getElem?] at q27 q28 q21
      clear hdeps
      have i0 : (0 : Int) ≤ (i : Int) := by omega
      have i1 : (i : Int) < 8 := by have := hh.out; omega
      refine wpOp_step ho (fun K hK => ?_)
      clear ho
      go_simp
      exact hK _ _ ⟨_, act_putD x hdef _ _, rfl, MK.refl _ _⟩
    | 30, ho =>
      have e : o = { dst := some 82, op := Op.load 3 (Operand.tmp 81), type := 3, pos := "law.go:52", after := #[{ on := 29, ground := Ground.data }, { on := 21, ground := Ground.guard }], guard := some (21, false) } := (Option.some.inj ho).symm
      subst e
      have q29 : x.tmps.getD 81 undef = .pointer (some ⟨G, i, none⟩) := hdeps { on := 29, ground := Ground.data } (by simp) rfl
      have q21 : x.tmps.getD 73 undef = .bool false := hdeps { on := 21, ground := Ground.guard } (by simp) rfl
      have e21 : (small21_ops[21]?.bind fun x => x.dst) = some 73 := rfl
      have g21 := get_someR q21 (fun h => by cases h)
      simp only [Array.getD_eq_getD_getElem?] at q29 q21
      clear hdeps
      have m := ci w hB
      refine wpOp_step ho (fun K hK => ?_)
      clear ho
      go_simp
      exact hK _ _ ⟨_, act_putD x hdef _ _, rfl, MK.refl _ _⟩
    | 31, ho =>
      have e : o = { dst := some 83, op := Op.call { callee := Callee.value (Operand.func 3), args := #[Operand.const (Value.slice none 0 0), Operand.tmp 78, Operand.tmp 82, Operand.const (Value.int IntKind.i64 1)], argTypes := #[22, 23, 3, 3] }, type := 4, pos := "law.go:52", after := #[{ on := 26, ground := Ground.data }, { on := 30, ground := Ground.data }, { on := 21, ground := Ground.chain }, { on := 21, ground := Ground.guard }], guard := some (21, false) } := (Option.some.inj ho).symm
      subst e
      obtain ⟨g26, fr26, q26, le26, p26⟩ := hdeps { on := 26, ground := Ground.data } (by simp) rfl
      have q26 : x.tmps.getD 78 undef = .slice (some ⟨g26, 0, none⟩) 1 1 := q26
      have q30 : x.tmps.getD 82 undef = .int .i64 vx := hdeps { on := 30, ground := Ground.data } (by simp) rfl
      have q21 : x.tmps.getD 73 undef = .bool false := hdeps { on := 21, ground := Ground.guard } (by simp) rfl
      have e21 : (small21_ops[21]?.bind fun x => x.dst) = some 73 := rfl
      have g21 := get_someR q21 (fun h => by cases h)
      simp only [Array.getD_eq_getD_getElem?] at q26 q30 q21
      clear hdeps
      refine wpOp_step ho (fun K hK => ?_)
      clear ho
      go_simp
      refine (c2 w _ _ hB p26).mono ?_
      rintro e w' ⟨rfl, hb⟩
      have hsz := hB.size
      exact hK _ _ ⟨_, act_putD x hdef _ _, rfl, MK.of_below hb (by omega)⟩
    | 32, ho =>
      have e : o = { dst := some 84, op := Op.unOp UnOp.not 4 (Operand.tmp 83), type := 4, pos := "law.go:52", after := #[{ on := 31, ground := Ground.data }, { on := 21, ground := Ground.guard }], guard := some (21, false) } := (Option.some.inj ho).symm
      subst e
      have q31 : x.tmps.getD 83 undef = .bool true := hdeps { on := 31, ground := Ground.data } (by simp) rfl
      have q21 : x.tmps.getD 73 undef = .bool false := hdeps { on := 21, ground := Ground.guard } (by simp) rfl
      have e21 : (small21_ops[21]?.bind fun x => x.dst) = some 73 := rfl
      have g21 := get_someR q21 (fun h => by cases h)
      simp only [Array.getD_eq_getD_getElem?] at q31 q21
      clear hdeps
      refine wpOp_step ho (fun K hK => ?_)
      clear ho
      go_simp
      exact hK _ _ ⟨_, act_putD x hdef _ _, rfl, MK.refl _ _⟩
    | 33, ho =>
      have e : o = { dst := some 85, op := Op.pick (Operand.tmp 73) (Operand.const (Value.bool true)) (Operand.tmp 84), type := 4, pos := "law.go:52", after := #[{ on := 21, ground := Ground.data }, { on := 32, ground := Ground.data }], guard := none } := (Option.some.inj ho).symm
      subst e
      have q21 : x.tmps.getD 73 undef = .bool false := hdeps { on := 21, ground := Ground.data } (by simp) rfl
      have q32 : x.tmps.getD 84 undef = .bool false := hdeps { on := 32, ground := Ground.data } (by simp) rfl
      simp only [Array.getD_eq_getD_getElem?] at q21 q32
      clear hdeps
      refine wpOp_step ho (fun K hK => ?_)
      clear ho
      go_simp
      exact hK _ _ ⟨_, act_putD x hdef _ _, rfl, MK.refl _ _⟩
    | k + 34, _ => omega
  · intro x w hB hdef hsz hs hv
    have hx := frame_sets x.tmps t0 hsz [52, 53, 54, 55, 56, 57, 58, 59, 60, 61, 62, 63, 64, 65, 66, 67, 68, 69, 70, 71, 72, 73, 74, 75, 76, 77, 78, 79, 80, 81, 82, 83, 84, 85] (fun s hn => hs s (fun j hj e => hn (small21_list s (by rw [e]; exact hsl j hj))))
    have hq := hQ (fun d => x.tmps.getD d undef) w hB (hv 33 (by decide))
    obtain ⟨T, Df⟩ := x
    dsimp only at hx hdef hq
    subst hdef
    rw [← hx] at hq
    exact hq

end Go.Proofs.Yteanibapabafnaa
