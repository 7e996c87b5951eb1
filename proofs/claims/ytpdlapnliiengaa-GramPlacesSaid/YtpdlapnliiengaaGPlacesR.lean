/-
  GramPlaces' drawn region 10 (written by tools/gen-gplw.py).
-/
import Derived.Test.YtpdlapnliiengaaGPlacesM
import Derived.Test.YtpdlapnliiengaaRegT
namespace Go.Proofs.Ytpdlapnliiengaa
open Go.RowKit Go.Shelf
set_option linter.unusedVariables false
set_option linter.unusedSimpArgs false

abbrev gpa_o0 : Oper := { dst := some 37, op := Op.move (Operand.tmp 10), type := 3, pos := "outright.go:51", after := #[], guard := none }
abbrev gpa_o1 : Oper := { dst := some 38, op := Op.binOp BinOp.gtr 3 (Operand.tmp 37) (Operand.const (Value.int IntKind.i64 0)) 3, type := 4, pos := "outright.go:51", after := #[{ on := 0, ground := Ground.data }], guard := none }
abbrev gpa_o2 : Oper := { dst := some 39, op := Op.move (Operand.tmp 38), type := 4, pos := "outright.go:51", after := #[{ on := 1, ground := Ground.data }], guard := none }
abbrev gpa_o3 : Oper := { dst := some 40, op := Op.move (Operand.tmp 7), type := 32, pos := "outright.go:51", after := #[{ on := 2, ground := Ground.guard }], guard := some (2, true) }
abbrev gpa_o4 : Oper := { dst := some 41, op := Op.move (Operand.tmp 10), type := 3, pos := "outright.go:51", after := #[{ on := 2, ground := Ground.guard }], guard := some (2, true) }
abbrev gpa_o5 : Oper := { dst := some 42, op := Op.binOp BinOp.sub 3 (Operand.tmp 41) (Operand.const (Value.int IntKind.i64 1)) 3, type := 3, pos := "outright.go:51", after := #[{ on := 4, ground := Ground.data }, { on := 2, ground := Ground.guard }], guard := some (2, true) }
abbrev gpa_o6 : Oper := { dst := some 43, op := Op.indexAddr 32 (Operand.tmp 40) (Operand.tmp 42), type := 0, pos := "outright.go:51", after := #[{ on := 3, ground := Ground.data }, { on := 5, ground := Ground.data }, { on := 2, ground := Ground.guard }], guard := some (2, true) }
abbrev gpa_o7 : Oper := { dst := some 44, op := Op.fieldAddr 37 (Operand.tmp 43) 0, type := 0, pos := "outright.go:51", after := #[{ on := 6, ground := Ground.data }, { on := 2, ground := Ground.guard }], guard := some (2, true) }
abbrev gpa_o8 : Oper := { dst := some 45, op := Op.load 9 (Operand.tmp 44), type := 9, pos := "outright.go:51", after := #[{ on := 7, ground := Ground.data }, { on := 2, ground := Ground.guard }], guard := some (2, true) }
abbrev gpa_o9 : Oper := { dst := some 46, op := Op.move (Operand.tmp 7), type := 32, pos := "outright.go:51", after := #[{ on := 2, ground := Ground.guard }], guard := some (2, true) }
abbrev gpa_o10 : Oper := { dst := some 47, op := Op.move (Operand.tmp 10), type := 3, pos := "outright.go:51", after := #[{ on := 2, ground := Ground.guard }], guard := some (2, true) }
abbrev gpa_o11 : Oper := { dst := some 48, op := Op.indexAddr 32 (Operand.tmp 46) (Operand.tmp 47), type := 0, pos := "outright.go:51", after := #[{ on := 9, ground := Ground.data }, { on := 10, ground := Ground.data }, { on := 2, ground := Ground.guard }], guard := some (2, true) }
abbrev gpa_o12 : Oper := { dst := some 49, op := Op.fieldAddr 37 (Operand.tmp 48) 0, type := 0, pos := "outright.go:51", after := #[{ on := 11, ground := Ground.data }, { on := 2, ground := Ground.guard }], guard := some (2, true) }
abbrev gpa_o13 : Oper := { dst := some 50, op := Op.load 9 (Operand.tmp 49), type := 9, pos := "outright.go:51", after := #[{ on := 12, ground := Ground.data }, { on := 2, ground := Ground.guard }], guard := some (2, true) }
abbrev gpa_o14 : Oper := { dst := some 51, op := Op.binOp BinOp.geq 9 (Operand.tmp 45) (Operand.tmp 50) 9, type := 4, pos := "outright.go:51", after := #[{ on := 8, ground := Ground.data }, { on := 13, ground := Ground.data }, { on := 2, ground := Ground.guard }], guard := some (2, true) }
abbrev gpa_o15 : Oper := { dst := some 52, op := Op.pick (Operand.tmp 39) (Operand.tmp 51) (Operand.const (Value.bool false)), type := 4, pos := "outright.go:51", after := #[{ on := 2, ground := Ground.data }, { on := 14, ground := Ground.data }], guard := none }
abbrev gpa_o16 : Oper := { dst := some 53, op := Op.move (Operand.tmp 52), type := 4, pos := "outright.go:51", after := #[{ on := 15, ground := Ground.data }, { on := 2, ground := Ground.chain }], guard := none }
abbrev gpa_o17 : Oper := { dst := some 54, op := Op.move (Operand.tmp 10), type := 3, pos := "outright.go:51", after := #[{ on := 16, ground := Ground.guard }], guard := some (16, false) }
abbrev gpa_o18 : Oper := { dst := some 55, op := Op.move (Operand.tmp 8), type := 24, pos := "outright.go:51", after := #[{ on := 16, ground := Ground.guard }], guard := some (16, false) }
abbrev gpa_o19 : Oper := { dst := some 56, op := Op.call { callee := Callee.builtin Builtin.len, args := #[Operand.tmp 55], argTypes := #[24] }, type := 3, pos := "outright.go:51", after := #[{ on := 18, ground := Ground.data }, { on := 16, ground := Ground.guard }], guard := some (16, false) }
abbrev gpa_o20 : Oper := { dst := some 57, op := Op.binOp BinOp.geq 3 (Operand.tmp 54) (Operand.tmp 56) 3, type := 4, pos := "outright.go:51", after := #[{ on := 17, ground := Ground.data }, { on := 19, ground := Ground.data }, { on := 16, ground := Ground.guard }], guard := some (16, false) }
abbrev gpa_o21 : Oper := { dst := some 58, op := Op.pick (Operand.tmp 53) (Operand.const (Value.bool true)) (Operand.tmp 57), type := 4, pos := "outright.go:51", after := #[{ on := 16, ground := Ground.data }, { on := 20, ground := Ground.data }], guard := none }
abbrev gpa_o22 : Oper := { dst := some 59, op := Op.move (Operand.tmp 58), type := 4, pos := "outright.go:51", after := #[{ on := 21, ground := Ground.data }, { on := 16, ground := Ground.chain }], guard := none }
abbrev gpa_o23 : Oper := { dst := some 60, op := Op.move (Operand.tmp 8), type := 24, pos := "outright.go:51", after := #[{ on := 22, ground := Ground.guard }], guard := some (22, false) }
abbrev gpa_o24 : Oper := { dst := some 61, op := Op.move (Operand.tmp 10), type := 3, pos := "outright.go:51", after := #[{ on := 22, ground := Ground.guard }], guard := some (22, false) }
abbrev gpa_o25 : Oper := { dst := some 62, op := Op.indexAddr 24 (Operand.tmp 60) (Operand.tmp 61), type := 0, pos := "outright.go:51", after := #[{ on := 23, ground := Ground.data }, { on := 24, ground := Ground.data }, { on := 22, ground := Ground.guard }], guard := some (22, false) }
abbrev gpa_o26 : Oper := { dst := some 63, op := Op.load 9 (Operand.tmp 62), type := 9, pos := "outright.go:51", after := #[{ on := 25, ground := Ground.data }, { on := 22, ground := Ground.guard }], guard := some (22, false) }
abbrev gpa_o27 : Oper := { dst := some 64, op := Op.move (Operand.tmp 7), type := 32, pos := "outright.go:51", after := #[{ on := 22, ground := Ground.guard }], guard := some (22, false) }
abbrev gpa_o28 : Oper := { dst := some 65, op := Op.move (Operand.tmp 10), type := 3, pos := "outright.go:51", after := #[{ on := 22, ground := Ground.guard }], guard := some (22, false) }
abbrev gpa_o29 : Oper := { dst := some 66, op := Op.indexAddr 32 (Operand.tmp 64) (Operand.tmp 65), type := 0, pos := "outright.go:51", after := #[{ on := 27, ground := Ground.data }, { on := 28, ground := Ground.data }, { on := 22, ground := Ground.guard }], guard := some (22, false) }
abbrev gpa_o30 : Oper := { dst := some 67, op := Op.fieldAddr 37 (Operand.tmp 66) 0, type := 0, pos := "outright.go:51", after := #[{ on := 29, ground := Ground.data }, { on := 22, ground := Ground.guard }], guard := some (22, false) }
abbrev gpa_o31 : Oper := { dst := some 68, op := Op.load 9 (Operand.tmp 67), type := 9, pos := "outright.go:51", after := #[{ on := 30, ground := Ground.data }, { on := 22, ground := Ground.guard }], guard := some (22, false) }
abbrev gpa_o32 : Oper := { dst := some 69, op := Op.binOp BinOp.neq 9 (Operand.tmp 63) (Operand.tmp 68) 9, type := 4, pos := "outright.go:51", after := #[{ on := 26, ground := Ground.data }, { on := 31, ground := Ground.data }, { on := 22, ground := Ground.guard }], guard := some (22, false) }
abbrev gpa_o33 : Oper := { dst := some 70, op := Op.pick (Operand.tmp 59) (Operand.const (Value.bool true)) (Operand.tmp 69), type := 4, pos := "outright.go:51", after := #[{ on := 22, ground := Ground.data }, { on := 32, ground := Ground.data }], guard := none }
abbrev gpa_o34 : Oper := { dst := some 71, op := Op.move (Operand.tmp 70), type := 4, pos := "outright.go:51", after := #[{ on := 33, ground := Ground.data }, { on := 22, ground := Ground.chain }], guard := none }
abbrev gpa_o35 : Oper := { dst := some 72, op := Op.move (Operand.tmp 7), type := 32, pos := "outright.go:51", after := #[{ on := 34, ground := Ground.guard }], guard := some (34, false) }
abbrev gpa_o36 : Oper := { dst := some 73, op := Op.move (Operand.tmp 10), type := 3, pos := "outright.go:51", after := #[{ on := 34, ground := Ground.guard }], guard := some (34, false) }
abbrev gpa_o37 : Oper := { dst := some 74, op := Op.indexAddr 32 (Operand.tmp 72) (Operand.tmp 73), type := 0, pos := "outright.go:51", after := #[{ on := 35, ground := Ground.data }, { on := 36, ground := Ground.data }, { on := 34, ground := Ground.guard }], guard := some (34, false) }
abbrev gpa_o38 : Oper := { dst := some 75, op := Op.fieldAddr 37 (Operand.tmp 74) 1, type := 0, pos := "outright.go:51", after := #[{ on := 37, ground := Ground.data }, { on := 34, ground := Ground.guard }], guard := some (34, false) }
abbrev gpa_o39 : Oper := { dst := some 76, op := Op.load 35 (Operand.tmp 75), type := 35, pos := "outright.go:51", after := #[{ on := 38, ground := Ground.data }, { on := 34, ground := Ground.guard }], guard := some (34, false) }
abbrev gpa_o40 : Oper := { dst := some 77, op := Op.call { callee := Callee.builtin Builtin.len, args := #[Operand.tmp 76], argTypes := #[35] }, type := 3, pos := "outright.go:51", after := #[{ on := 39, ground := Ground.data }, { on := 34, ground := Ground.guard }], guard := some (34, false) }
abbrev gpa_o41 : Oper := { dst := some 78, op := Op.binOp BinOp.eql 3 (Operand.tmp 77) (Operand.const (Value.int IntKind.i64 0)) 3, type := 4, pos := "outright.go:51", after := #[{ on := 40, ground := Ground.data }, { on := 34, ground := Ground.guard }], guard := some (34, false) }
abbrev gpa_o42 : Oper := { dst := some 79, op := Op.pick (Operand.tmp 71) (Operand.const (Value.bool true)) (Operand.tmp 78), type := 4, pos := "outright.go:51", after := #[{ on := 34, ground := Ground.data }, { on := 41, ground := Ground.data }], guard := none }
def gpa_ops : Array Oper := #[gpa_o0, gpa_o1, gpa_o2, gpa_o3, gpa_o4, gpa_o5, gpa_o6, gpa_o7, gpa_o8, gpa_o9, gpa_o10, gpa_o11, gpa_o12, gpa_o13, gpa_o14, gpa_o15, gpa_o16, gpa_o17, gpa_o18, gpa_o19, gpa_o20, gpa_o21, gpa_o22, gpa_o23, gpa_o24, gpa_o25, gpa_o26, gpa_o27, gpa_o28, gpa_o29, gpa_o30, gpa_o31, gpa_o32, gpa_o33, gpa_o34, gpa_o35, gpa_o36, gpa_o37, gpa_o38, gpa_o39, gpa_o40, gpa_o41, gpa_o42]
abbrev gpa_mem (s : Nat) : Prop := s ∈ [37, 38, 39, 40, 41, 42, 43, 44, 45, 46, 47, 48, 49, 50, 51, 52, 53, 54, 55, 56, 57, 58, 59, 60, 61, 62, 63, 64, 65, 66, 67, 68, 69, 70, 71, 72, 73, 74, 75, 76, 77, 78, 79]
set_option maxRecDepth 100000 in
theorem gpa_slots : ∀ j, j < 43 → gpa_mem (slotOf gpa_ops j) := by
  intro j hj
  match j, hj with
  | 0, _ => exact (by decide : gpa_mem 37)
  | 1, _ => exact (by decide : gpa_mem 38)
  | 2, _ => exact (by decide : gpa_mem 39)
  | 3, _ => exact (by decide : gpa_mem 40)
  | 4, _ => exact (by decide : gpa_mem 41)
  | 5, _ => exact (by decide : gpa_mem 42)
  | 6, _ => exact (by decide : gpa_mem 43)
  | 7, _ => exact (by decide : gpa_mem 44)
  | 8, _ => exact (by decide : gpa_mem 45)
  | 9, _ => exact (by decide : gpa_mem 46)
  | 10, _ => exact (by decide : gpa_mem 47)
  | 11, _ => exact (by decide : gpa_mem 48)
  | 12, _ => exact (by decide : gpa_mem 49)
  | 13, _ => exact (by decide : gpa_mem 50)
  | 14, _ => exact (by decide : gpa_mem 51)
  | 15, _ => exact (by decide : gpa_mem 52)
  | 16, _ => exact (by decide : gpa_mem 53)
  | 17, _ => exact (by decide : gpa_mem 54)
  | 18, _ => exact (by decide : gpa_mem 55)
  | 19, _ => exact (by decide : gpa_mem 56)
  | 20, _ => exact (by decide : gpa_mem 57)
  | 21, _ => exact (by decide : gpa_mem 58)
  | 22, _ => exact (by decide : gpa_mem 59)
  | 23, _ => exact (by decide : gpa_mem 60)
  | 24, _ => exact (by decide : gpa_mem 61)
  | 25, _ => exact (by decide : gpa_mem 62)
  | 26, _ => exact (by decide : gpa_mem 63)
  | 27, _ => exact (by decide : gpa_mem 64)
  | 28, _ => exact (by decide : gpa_mem 65)
  | 29, _ => exact (by decide : gpa_mem 66)
  | 30, _ => exact (by decide : gpa_mem 67)
  | 31, _ => exact (by decide : gpa_mem 68)
  | 32, _ => exact (by decide : gpa_mem 69)
  | 33, _ => exact (by decide : gpa_mem 70)
  | 34, _ => exact (by decide : gpa_mem 71)
  | 35, _ => exact (by decide : gpa_mem 72)
  | 36, _ => exact (by decide : gpa_mem 73)
  | 37, _ => exact (by decide : gpa_mem 74)
  | 38, _ => exact (by decide : gpa_mem 75)
  | 39, _ => exact (by decide : gpa_mem 76)
  | 40, _ => exact (by decide : gpa_mem 77)
  | 41, _ => exact (by decide : gpa_mem 78)
  | 42, _ => exact (by decide : gpa_mem 79)
  | k + 43, hj => omega
def gpaF_val (gP bG oG gX N cP cG np cX : Nat) (T : ByteArray) : Nat → Value → World → Prop
  | 0, v, w => v = .int .i64 0
  | 1, v, w => v = .bool false
  | 2, v, w => v = .bool false
  | 3, v, w => v = undef
  | 4, v, w => v = undef
  | 5, v, w => v = undef
  | 6, v, w => v = undef
  | 7, v, w => v = undef
  | 8, v, w => v = undef
  | 9, v, w => v = undef
  | 10, v, w => v = undef
  | 11, v, w => v = undef
  | 12, v, w => v = undef
  | 13, v, w => v = undef
  | 14, v, w => v = undef
  | 15, v, w => v = .bool false
  | 16, v, w => v = .bool false
  | 17, v, w => v = .int .i64 0
  | 18, v, w => v = .slice (some ⟨bG, oG, none⟩) N cG
  | 19, v, w => v = .int .i64 (N : Nat)
  | 20, v, w => v = .bool false
  | 21, v, w => v = .bool false
  | 22, v, w => v = .bool false
  | 23, v, w => v = .slice (some ⟨bG, oG, none⟩) N cG
  | 24, v, w => v = .int .i64 0
  | 25, v, w => v = .pointer (some ⟨bG, oG, none⟩)
  | 26, v, w => v = .string T
  | 27, v, w => v = .slice (some ⟨gP, 0, none⟩) N cP
  | 28, v, w => v = .int .i64 0
  | 29, v, w => v = .pointer (some ⟨gP, 0, none⟩)
  | 30, v, w => v = .pointer (some ⟨gP, 0, none⟩)
  | 31, v, w => v = .string T
  | 32, v, w => v = .bool false
  | 33, v, w => v = .bool false
  | 34, v, w => v = .bool false
  | 35, v, w => v = .slice (some ⟨gP, 0, none⟩) N cP
  | 36, v, w => v = .int .i64 0
  | 37, v, w => v = .pointer (some ⟨gP, 0, none⟩)
  | 38, v, w => v = .pointer (some ⟨gP, 1, none⟩)
  | 39, v, w => v = .slice (some ⟨gX, 0, none⟩) np cX
  | 40, v, w => v = .int .i64 (np : Nat)
  | 41, v, w => v = .bool false
  | 42, v, w => v = .bool false
  | _, _, _ => True
theorem gpaF_below (gP bG oG gX N cP cG np cX : Nat) (T : ByteArray) (w w' : World) (hb : Below w.heap.size w w') : ∀ j v, gpaF_val gP bG oG gX N cP cG np cX T j v w → gpaF_val gP bG oG gX N cP cG np cX T j v w' := by
  intro j v h
  match j, h with
  | 0, h => exact h
  | 1, h => exact h
  | 2, h => exact h
  | 3, h => exact h
  | 4, h => exact h
  | 5, h => exact h
  | 6, h => exact h
  | 7, h => exact h
  | 8, h => exact h
  | 9, h => exact h
  | 10, h => exact h
  | 11, h => exact h
  | 12, h => exact h
  | 13, h => exact h
  | 14, h => exact h
  | 15, h => exact h
  | 16, h => exact h
  | 17, h => exact h
  | 18, h => exact h
  | 19, h => exact h
  | 20, h => exact h
  | 21, h => exact h
  | 22, h => exact h
  | 23, h => exact h
  | 24, h => exact h
  | 25, h => exact h
  | 26, h => exact h
  | 27, h => exact h
  | 28, h => exact h
  | 29, h => exact h
  | 30, h => exact h
  | 31, h => exact h
  | 32, h => exact h
  | 33, h => exact h
  | 34, h => exact h
  | 35, h => exact h
  | 36, h => exact h
  | 37, h => exact h
  | 38, h => exact h
  | 39, h => exact h
  | 40, h => exact h
  | 41, h => exact h
  | 42, h => exact h
  | _ + 43, h => exact h
set_option maxRecDepth 100000 in
set_option maxHeartbeats 2000000 in
theorem gpaF_s0 {Fc : Fence} (hF : Wide Fc) {nC : Nat} (gP bG oG gX N cP cG np cX : Nat) (T : ByteArray) (Q : Exit → Act → World → Prop) (df : List Deferred) (w0 : World)
    (hi : 0 < N) (hN : N ≤ 4000) (h1 : w0.cell? ⟨gP, 0, none⟩ = some (.string T)) (h2 : w0.cell? ⟨gP, 1, none⟩ = some (.slice (some ⟨gX, 0, none⟩) np cX)) (h3 : w0.cell? ⟨bG, oG, none⟩ = some (.string T)) (hnp : 0 < np)
    (x : Act) (w : World) (hB : Below w0.heap.size w0 w) (hdef : x.defers = df) (u7 : x.tmps.getD 7 undef = .slice (some ⟨gP, 0, none⟩) N cP) (u8 : x.tmps.getD 8 undef = .slice (some ⟨bG, oG, none⟩) N cG) (u10 : x.tmps.getD 10 undef = .int .i64 0)
    : wpOpIn Fc nC Try.prog gpa_ops Q 0 (fun a' w' => ∃ v, a' = x.put (some 37) v ∧ (v = .int .i64 0) ∧ Below w.heap.size w w') x w := by
  have ho : gpa_ops[0]? = some gpa_o0 := rfl
  simp only [Array.getD_eq_getD_getElem?] at u7 u8 u10
  refine wpOpIn_plain ho rfl (oper_inK hF.fn (fun K hK => ?_))
  clear ho
  rw [Oper.semAt_plain Fc _ _ (by intro c h; cases h)]
  simp only [gpa_o0]
  go_simp
  exact hK _ _ ⟨_, act_putD x hdef _ _, rfl, Below.refl _ _⟩
set_option maxRecDepth 100000 in
set_option maxHeartbeats 2000000 in
theorem gpaF_s1 {Fc : Fence} (hF : Wide Fc) {nC : Nat} (gP bG oG gX N cP cG np cX : Nat) (T : ByteArray) (Q : Exit → Act → World → Prop) (df : List Deferred) (w0 : World)
    (hi : 0 < N) (hN : N ≤ 4000) (h1 : w0.cell? ⟨gP, 0, none⟩ = some (.string T)) (h2 : w0.cell? ⟨gP, 1, none⟩ = some (.slice (some ⟨gX, 0, none⟩) np cX)) (h3 : w0.cell? ⟨bG, oG, none⟩ = some (.string T)) (hnp : 0 < np)
    (x : Act) (w : World) (hB : Below w0.heap.size w0 w) (hdef : x.defers = df) (u7 : x.tmps.getD 7 undef = .slice (some ⟨gP, 0, none⟩) N cP) (u8 : x.tmps.getD 8 undef = .slice (some ⟨bG, oG, none⟩) N cG) (u10 : x.tmps.getD 10 undef = .int .i64 0)
    (p0 : gpaF_val gP bG oG gX N cP cG np cX T 0 (x.tmps.getD 37 undef) w)
    : wpOpIn Fc nC Try.prog gpa_ops Q 1 (fun a' w' => ∃ v, a' = x.put (some 38) v ∧ (v = .bool false) ∧ Below w.heap.size w w') x w := by
  have ho : gpa_ops[1]? = some gpa_o1 := rfl
  simp only [Array.getD_eq_getD_getElem?] at u7 u8 u10
  have q0 : x.tmps.getD 37 undef = .int .i64 0 := p0
  simp only [Array.getD_eq_getD_getElem?] at q0
  refine wpOpIn_plain ho rfl (oper_inK hF.fn (fun K hK => ?_))
  clear ho
  rw [Oper.semAt_plain Fc _ _ (by intro c h; cases h)]
  simp only [gpa_o1]
  go_simp
  exact hK _ _ ⟨_, act_putD x hdef _ _, rfl, Below.refl _ _⟩
set_option maxRecDepth 100000 in
set_option maxHeartbeats 2000000 in
theorem gpaF_s2 {Fc : Fence} (hF : Wide Fc) {nC : Nat} (gP bG oG gX N cP cG np cX : Nat) (T : ByteArray) (Q : Exit → Act → World → Prop) (df : List Deferred) (w0 : World)
    (hi : 0 < N) (hN : N ≤ 4000) (h1 : w0.cell? ⟨gP, 0, none⟩ = some (.string T)) (h2 : w0.cell? ⟨gP, 1, none⟩ = some (.slice (some ⟨gX, 0, none⟩) np cX)) (h3 : w0.cell? ⟨bG, oG, none⟩ = some (.string T)) (hnp : 0 < np)
    (x : Act) (w : World) (hB : Below w0.heap.size w0 w) (hdef : x.defers = df) (u7 : x.tmps.getD 7 undef = .slice (some ⟨gP, 0, none⟩) N cP) (u8 : x.tmps.getD 8 undef = .slice (some ⟨bG, oG, none⟩) N cG) (u10 : x.tmps.getD 10 undef = .int .i64 0)
    (p1 : gpaF_val gP bG oG gX N cP cG np cX T 1 (x.tmps.getD 38 undef) w)
    : wpOpIn Fc nC Try.prog gpa_ops Q 2 (fun a' w' => ∃ v, a' = x.put (some 39) v ∧ (v = .bool false) ∧ Below w.heap.size w w') x w := by
  have ho : gpa_ops[2]? = some gpa_o2 := rfl
  simp only [Array.getD_eq_getD_getElem?] at u7 u8 u10
  have q1 : x.tmps.getD 38 undef = .bool false := p1
  simp only [Array.getD_eq_getD_getElem?] at q1
  refine wpOpIn_plain ho rfl (oper_inK hF.fn (fun K hK => ?_))
  clear ho
  rw [Oper.semAt_plain Fc _ _ (by intro c h; cases h)]
  simp only [gpa_o2]
  go_simp
  exact hK _ _ ⟨_, act_putD x hdef _ _, rfl, Below.refl _ _⟩
set_option maxRecDepth 100000 in
set_option maxHeartbeats 2000000 in
theorem gpaF_s3 {Fc : Fence} (hF : Wide Fc) {nC : Nat} (gP bG oG gX N cP cG np cX : Nat) (T : ByteArray) (Q : Exit → Act → World → Prop) (df : List Deferred) (w0 : World)
    (hi : 0 < N) (hN : N ≤ 4000) (h1 : w0.cell? ⟨gP, 0, none⟩ = some (.string T)) (h2 : w0.cell? ⟨gP, 1, none⟩ = some (.slice (some ⟨gX, 0, none⟩) np cX)) (h3 : w0.cell? ⟨bG, oG, none⟩ = some (.string T)) (hnp : 0 < np)
    (x : Act) (w : World) (hB : Below w0.heap.size w0 w) (hdef : x.defers = df) (u7 : x.tmps.getD 7 undef = .slice (some ⟨gP, 0, none⟩) N cP) (u8 : x.tmps.getD 8 undef = .slice (some ⟨bG, oG, none⟩) N cG) (u10 : x.tmps.getD 10 undef = .int .i64 0)
    (p2 : gpaF_val gP bG oG gX N cP cG np cX T 2 (x.tmps.getD 39 undef) w)
    : wpOpIn Fc nC Try.prog gpa_ops Q 3 (fun a' w' => ∃ v, a' = x.put (some 40) v ∧ (v = undef) ∧ Below w.heap.size w w') x w := by
  have ho : gpa_ops[3]? = some gpa_o3 := rfl
  simp only [Array.getD_eq_getD_getElem?] at u7 u8 u10
  have q2 : x.tmps.getD 39 undef = .bool false := p2
  simp only [Array.getD_eq_getD_getElem?] at q2
  have e2 : (gpa_ops[2]?.bind fun x => x.dst) = some 39 := rfl
  have g2 := get_someT q2 (fun h => by cases h)
  refine wpOpIn_stepT hF ho (fun K hK => ?_)
  clear ho
  rw [Oper.semAt_plain Fc _ _ (by intro c h; cases h)]
  simp only [gpa_o3]
  go_simp
  exact hK _ _ ⟨_, act_putD x hdef _ _, rfl, Below.refl _ _⟩
set_option maxRecDepth 100000 in
set_option maxHeartbeats 2000000 in
theorem gpaF_s4 {Fc : Fence} (hF : Wide Fc) {nC : Nat} (gP bG oG gX N cP cG np cX : Nat) (T : ByteArray) (Q : Exit → Act → World → Prop) (df : List Deferred) (w0 : World)
    (hi : 0 < N) (hN : N ≤ 4000) (h1 : w0.cell? ⟨gP, 0, none⟩ = some (.string T)) (h2 : w0.cell? ⟨gP, 1, none⟩ = some (.slice (some ⟨gX, 0, none⟩) np cX)) (h3 : w0.cell? ⟨bG, oG, none⟩ = some (.string T)) (hnp : 0 < np)
    (x : Act) (w : World) (hB : Below w0.heap.size w0 w) (hdef : x.defers = df) (u7 : x.tmps.getD 7 undef = .slice (some ⟨gP, 0, none⟩) N cP) (u8 : x.tmps.getD 8 undef = .slice (some ⟨bG, oG, none⟩) N cG) (u10 : x.tmps.getD 10 undef = .int .i64 0)
    (p2 : gpaF_val gP bG oG gX N cP cG np cX T 2 (x.tmps.getD 39 undef) w)
    : wpOpIn Fc nC Try.prog gpa_ops Q 4 (fun a' w' => ∃ v, a' = x.put (some 41) v ∧ (v = undef) ∧ Below w.heap.size w w') x w := by
  have ho : gpa_ops[4]? = some gpa_o4 := rfl
  simp only [Array.getD_eq_getD_getElem?] at u7 u8 u10
  have q2 : x.tmps.getD 39 undef = .bool false := p2
  simp only [Array.getD_eq_getD_getElem?] at q2
  have e2 : (gpa_ops[2]?.bind fun x => x.dst) = some 39 := rfl
  have g2 := get_someT q2 (fun h => by cases h)
  refine wpOpIn_stepT hF ho (fun K hK => ?_)
  clear ho
  rw [Oper.semAt_plain Fc _ _ (by intro c h; cases h)]
  simp only [gpa_o4]
  go_simp
  exact hK _ _ ⟨_, act_putD x hdef _ _, rfl, Below.refl _ _⟩
set_option maxRecDepth 100000 in
set_option maxHeartbeats 2000000 in
theorem gpaF_s5 {Fc : Fence} (hF : Wide Fc) {nC : Nat} (gP bG oG gX N cP cG np cX : Nat) (T : ByteArray) (Q : Exit → Act → World → Prop) (df : List Deferred) (w0 : World)
    (hi : 0 < N) (hN : N ≤ 4000) (h1 : w0.cell? ⟨gP, 0, none⟩ = some (.string T)) (h2 : w0.cell? ⟨gP, 1, none⟩ = some (.slice (some ⟨gX, 0, none⟩) np cX)) (h3 : w0.cell? ⟨bG, oG, none⟩ = some (.string T)) (hnp : 0 < np)
    (x : Act) (w : World) (hB : Below w0.heap.size w0 w) (hdef : x.defers = df) (u7 : x.tmps.getD 7 undef = .slice (some ⟨gP, 0, none⟩) N cP) (u8 : x.tmps.getD 8 undef = .slice (some ⟨bG, oG, none⟩) N cG) (u10 : x.tmps.getD 10 undef = .int .i64 0)
    (p4 : gpaF_val gP bG oG gX N cP cG np cX T 4 (x.tmps.getD 41 undef) w)
    (p2 : gpaF_val gP bG oG gX N cP cG np cX T 2 (x.tmps.getD 39 undef) w)
    : wpOpIn Fc nC Try.prog gpa_ops Q 5 (fun a' w' => ∃ v, a' = x.put (some 42) v ∧ (v = undef) ∧ Below w.heap.size w w') x w := by
  have ho : gpa_ops[5]? = some gpa_o5 := rfl
  simp only [Array.getD_eq_getD_getElem?] at u7 u8 u10
  have q4 : x.tmps.getD 41 undef = undef := p4
  have q2 : x.tmps.getD 39 undef = .bool false := p2
  simp only [Array.getD_eq_getD_getElem?] at q4 q2
  have e2 : (gpa_ops[2]?.bind fun x => x.dst) = some 39 := rfl
  have g2 := get_someT q2 (fun h => by cases h)
  refine wpOpIn_stepT hF ho (fun K hK => ?_)
  clear ho
  rw [Oper.semAt_plain Fc _ _ (by intro c h; cases h)]
  simp only [gpa_o5]
  go_simp
  exact hK _ _ ⟨_, act_putD x hdef _ _, rfl, Below.refl _ _⟩
set_option maxRecDepth 100000 in
set_option maxHeartbeats 2000000 in
theorem gpaF_s6 {Fc : Fence} (hF : Wide Fc) {nC : Nat} (gP bG oG gX N cP cG np cX : Nat) (T : ByteArray) (Q : Exit → Act → World → Prop) (df : List Deferred) (w0 : World)
    (hi : 0 < N) (hN : N ≤ 4000) (h1 : w0.cell? ⟨gP, 0, none⟩ = some (.string T)) (h2 : w0.cell? ⟨gP, 1, none⟩ = some (.slice (some ⟨gX, 0, none⟩) np cX)) (h3 : w0.cell? ⟨bG, oG, none⟩ = some (.string T)) (hnp : 0 < np)
    (x : Act) (w : World) (hB : Below w0.heap.size w0 w) (hdef : x.defers = df) (u7 : x.tmps.getD 7 undef = .slice (some ⟨gP, 0, none⟩) N cP) (u8 : x.tmps.getD 8 undef = .slice (some ⟨bG, oG, none⟩) N cG) (u10 : x.tmps.getD 10 undef = .int .i64 0)
    (p3 : gpaF_val gP bG oG gX N cP cG np cX T 3 (x.tmps.getD 40 undef) w)
    (p5 : gpaF_val gP bG oG gX N cP cG np cX T 5 (x.tmps.getD 42 undef) w)
    (p2 : gpaF_val gP bG oG gX N cP cG np cX T 2 (x.tmps.getD 39 undef) w)
    : wpOpIn Fc nC Try.prog gpa_ops Q 6 (fun a' w' => ∃ v, a' = x.put (some 43) v ∧ (v = undef) ∧ Below w.heap.size w w') x w := by
  have ho : gpa_ops[6]? = some gpa_o6 := rfl
  simp only [Array.getD_eq_getD_getElem?] at u7 u8 u10
  have q3 : x.tmps.getD 40 undef = undef := p3
  have q5 : x.tmps.getD 42 undef = undef := p5
  have q2 : x.tmps.getD 39 undef = .bool false := p2
  simp only [Array.getD_eq_getD_getElem?] at q3 q5 q2
  have e2 : (gpa_ops[2]?.bind fun x => x.dst) = some 39 := rfl
  have g2 := get_someT q2 (fun h => by cases h)
  refine wpOpIn_stepT hF ho (fun K hK => ?_)
  clear ho
  rw [Oper.semAt_plain Fc _ _ (by intro c h; cases h)]
  simp only [gpa_o6]
  go_simp
  exact hK _ _ ⟨_, act_putD x hdef _ _, rfl, Below.refl _ _⟩
set_option maxRecDepth 100000 in
set_option maxHeartbeats 2000000 in
theorem gpaF_s7 {Fc : Fence} (hF : Wide Fc) {nC : Nat} (gP bG oG gX N cP cG np cX : Nat) (T : ByteArray) (Q : Exit → Act → World → Prop) (df : List Deferred) (w0 : World)
    (hi : 0 < N) (hN : N ≤ 4000) (h1 : w0.cell? ⟨gP, 0, none⟩ = some (.string T)) (h2 : w0.cell? ⟨gP, 1, none⟩ = some (.slice (some ⟨gX, 0, none⟩) np cX)) (h3 : w0.cell? ⟨bG, oG, none⟩ = some (.string T)) (hnp : 0 < np)
    (x : Act) (w : World) (hB : Below w0.heap.size w0 w) (hdef : x.defers = df) (u7 : x.tmps.getD 7 undef = .slice (some ⟨gP, 0, none⟩) N cP) (u8 : x.tmps.getD 8 undef = .slice (some ⟨bG, oG, none⟩) N cG) (u10 : x.tmps.getD 10 undef = .int .i64 0)
    (p6 : gpaF_val gP bG oG gX N cP cG np cX T 6 (x.tmps.getD 43 undef) w)
    (p2 : gpaF_val gP bG oG gX N cP cG np cX T 2 (x.tmps.getD 39 undef) w)
    : wpOpIn Fc nC Try.prog gpa_ops Q 7 (fun a' w' => ∃ v, a' = x.put (some 44) v ∧ (v = undef) ∧ Below w.heap.size w w') x w := by
  have ho : gpa_ops[7]? = some gpa_o7 := rfl
  simp only [Array.getD_eq_getD_getElem?] at u7 u8 u10
  have q6 : x.tmps.getD 43 undef = undef := p6
  have q2 : x.tmps.getD 39 undef = .bool false := p2
  simp only [Array.getD_eq_getD_getElem?] at q6 q2
  have e2 : (gpa_ops[2]?.bind fun x => x.dst) = some 39 := rfl
  have g2 := get_someT q2 (fun h => by cases h)
  refine wpOpIn_stepT hF ho (fun K hK => ?_)
  clear ho
  rw [Oper.semAt_plain Fc _ _ (by intro c h; cases h)]
  simp only [gpa_o7]
  go_simp
  exact hK _ _ ⟨_, act_putD x hdef _ _, rfl, Below.refl _ _⟩
set_option maxRecDepth 100000 in
set_option maxHeartbeats 2000000 in
theorem gpaF_s8 {Fc : Fence} (hF : Wide Fc) {nC : Nat} (gP bG oG gX N cP cG np cX : Nat) (T : ByteArray) (Q : Exit → Act → World → Prop) (df : List Deferred) (w0 : World)
    (hi : 0 < N) (hN : N ≤ 4000) (h1 : w0.cell? ⟨gP, 0, none⟩ = some (.string T)) (h2 : w0.cell? ⟨gP, 1, none⟩ = some (.slice (some ⟨gX, 0, none⟩) np cX)) (h3 : w0.cell? ⟨bG, oG, none⟩ = some (.string T)) (hnp : 0 < np)
    (x : Act) (w : World) (hB : Below w0.heap.size w0 w) (hdef : x.defers = df) (u7 : x.tmps.getD 7 undef = .slice (some ⟨gP, 0, none⟩) N cP) (u8 : x.tmps.getD 8 undef = .slice (some ⟨bG, oG, none⟩) N cG) (u10 : x.tmps.getD 10 undef = .int .i64 0)
    (p7 : gpaF_val gP bG oG gX N cP cG np cX T 7 (x.tmps.getD 44 undef) w)
    (p2 : gpaF_val gP bG oG gX N cP cG np cX T 2 (x.tmps.getD 39 undef) w)
    : wpOpIn Fc nC Try.prog gpa_ops Q 8 (fun a' w' => ∃ v, a' = x.put (some 45) v ∧ (v = undef) ∧ Below w.heap.size w w') x w := by
  have ho : gpa_ops[8]? = some gpa_o8 := rfl
  simp only [Array.getD_eq_getD_getElem?] at u7 u8 u10
  have q7 : x.tmps.getD 44 undef = undef := p7
  have q2 : x.tmps.getD 39 undef = .bool false := p2
  simp only [Array.getD_eq_getD_getElem?] at q7 q2
  have e2 : (gpa_ops[2]?.bind fun x => x.dst) = some 39 := rfl
  have g2 := get_someT q2 (fun h => by cases h)
  refine wpOpIn_stepT hF ho (fun K hK => ?_)
  clear ho
  rw [Oper.semAt_plain Fc _ _ (by intro c h; cases h)]
  simp only [gpa_o8]
  go_simp
  exact hK _ _ ⟨_, act_putD x hdef _ _, rfl, Below.refl _ _⟩
set_option maxRecDepth 100000 in
set_option maxHeartbeats 2000000 in
theorem gpaF_s9 {Fc : Fence} (hF : Wide Fc) {nC : Nat} (gP bG oG gX N cP cG np cX : Nat) (T : ByteArray) (Q : Exit → Act → World → Prop) (df : List Deferred) (w0 : World)
    (hi : 0 < N) (hN : N ≤ 4000) (h1 : w0.cell? ⟨gP, 0, none⟩ = some (.string T)) (h2 : w0.cell? ⟨gP, 1, none⟩ = some (.slice (some ⟨gX, 0, none⟩) np cX)) (h3 : w0.cell? ⟨bG, oG, none⟩ = some (.string T)) (hnp : 0 < np)
    (x : Act) (w : World) (hB : Below w0.heap.size w0 w) (hdef : x.defers = df) (u7 : x.tmps.getD 7 undef = .slice (some ⟨gP, 0, none⟩) N cP) (u8 : x.tmps.getD 8 undef = .slice (some ⟨bG, oG, none⟩) N cG) (u10 : x.tmps.getD 10 undef = .int .i64 0)
    (p2 : gpaF_val gP bG oG gX N cP cG np cX T 2 (x.tmps.getD 39 undef) w)
    : wpOpIn Fc nC Try.prog gpa_ops Q 9 (fun a' w' => ∃ v, a' = x.put (some 46) v ∧ (v = undef) ∧ Below w.heap.size w w') x w := by
  have ho : gpa_ops[9]? = some gpa_o9 := rfl
  simp only [Array.getD_eq_getD_getElem?] at u7 u8 u10
  have q2 : x.tmps.getD 39 undef = .bool false := p2
  simp only [Array.getD_eq_getD_getElem?] at q2
  have e2 : (gpa_ops[2]?.bind fun x => x.dst) = some 39 := rfl
  have g2 := get_someT q2 (fun h => by cases h)
  refine wpOpIn_stepT hF ho (fun K hK => ?_)
  clear ho
  rw [Oper.semAt_plain Fc _ _ (by intro c h; cases h)]
  simp only [gpa_o9]
  go_simp
  exact hK _ _ ⟨_, act_putD x hdef _ _, rfl, Below.refl _ _⟩
set_option maxRecDepth 100000 in
set_option maxHeartbeats 2000000 in
theorem gpaF_s10 {Fc : Fence} (hF : Wide Fc) {nC : Nat} (gP bG oG gX N cP cG np cX : Nat) (T : ByteArray) (Q : Exit → Act → World → Prop) (df : List Deferred) (w0 : World)
    (hi : 0 < N) (hN : N ≤ 4000) (h1 : w0.cell? ⟨gP, 0, none⟩ = some (.string T)) (h2 : w0.cell? ⟨gP, 1, none⟩ = some (.slice (some ⟨gX, 0, none⟩) np cX)) (h3 : w0.cell? ⟨bG, oG, none⟩ = some (.string T)) (hnp : 0 < np)
    (x : Act) (w : World) (hB : Below w0.heap.size w0 w) (hdef : x.defers = df) (u7 : x.tmps.getD 7 undef = .slice (some ⟨gP, 0, none⟩) N cP) (u8 : x.tmps.getD 8 undef = .slice (some ⟨bG, oG, none⟩) N cG) (u10 : x.tmps.getD 10 undef = .int .i64 0)
    (p2 : gpaF_val gP bG oG gX N cP cG np cX T 2 (x.tmps.getD 39 undef) w)
    : wpOpIn Fc nC Try.prog gpa_ops Q 10 (fun a' w' => ∃ v, a' = x.put (some 47) v ∧ (v = undef) ∧ Below w.heap.size w w') x w := by
  have ho : gpa_ops[10]? = some gpa_o10 := rfl
  simp only [Array.getD_eq_getD_getElem?] at u7 u8 u10
  have q2 : x.tmps.getD 39 undef = .bool false := p2
  simp only [Array.getD_eq_getD_getElem?] at q2
  have e2 : (gpa_ops[2]?.bind fun x => x.dst) = some 39 := rfl
  have g2 := get_someT q2 (fun h => by cases h)
  refine wpOpIn_stepT hF ho (fun K hK => ?_)
  clear ho
  rw [Oper.semAt_plain Fc _ _ (by intro c h; cases h)]
  simp only [gpa_o10]
  go_simp
  exact hK _ _ ⟨_, act_putD x hdef _ _, rfl, Below.refl _ _⟩
set_option maxRecDepth 100000 in
set_option maxHeartbeats 2000000 in
theorem gpaF_s11 {Fc : Fence} (hF : Wide Fc) {nC : Nat} (gP bG oG gX N cP cG np cX : Nat) (T : ByteArray) (Q : Exit → Act → World → Prop) (df : List Deferred) (w0 : World)
    (hi : 0 < N) (hN : N ≤ 4000) (h1 : w0.cell? ⟨gP, 0, none⟩ = some (.string T)) (h2 : w0.cell? ⟨gP, 1, none⟩ = some (.slice (some ⟨gX, 0, none⟩) np cX)) (h3 : w0.cell? ⟨bG, oG, none⟩ = some (.string T)) (hnp : 0 < np)
    (x : Act) (w : World) (hB : Below w0.heap.size w0 w) (hdef : x.defers = df) (u7 : x.tmps.getD 7 undef = .slice (some ⟨gP, 0, none⟩) N cP) (u8 : x.tmps.getD 8 undef = .slice (some ⟨bG, oG, none⟩) N cG) (u10 : x.tmps.getD 10 undef = .int .i64 0)
    (p9 : gpaF_val gP bG oG gX N cP cG np cX T 9 (x.tmps.getD 46 undef) w)
    (p10 : gpaF_val gP bG oG gX N cP cG np cX T 10 (x.tmps.getD 47 undef) w)
    (p2 : gpaF_val gP bG oG gX N cP cG np cX T 2 (x.tmps.getD 39 undef) w)
    : wpOpIn Fc nC Try.prog gpa_ops Q 11 (fun a' w' => ∃ v, a' = x.put (some 48) v ∧ (v = undef) ∧ Below w.heap.size w w') x w := by
  have ho : gpa_ops[11]? = some gpa_o11 := rfl
  simp only [Array.getD_eq_getD_getElem?] at u7 u8 u10
  have q9 : x.tmps.getD 46 undef = undef := p9
  have q10 : x.tmps.getD 47 undef = undef := p10
  have q2 : x.tmps.getD 39 undef = .bool false := p2
  simp only [Array.getD_eq_getD_getElem?] at q9 q10 q2
  have e2 : (gpa_ops[2]?.bind fun x => x.dst) = some 39 := rfl
  have g2 := get_someT q2 (fun h => by cases h)
  refine wpOpIn_stepT hF ho (fun K hK => ?_)
  clear ho
  rw [Oper.semAt_plain Fc _ _ (by intro c h; cases h)]
  simp only [gpa_o11]
  go_simp
  exact hK _ _ ⟨_, act_putD x hdef _ _, rfl, Below.refl _ _⟩
set_option maxRecDepth 100000 in
set_option maxHeartbeats 2000000 in
theorem gpaF_s12 {Fc : Fence} (hF : Wide Fc) {nC : Nat} (gP bG oG gX N cP cG np cX : Nat) (T : ByteArray) (Q : Exit → Act → World → Prop) (df : List Deferred) (w0 : World)
    (hi : 0 < N) (hN : N ≤ 4000) (h1 : w0.cell? ⟨gP, 0, none⟩ = some (.string T)) (h2 : w0.cell? ⟨gP, 1, none⟩ = some (.slice (some ⟨gX, 0, none⟩) np cX)) (h3 : w0.cell? ⟨bG, oG, none⟩ = some (.string T)) (hnp : 0 < np)
    (x : Act) (w : World) (hB : Below w0.heap.size w0 w) (hdef : x.defers = df) (u7 : x.tmps.getD 7 undef = .slice (some ⟨gP, 0, none⟩) N cP) (u8 : x.tmps.getD 8 undef = .slice (some ⟨bG, oG, none⟩) N cG) (u10 : x.tmps.getD 10 undef = .int .i64 0)
    (p11 : gpaF_val gP bG oG gX N cP cG np cX T 11 (x.tmps.getD 48 undef) w)
    (p2 : gpaF_val gP bG oG gX N cP cG np cX T 2 (x.tmps.getD 39 undef) w)
    : wpOpIn Fc nC Try.prog gpa_ops Q 12 (fun a' w' => ∃ v, a' = x.put (some 49) v ∧ (v = undef) ∧ Below w.heap.size w w') x w := by
  have ho : gpa_ops[12]? = some gpa_o12 := rfl
  simp only [Array.getD_eq_getD_getElem?] at u7 u8 u10
  have q11 : x.tmps.getD 48 undef = undef := p11
  have q2 : x.tmps.getD 39 undef = .bool false := p2
  simp only [Array.getD_eq_getD_getElem?] at q11 q2
  have e2 : (gpa_ops[2]?.bind fun x => x.dst) = some 39 := rfl
  have g2 := get_someT q2 (fun h => by cases h)
  refine wpOpIn_stepT hF ho (fun K hK => ?_)
  clear ho
  rw [Oper.semAt_plain Fc _ _ (by intro c h; cases h)]
  simp only [gpa_o12]
  go_simp
  exact hK _ _ ⟨_, act_putD x hdef _ _, rfl, Below.refl _ _⟩
set_option maxRecDepth 100000 in
set_option maxHeartbeats 2000000 in
theorem gpaF_s13 {Fc : Fence} (hF : Wide Fc) {nC : Nat} (gP bG oG gX N cP cG np cX : Nat) (T : ByteArray) (Q : Exit → Act → World → Prop) (df : List Deferred) (w0 : World)
    (hi : 0 < N) (hN : N ≤ 4000) (h1 : w0.cell? ⟨gP, 0, none⟩ = some (.string T)) (h2 : w0.cell? ⟨gP, 1, none⟩ = some (.slice (some ⟨gX, 0, none⟩) np cX)) (h3 : w0.cell? ⟨bG, oG, none⟩ = some (.string T)) (hnp : 0 < np)
    (x : Act) (w : World) (hB : Below w0.heap.size w0 w) (hdef : x.defers = df) (u7 : x.tmps.getD 7 undef = .slice (some ⟨gP, 0, none⟩) N cP) (u8 : x.tmps.getD 8 undef = .slice (some ⟨bG, oG, none⟩) N cG) (u10 : x.tmps.getD 10 undef = .int .i64 0)
    (p12 : gpaF_val gP bG oG gX N cP cG np cX T 12 (x.tmps.getD 49 undef) w)
    (p2 : gpaF_val gP bG oG gX N cP cG np cX T 2 (x.tmps.getD 39 undef) w)
    : wpOpIn Fc nC Try.prog gpa_ops Q 13 (fun a' w' => ∃ v, a' = x.put (some 50) v ∧ (v = undef) ∧ Below w.heap.size w w') x w := by
  have ho : gpa_ops[13]? = some gpa_o13 := rfl
  simp only [Array.getD_eq_getD_getElem?] at u7 u8 u10
  have q12 : x.tmps.getD 49 undef = undef := p12
  have q2 : x.tmps.getD 39 undef = .bool false := p2
  simp only [Array.getD_eq_getD_getElem?] at q12 q2
  have e2 : (gpa_ops[2]?.bind fun x => x.dst) = some 39 := rfl
  have g2 := get_someT q2 (fun h => by cases h)
  refine wpOpIn_stepT hF ho (fun K hK => ?_)
  clear ho
  rw [Oper.semAt_plain Fc _ _ (by intro c h; cases h)]
  simp only [gpa_o13]
  go_simp
  exact hK _ _ ⟨_, act_putD x hdef _ _, rfl, Below.refl _ _⟩
set_option maxRecDepth 100000 in
set_option maxHeartbeats 2000000 in
theorem gpaF_s14 {Fc : Fence} (hF : Wide Fc) {nC : Nat} (gP bG oG gX N cP cG np cX : Nat) (T : ByteArray) (Q : Exit → Act → World → Prop) (df : List Deferred) (w0 : World)
    (hi : 0 < N) (hN : N ≤ 4000) (h1 : w0.cell? ⟨gP, 0, none⟩ = some (.string T)) (h2 : w0.cell? ⟨gP, 1, none⟩ = some (.slice (some ⟨gX, 0, none⟩) np cX)) (h3 : w0.cell? ⟨bG, oG, none⟩ = some (.string T)) (hnp : 0 < np)
    (x : Act) (w : World) (hB : Below w0.heap.size w0 w) (hdef : x.defers = df) (u7 : x.tmps.getD 7 undef = .slice (some ⟨gP, 0, none⟩) N cP) (u8 : x.tmps.getD 8 undef = .slice (some ⟨bG, oG, none⟩) N cG) (u10 : x.tmps.getD 10 undef = .int .i64 0)
    (p8 : gpaF_val gP bG oG gX N cP cG np cX T 8 (x.tmps.getD 45 undef) w)
    (p13 : gpaF_val gP bG oG gX N cP cG np cX T 13 (x.tmps.getD 50 undef) w)
    (p2 : gpaF_val gP bG oG gX N cP cG np cX T 2 (x.tmps.getD 39 undef) w)
    : wpOpIn Fc nC Try.prog gpa_ops Q 14 (fun a' w' => ∃ v, a' = x.put (some 51) v ∧ (v = undef) ∧ Below w.heap.size w w') x w := by
  have ho : gpa_ops[14]? = some gpa_o14 := rfl
  simp only [Array.getD_eq_getD_getElem?] at u7 u8 u10
  have q8 : x.tmps.getD 45 undef = undef := p8
  have q13 : x.tmps.getD 50 undef = undef := p13
  have q2 : x.tmps.getD 39 undef = .bool false := p2
  simp only [Array.getD_eq_getD_getElem?] at q8 q13 q2
  have e2 : (gpa_ops[2]?.bind fun x => x.dst) = some 39 := rfl
  have g2 := get_someT q2 (fun h => by cases h)
  refine wpOpIn_stepT hF ho (fun K hK => ?_)
  clear ho
  rw [Oper.semAt_plain Fc _ _ (by intro c h; cases h)]
  simp only [gpa_o14]
  go_simp
  exact hK _ _ ⟨_, act_putD x hdef _ _, rfl, Below.refl _ _⟩
set_option maxRecDepth 100000 in
set_option maxHeartbeats 2000000 in
theorem gpaF_s15 {Fc : Fence} (hF : Wide Fc) {nC : Nat} (gP bG oG gX N cP cG np cX : Nat) (T : ByteArray) (Q : Exit → Act → World → Prop) (df : List Deferred) (w0 : World)
    (hi : 0 < N) (hN : N ≤ 4000) (h1 : w0.cell? ⟨gP, 0, none⟩ = some (.string T)) (h2 : w0.cell? ⟨gP, 1, none⟩ = some (.slice (some ⟨gX, 0, none⟩) np cX)) (h3 : w0.cell? ⟨bG, oG, none⟩ = some (.string T)) (hnp : 0 < np)
    (x : Act) (w : World) (hB : Below w0.heap.size w0 w) (hdef : x.defers = df) (u7 : x.tmps.getD 7 undef = .slice (some ⟨gP, 0, none⟩) N cP) (u8 : x.tmps.getD 8 undef = .slice (some ⟨bG, oG, none⟩) N cG) (u10 : x.tmps.getD 10 undef = .int .i64 0)
    (p2 : gpaF_val gP bG oG gX N cP cG np cX T 2 (x.tmps.getD 39 undef) w)
    (p14 : gpaF_val gP bG oG gX N cP cG np cX T 14 (x.tmps.getD 51 undef) w)
    : wpOpIn Fc nC Try.prog gpa_ops Q 15 (fun a' w' => ∃ v, a' = x.put (some 52) v ∧ (v = .bool false) ∧ Below w.heap.size w w') x w := by
  have ho : gpa_ops[15]? = some gpa_o15 := rfl
  simp only [Array.getD_eq_getD_getElem?] at u7 u8 u10
  have q2 : x.tmps.getD 39 undef = .bool false := p2
  have q14 : x.tmps.getD 51 undef = undef := p14
  simp only [Array.getD_eq_getD_getElem?] at q2 q14
  refine wpOpIn_plain ho rfl (oper_inK hF.fn (fun K hK => ?_))
  clear ho
  rw [Oper.semAt_plain Fc _ _ (by intro c h; cases h)]
  simp only [gpa_o15]
  go_simp
  exact hK _ _ ⟨_, act_putD x hdef _ _, rfl, Below.refl _ _⟩
set_option maxRecDepth 100000 in
set_option maxHeartbeats 2000000 in
theorem gpaF_s16 {Fc : Fence} (hF : Wide Fc) {nC : Nat} (gP bG oG gX N cP cG np cX : Nat) (T : ByteArray) (Q : Exit → Act → World → Prop) (df : List Deferred) (w0 : World)
    (hi : 0 < N) (hN : N ≤ 4000) (h1 : w0.cell? ⟨gP, 0, none⟩ = some (.string T)) (h2 : w0.cell? ⟨gP, 1, none⟩ = some (.slice (some ⟨gX, 0, none⟩) np cX)) (h3 : w0.cell? ⟨bG, oG, none⟩ = some (.string T)) (hnp : 0 < np)
    (x : Act) (w : World) (hB : Below w0.heap.size w0 w) (hdef : x.defers = df) (u7 : x.tmps.getD 7 undef = .slice (some ⟨gP, 0, none⟩) N cP) (u8 : x.tmps.getD 8 undef = .slice (some ⟨bG, oG, none⟩) N cG) (u10 : x.tmps.getD 10 undef = .int .i64 0)
    (p15 : gpaF_val gP bG oG gX N cP cG np cX T 15 (x.tmps.getD 52 undef) w)
    : wpOpIn Fc nC Try.prog gpa_ops Q 16 (fun a' w' => ∃ v, a' = x.put (some 53) v ∧ (v = .bool false) ∧ Below w.heap.size w w') x w := by
  have ho : gpa_ops[16]? = some gpa_o16 := rfl
  simp only [Array.getD_eq_getD_getElem?] at u7 u8 u10
  have q15 : x.tmps.getD 52 undef = .bool false := p15
  simp only [Array.getD_eq_getD_getElem?] at q15
  refine wpOpIn_plain ho rfl (oper_inK hF.fn (fun K hK => ?_))
  clear ho
  rw [Oper.semAt_plain Fc _ _ (by intro c h; cases h)]
  simp only [gpa_o16]
  go_simp
  exact hK _ _ ⟨_, act_putD x hdef _ _, rfl, Below.refl _ _⟩
set_option maxRecDepth 100000 in
set_option maxHeartbeats 2000000 in
theorem gpaF_s17 {Fc : Fence} (hF : Wide Fc) {nC : Nat} (gP bG oG gX N cP cG np cX : Nat) (T : ByteArray) (Q : Exit → Act → World → Prop) (df : List Deferred) (w0 : World)
    (hi : 0 < N) (hN : N ≤ 4000) (h1 : w0.cell? ⟨gP, 0, none⟩ = some (.string T)) (h2 : w0.cell? ⟨gP, 1, none⟩ = some (.slice (some ⟨gX, 0, none⟩) np cX)) (h3 : w0.cell? ⟨bG, oG, none⟩ = some (.string T)) (hnp : 0 < np)
    (x : Act) (w : World) (hB : Below w0.heap.size w0 w) (hdef : x.defers = df) (u7 : x.tmps.getD 7 undef = .slice (some ⟨gP, 0, none⟩) N cP) (u8 : x.tmps.getD 8 undef = .slice (some ⟨bG, oG, none⟩) N cG) (u10 : x.tmps.getD 10 undef = .int .i64 0)
    (p16 : gpaF_val gP bG oG gX N cP cG np cX T 16 (x.tmps.getD 53 undef) w)
    : wpOpIn Fc nC Try.prog gpa_ops Q 17 (fun a' w' => ∃ v, a' = x.put (some 54) v ∧ (v = .int .i64 0) ∧ Below w.heap.size w w') x w := by
  have ho : gpa_ops[17]? = some gpa_o17 := rfl
  simp only [Array.getD_eq_getD_getElem?] at u7 u8 u10
  have q16 : x.tmps.getD 53 undef = .bool false := p16
  simp only [Array.getD_eq_getD_getElem?] at q16
  have e16 : (gpa_ops[16]?.bind fun x => x.dst) = some 53 := rfl
  have g16 := get_someT q16 (fun h => by cases h)
  refine wpOpIn_stepT hF ho (fun K hK => ?_)
  clear ho
  rw [Oper.semAt_plain Fc _ _ (by intro c h; cases h)]
  simp only [gpa_o17]
  go_simp
  exact hK _ _ ⟨_, act_putD x hdef _ _, rfl, Below.refl _ _⟩
set_option maxRecDepth 100000 in
set_option maxHeartbeats 2000000 in
theorem gpaF_s18 {Fc : Fence} (hF : Wide Fc) {nC : Nat} (gP bG oG gX N cP cG np cX : Nat) (T : ByteArray) (Q : Exit → Act → World → Prop) (df : List Deferred) (w0 : World)
    (hi : 0 < N) (hN : N ≤ 4000) (h1 : w0.cell? ⟨gP, 0, none⟩ = some (.string T)) (h2 : w0.cell? ⟨gP, 1, none⟩ = some (.slice (some ⟨gX, 0, none⟩) np cX)) (h3 : w0.cell? ⟨bG, oG, none⟩ = some (.string T)) (hnp : 0 < np)
    (x : Act) (w : World) (hB : Below w0.heap.size w0 w) (hdef : x.defers = df) (u7 : x.tmps.getD 7 undef = .slice (some ⟨gP, 0, none⟩) N cP) (u8 : x.tmps.getD 8 undef = .slice (some ⟨bG, oG, none⟩) N cG) (u10 : x.tmps.getD 10 undef = .int .i64 0)
    (p16 : gpaF_val gP bG oG gX N cP cG np cX T 16 (x.tmps.getD 53 undef) w)
    : wpOpIn Fc nC Try.prog gpa_ops Q 18 (fun a' w' => ∃ v, a' = x.put (some 55) v ∧ (v = .slice (some ⟨bG, oG, none⟩) N cG) ∧ Below w.heap.size w w') x w := by
  have ho : gpa_ops[18]? = some gpa_o18 := rfl
  simp only [Array.getD_eq_getD_getElem?] at u7 u8 u10
  have q16 : x.tmps.getD 53 undef = .bool false := p16
  simp only [Array.getD_eq_getD_getElem?] at q16
  have e16 : (gpa_ops[16]?.bind fun x => x.dst) = some 53 := rfl
  have g16 := get_someT q16 (fun h => by cases h)
  refine wpOpIn_stepT hF ho (fun K hK => ?_)
  clear ho
  rw [Oper.semAt_plain Fc _ _ (by intro c h; cases h)]
  simp only [gpa_o18]
  go_simp
  exact hK _ _ ⟨_, act_putD x hdef _ _, rfl, Below.refl _ _⟩
set_option maxRecDepth 100000 in
set_option maxHeartbeats 2000000 in
theorem gpaF_s19 {Fc : Fence} (hF : Wide Fc) {nC : Nat} (gP bG oG gX N cP cG np cX : Nat) (T : ByteArray) (Q : Exit → Act → World → Prop) (df : List Deferred) (w0 : World)
    (hi : 0 < N) (hN : N ≤ 4000) (h1 : w0.cell? ⟨gP, 0, none⟩ = some (.string T)) (h2 : w0.cell? ⟨gP, 1, none⟩ = some (.slice (some ⟨gX, 0, none⟩) np cX)) (h3 : w0.cell? ⟨bG, oG, none⟩ = some (.string T)) (hnp : 0 < np)
    (x : Act) (w : World) (hB : Below w0.heap.size w0 w) (hdef : x.defers = df) (u7 : x.tmps.getD 7 undef = .slice (some ⟨gP, 0, none⟩) N cP) (u8 : x.tmps.getD 8 undef = .slice (some ⟨bG, oG, none⟩) N cG) (u10 : x.tmps.getD 10 undef = .int .i64 0)
    (p18 : gpaF_val gP bG oG gX N cP cG np cX T 18 (x.tmps.getD 55 undef) w)
    (p16 : gpaF_val gP bG oG gX N cP cG np cX T 16 (x.tmps.getD 53 undef) w)
    : wpOpIn Fc nC Try.prog gpa_ops Q 19 (fun a' w' => ∃ v, a' = x.put (some 56) v ∧ (v = .int .i64 (N : Nat)) ∧ Below w.heap.size w w') x w := by
  have ho : gpa_ops[19]? = some gpa_o19 := rfl
  simp only [Array.getD_eq_getD_getElem?] at u7 u8 u10
  have q18 : x.tmps.getD 55 undef = .slice (some ⟨bG, oG, none⟩) N cG := p18
  have q16 : x.tmps.getD 53 undef = .bool false := p16
  simp only [Array.getD_eq_getD_getElem?] at q18 q16
  have e16 : (gpa_ops[16]?.bind fun x => x.dst) = some 53 := rfl
  have g16 := get_someT q16 (fun h => by cases h)
  refine wpOpIn_stepT hF ho (fun K hK => ?_)
  clear ho
  rw [Oper.semAt_plain Fc _ _ (by intro c h; cases h)]
  simp only [gpa_o19]
  go_simp
  exact hK _ _ ⟨_, act_putD x hdef _ _, rfl, Below.refl _ _⟩
set_option maxRecDepth 100000 in
set_option maxHeartbeats 2000000 in
theorem gpaF_s20 {Fc : Fence} (hF : Wide Fc) {nC : Nat} (gP bG oG gX N cP cG np cX : Nat) (T : ByteArray) (Q : Exit → Act → World → Prop) (df : List Deferred) (w0 : World)
    (hi : 0 < N) (hN : N ≤ 4000) (h1 : w0.cell? ⟨gP, 0, none⟩ = some (.string T)) (h2 : w0.cell? ⟨gP, 1, none⟩ = some (.slice (some ⟨gX, 0, none⟩) np cX)) (h3 : w0.cell? ⟨bG, oG, none⟩ = some (.string T)) (hnp : 0 < np)
    (x : Act) (w : World) (hB : Below w0.heap.size w0 w) (hdef : x.defers = df) (u7 : x.tmps.getD 7 undef = .slice (some ⟨gP, 0, none⟩) N cP) (u8 : x.tmps.getD 8 undef = .slice (some ⟨bG, oG, none⟩) N cG) (u10 : x.tmps.getD 10 undef = .int .i64 0)
    (p17 : gpaF_val gP bG oG gX N cP cG np cX T 17 (x.tmps.getD 54 undef) w)
    (p19 : gpaF_val gP bG oG gX N cP cG np cX T 19 (x.tmps.getD 56 undef) w)
    (p16 : gpaF_val gP bG oG gX N cP cG np cX T 16 (x.tmps.getD 53 undef) w)
    : wpOpIn Fc nC Try.prog gpa_ops Q 20 (fun a' w' => ∃ v, a' = x.put (some 57) v ∧ (v = .bool false) ∧ Below w.heap.size w w') x w := by
  have ho : gpa_ops[20]? = some gpa_o20 := rfl
  simp only [Array.getD_eq_getD_getElem?] at u7 u8 u10
  have q17 : x.tmps.getD 54 undef = .int .i64 0 := p17
  have q19 : x.tmps.getD 56 undef = .int .i64 (N : Nat) := p19
  have q16 : x.tmps.getD 53 undef = .bool false := p16
  simp only [Array.getD_eq_getD_getElem?] at q17 q19 q16
  have e16 : (gpa_ops[16]?.bind fun x => x.dst) = some 53 := rfl
  have g16 := get_someT q16 (fun h => by cases h)
  have m : ¬ N = 0 := by omega
  refine wpOpIn_stepT hF ho (fun K hK => ?_)
  clear ho
  rw [Oper.semAt_plain Fc _ _ (by intro c h; cases h)]
  simp only [gpa_o20]
  go_simp
  exact hK _ _ ⟨_, act_putD x hdef _ _, rfl, Below.refl _ _⟩
set_option maxRecDepth 100000 in
set_option maxHeartbeats 2000000 in
theorem gpaF_s21 {Fc : Fence} (hF : Wide Fc) {nC : Nat} (gP bG oG gX N cP cG np cX : Nat) (T : ByteArray) (Q : Exit → Act → World → Prop) (df : List Deferred) (w0 : World)
    (hi : 0 < N) (hN : N ≤ 4000) (h1 : w0.cell? ⟨gP, 0, none⟩ = some (.string T)) (h2 : w0.cell? ⟨gP, 1, none⟩ = some (.slice (some ⟨gX, 0, none⟩) np cX)) (h3 : w0.cell? ⟨bG, oG, none⟩ = some (.string T)) (hnp : 0 < np)
    (x : Act) (w : World) (hB : Below w0.heap.size w0 w) (hdef : x.defers = df) (u7 : x.tmps.getD 7 undef = .slice (some ⟨gP, 0, none⟩) N cP) (u8 : x.tmps.getD 8 undef = .slice (some ⟨bG, oG, none⟩) N cG) (u10 : x.tmps.getD 10 undef = .int .i64 0)
    (p16 : gpaF_val gP bG oG gX N cP cG np cX T 16 (x.tmps.getD 53 undef) w)
    (p20 : gpaF_val gP bG oG gX N cP cG np cX T 20 (x.tmps.getD 57 undef) w)
    : wpOpIn Fc nC Try.prog gpa_ops Q 21 (fun a' w' => ∃ v, a' = x.put (some 58) v ∧ (v = .bool false) ∧ Below w.heap.size w w') x w := by
  have ho : gpa_ops[21]? = some gpa_o21 := rfl
  simp only [Array.getD_eq_getD_getElem?] at u7 u8 u10
  have q16 : x.tmps.getD 53 undef = .bool false := p16
  have q20 : x.tmps.getD 57 undef = .bool false := p20
  simp only [Array.getD_eq_getD_getElem?] at q16 q20
  refine wpOpIn_plain ho rfl (oper_inK hF.fn (fun K hK => ?_))
  clear ho
  rw [Oper.semAt_plain Fc _ _ (by intro c h; cases h)]
  simp only [gpa_o21]
  go_simp
  exact hK _ _ ⟨_, act_putD x hdef _ _, rfl, Below.refl _ _⟩
set_option maxRecDepth 100000 in
set_option maxHeartbeats 2000000 in
theorem gpaF_s22 {Fc : Fence} (hF : Wide Fc) {nC : Nat} (gP bG oG gX N cP cG np cX : Nat) (T : ByteArray) (Q : Exit → Act → World → Prop) (df : List Deferred) (w0 : World)
    (hi : 0 < N) (hN : N ≤ 4000) (h1 : w0.cell? ⟨gP, 0, none⟩ = some (.string T)) (h2 : w0.cell? ⟨gP, 1, none⟩ = some (.slice (some ⟨gX, 0, none⟩) np cX)) (h3 : w0.cell? ⟨bG, oG, none⟩ = some (.string T)) (hnp : 0 < np)
    (x : Act) (w : World) (hB : Below w0.heap.size w0 w) (hdef : x.defers = df) (u7 : x.tmps.getD 7 undef = .slice (some ⟨gP, 0, none⟩) N cP) (u8 : x.tmps.getD 8 undef = .slice (some ⟨bG, oG, none⟩) N cG) (u10 : x.tmps.getD 10 undef = .int .i64 0)
    (p21 : gpaF_val gP bG oG gX N cP cG np cX T 21 (x.tmps.getD 58 undef) w)
    : wpOpIn Fc nC Try.prog gpa_ops Q 22 (fun a' w' => ∃ v, a' = x.put (some 59) v ∧ (v = .bool false) ∧ Below w.heap.size w w') x w := by
  have ho : gpa_ops[22]? = some gpa_o22 := rfl
  simp only [Array.getD_eq_getD_getElem?] at u7 u8 u10
  have q21 : x.tmps.getD 58 undef = .bool false := p21
  simp only [Array.getD_eq_getD_getElem?] at q21
  refine wpOpIn_plain ho rfl (oper_inK hF.fn (fun K hK => ?_))
  clear ho
  rw [Oper.semAt_plain Fc _ _ (by intro c h; cases h)]
  simp only [gpa_o22]
  go_simp
  exact hK _ _ ⟨_, act_putD x hdef _ _, rfl, Below.refl _ _⟩
set_option maxRecDepth 100000 in
set_option maxHeartbeats 2000000 in
theorem gpaF_s23 {Fc : Fence} (hF : Wide Fc) {nC : Nat} (gP bG oG gX N cP cG np cX : Nat) (T : ByteArray) (Q : Exit → Act → World → Prop) (df : List Deferred) (w0 : World)
    (hi : 0 < N) (hN : N ≤ 4000) (h1 : w0.cell? ⟨gP, 0, none⟩ = some (.string T)) (h2 : w0.cell? ⟨gP, 1, none⟩ = some (.slice (some ⟨gX, 0, none⟩) np cX)) (h3 : w0.cell? ⟨bG, oG, none⟩ = some (.string T)) (hnp : 0 < np)
    (x : Act) (w : World) (hB : Below w0.heap.size w0 w) (hdef : x.defers = df) (u7 : x.tmps.getD 7 undef = .slice (some ⟨gP, 0, none⟩) N cP) (u8 : x.tmps.getD 8 undef = .slice (some ⟨bG, oG, none⟩) N cG) (u10 : x.tmps.getD 10 undef = .int .i64 0)
    (p22 : gpaF_val gP bG oG gX N cP cG np cX T 22 (x.tmps.getD 59 undef) w)
    : wpOpIn Fc nC Try.prog gpa_ops Q 23 (fun a' w' => ∃ v, a' = x.put (some 60) v ∧ (v = .slice (some ⟨bG, oG, none⟩) N cG) ∧ Below w.heap.size w w') x w := by
  have ho : gpa_ops[23]? = some gpa_o23 := rfl
  simp only [Array.getD_eq_getD_getElem?] at u7 u8 u10
  have q22 : x.tmps.getD 59 undef = .bool false := p22
  simp only [Array.getD_eq_getD_getElem?] at q22
  have e22 : (gpa_ops[22]?.bind fun x => x.dst) = some 59 := rfl
  have g22 := get_someT q22 (fun h => by cases h)
  refine wpOpIn_stepT hF ho (fun K hK => ?_)
  clear ho
  rw [Oper.semAt_plain Fc _ _ (by intro c h; cases h)]
  simp only [gpa_o23]
  go_simp
  exact hK _ _ ⟨_, act_putD x hdef _ _, rfl, Below.refl _ _⟩
set_option maxRecDepth 100000 in
set_option maxHeartbeats 2000000 in
theorem gpaF_s24 {Fc : Fence} (hF : Wide Fc) {nC : Nat} (gP bG oG gX N cP cG np cX : Nat) (T : ByteArray) (Q : Exit → Act → World → Prop) (df : List Deferred) (w0 : World)
    (hi : 0 < N) (hN : N ≤ 4000) (h1 : w0.cell? ⟨gP, 0, none⟩ = some (.string T)) (h2 : w0.cell? ⟨gP, 1, none⟩ = some (.slice (some ⟨gX, 0, none⟩) np cX)) (h3 : w0.cell? ⟨bG, oG, none⟩ = some (.string T)) (hnp : 0 < np)
    (x : Act) (w : World) (hB : Below w0.heap.size w0 w) (hdef : x.defers = df) (u7 : x.tmps.getD 7 undef = .slice (some ⟨gP, 0, none⟩) N cP) (u8 : x.tmps.getD 8 undef = .slice (some ⟨bG, oG, none⟩) N cG) (u10 : x.tmps.getD 10 undef = .int .i64 0)
    (p22 : gpaF_val gP bG oG gX N cP cG np cX T 22 (x.tmps.getD 59 undef) w)
    : wpOpIn Fc nC Try.prog gpa_ops Q 24 (fun a' w' => ∃ v, a' = x.put (some 61) v ∧ (v = .int .i64 0) ∧ Below w.heap.size w w') x w := by
  have ho : gpa_ops[24]? = some gpa_o24 := rfl
  simp only [Array.getD_eq_getD_getElem?] at u7 u8 u10
  have q22 : x.tmps.getD 59 undef = .bool false := p22
  simp only [Array.getD_eq_getD_getElem?] at q22
  have e22 : (gpa_ops[22]?.bind fun x => x.dst) = some 59 := rfl
  have g22 := get_someT q22 (fun h => by cases h)
  refine wpOpIn_stepT hF ho (fun K hK => ?_)
  clear ho
  rw [Oper.semAt_plain Fc _ _ (by intro c h; cases h)]
  simp only [gpa_o24]
  go_simp
  exact hK _ _ ⟨_, act_putD x hdef _ _, rfl, Below.refl _ _⟩
set_option maxRecDepth 100000 in
set_option maxHeartbeats 2000000 in
theorem gpaF_s25 {Fc : Fence} (hF : Wide Fc) {nC : Nat} (gP bG oG gX N cP cG np cX : Nat) (T : ByteArray) (Q : Exit → Act → World → Prop) (df : List Deferred) (w0 : World)
    (hi : 0 < N) (hN : N ≤ 4000) (h1 : w0.cell? ⟨gP, 0, none⟩ = some (.string T)) (h2 : w0.cell? ⟨gP, 1, none⟩ = some (.slice (some ⟨gX, 0, none⟩) np cX)) (h3 : w0.cell? ⟨bG, oG, none⟩ = some (.string T)) (hnp : 0 < np)
    (x : Act) (w : World) (hB : Below w0.heap.size w0 w) (hdef : x.defers = df) (u7 : x.tmps.getD 7 undef = .slice (some ⟨gP, 0, none⟩) N cP) (u8 : x.tmps.getD 8 undef = .slice (some ⟨bG, oG, none⟩) N cG) (u10 : x.tmps.getD 10 undef = .int .i64 0)
    (p23 : gpaF_val gP bG oG gX N cP cG np cX T 23 (x.tmps.getD 60 undef) w)
    (p24 : gpaF_val gP bG oG gX N cP cG np cX T 24 (x.tmps.getD 61 undef) w)
    (p22 : gpaF_val gP bG oG gX N cP cG np cX T 22 (x.tmps.getD 59 undef) w)
    : wpOpIn Fc nC Try.prog gpa_ops Q 25 (fun a' w' => ∃ v, a' = x.put (some 62) v ∧ (v = .pointer (some ⟨bG, oG, none⟩)) ∧ Below w.heap.size w w') x w := by
  have ho : gpa_ops[25]? = some gpa_o25 := rfl
  simp only [Array.getD_eq_getD_getElem?] at u7 u8 u10
  have q23 : x.tmps.getD 60 undef = .slice (some ⟨bG, oG, none⟩) N cG := p23
  have q24 : x.tmps.getD 61 undef = .int .i64 0 := p24
  have q22 : x.tmps.getD 59 undef = .bool false := p22
  simp only [Array.getD_eq_getD_getElem?] at q23 q24 q22
  have e22 : (gpa_ops[22]?.bind fun x => x.dst) = some 59 := rfl
  have g22 := get_someT q22 (fun h => by cases h)
  have i0 : 0 < N := hi
  have i1 : (0 : Int) < (N : Int) := by omega
  refine wpOpIn_stepT hF ho (fun K hK => ?_)
  clear ho
  rw [Oper.semAt_plain Fc _ _ (by intro c h; cases h)]
  simp only [gpa_o25]
  go_simp
  exact hK _ _ ⟨_, act_putD x hdef _ _, rfl, Below.refl _ _⟩
set_option maxRecDepth 100000 in
set_option maxHeartbeats 2000000 in
theorem gpaF_s26 {Fc : Fence} (hF : Wide Fc) {nC : Nat} (gP bG oG gX N cP cG np cX : Nat) (T : ByteArray) (Q : Exit → Act → World → Prop) (df : List Deferred) (w0 : World)
    (hi : 0 < N) (hN : N ≤ 4000) (h1 : w0.cell? ⟨gP, 0, none⟩ = some (.string T)) (h2 : w0.cell? ⟨gP, 1, none⟩ = some (.slice (some ⟨gX, 0, none⟩) np cX)) (h3 : w0.cell? ⟨bG, oG, none⟩ = some (.string T)) (hnp : 0 < np)
    (x : Act) (w : World) (hB : Below w0.heap.size w0 w) (hdef : x.defers = df) (u7 : x.tmps.getD 7 undef = .slice (some ⟨gP, 0, none⟩) N cP) (u8 : x.tmps.getD 8 undef = .slice (some ⟨bG, oG, none⟩) N cG) (u10 : x.tmps.getD 10 undef = .int .i64 0)
    (p25 : gpaF_val gP bG oG gX N cP cG np cX T 25 (x.tmps.getD 62 undef) w)
    (p22 : gpaF_val gP bG oG gX N cP cG np cX T 22 (x.tmps.getD 59 undef) w)
    : wpOpIn Fc nC Try.prog gpa_ops Q 26 (fun a' w' => ∃ v, a' = x.put (some 63) v ∧ (v = .string T) ∧ Below w.heap.size w w') x w := by
  have ho : gpa_ops[26]? = some gpa_o26 := rfl
  simp only [Array.getD_eq_getD_getElem?] at u7 u8 u10
  have q25 : x.tmps.getD 62 undef = .pointer (some ⟨bG, oG, none⟩) := p25
  have q22 : x.tmps.getD 59 undef = .bool false := p22
  simp only [Array.getD_eq_getD_getElem?] at q25 q22
  have e22 : (gpa_ops[22]?.bind fun x => x.dst) = some 59 := rfl
  have g22 := get_someT q22 (fun h => by cases h)
  have m := cell_thru h3 hB
  refine wpOpIn_stepT hF ho (fun K hK => ?_)
  clear ho
  rw [Oper.semAt_plain Fc _ _ (by intro c h; cases h)]
  simp only [gpa_o26]
  go_simp
  exact hK _ _ ⟨_, act_putD x hdef _ _, rfl, Below.refl _ _⟩
set_option maxRecDepth 100000 in
set_option maxHeartbeats 2000000 in
theorem gpaF_s27 {Fc : Fence} (hF : Wide Fc) {nC : Nat} (gP bG oG gX N cP cG np cX : Nat) (T : ByteArray) (Q : Exit → Act → World → Prop) (df : List Deferred) (w0 : World)
    (hi : 0 < N) (hN : N ≤ 4000) (h1 : w0.cell? ⟨gP, 0, none⟩ = some (.string T)) (h2 : w0.cell? ⟨gP, 1, none⟩ = some (.slice (some ⟨gX, 0, none⟩) np cX)) (h3 : w0.cell? ⟨bG, oG, none⟩ = some (.string T)) (hnp : 0 < np)
    (x : Act) (w : World) (hB : Below w0.heap.size w0 w) (hdef : x.defers = df) (u7 : x.tmps.getD 7 undef = .slice (some ⟨gP, 0, none⟩) N cP) (u8 : x.tmps.getD 8 undef = .slice (some ⟨bG, oG, none⟩) N cG) (u10 : x.tmps.getD 10 undef = .int .i64 0)
    (p22 : gpaF_val gP bG oG gX N cP cG np cX T 22 (x.tmps.getD 59 undef) w)
    : wpOpIn Fc nC Try.prog gpa_ops Q 27 (fun a' w' => ∃ v, a' = x.put (some 64) v ∧ (v = .slice (some ⟨gP, 0, none⟩) N cP) ∧ Below w.heap.size w w') x w := by
  have ho : gpa_ops[27]? = some gpa_o27 := rfl
  simp only [Array.getD_eq_getD_getElem?] at u7 u8 u10
  have q22 : x.tmps.getD 59 undef = .bool false := p22
  simp only [Array.getD_eq_getD_getElem?] at q22
  have e22 : (gpa_ops[22]?.bind fun x => x.dst) = some 59 := rfl
  have g22 := get_someT q22 (fun h => by cases h)
  refine wpOpIn_stepT hF ho (fun K hK => ?_)
  clear ho
  rw [Oper.semAt_plain Fc _ _ (by intro c h; cases h)]
  simp only [gpa_o27]
  go_simp
  exact hK _ _ ⟨_, act_putD x hdef _ _, rfl, Below.refl _ _⟩
set_option maxRecDepth 100000 in
set_option maxHeartbeats 2000000 in
theorem gpaF_s28 {Fc : Fence} (hF : Wide Fc) {nC : Nat} (gP bG oG gX N cP cG np cX : Nat) (T : ByteArray) (Q : Exit → Act → World → Prop) (df : List Deferred) (w0 : World)
    (hi : 0 < N) (hN : N ≤ 4000) (h1 : w0.cell? ⟨gP, 0, none⟩ = some (.string T)) (h2 : w0.cell? ⟨gP, 1, none⟩ = some (.slice (some ⟨gX, 0, none⟩) np cX)) (h3 : w0.cell? ⟨bG, oG, none⟩ = some (.string T)) (hnp : 0 < np)
    (x : Act) (w : World) (hB : Below w0.heap.size w0 w) (hdef : x.defers = df) (u7 : x.tmps.getD 7 undef = .slice (some ⟨gP, 0, none⟩) N cP) (u8 : x.tmps.getD 8 undef = .slice (some ⟨bG, oG, none⟩) N cG) (u10 : x.tmps.getD 10 undef = .int .i64 0)
    (p22 : gpaF_val gP bG oG gX N cP cG np cX T 22 (x.tmps.getD 59 undef) w)
    : wpOpIn Fc nC Try.prog gpa_ops Q 28 (fun a' w' => ∃ v, a' = x.put (some 65) v ∧ (v = .int .i64 0) ∧ Below w.heap.size w w') x w := by
  have ho : gpa_ops[28]? = some gpa_o28 := rfl
  simp only [Array.getD_eq_getD_getElem?] at u7 u8 u10
  have q22 : x.tmps.getD 59 undef = .bool false := p22
  simp only [Array.getD_eq_getD_getElem?] at q22
  have e22 : (gpa_ops[22]?.bind fun x => x.dst) = some 59 := rfl
  have g22 := get_someT q22 (fun h => by cases h)
  refine wpOpIn_stepT hF ho (fun K hK => ?_)
  clear ho
  rw [Oper.semAt_plain Fc _ _ (by intro c h; cases h)]
  simp only [gpa_o28]
  go_simp
  exact hK _ _ ⟨_, act_putD x hdef _ _, rfl, Below.refl _ _⟩
set_option maxRecDepth 100000 in
set_option maxHeartbeats 2000000 in
theorem gpaF_s29 {Fc : Fence} (hF : Wide Fc) {nC : Nat} (gP bG oG gX N cP cG np cX : Nat) (T : ByteArray) (Q : Exit → Act → World → Prop) (df : List Deferred) (w0 : World)
    (hi : 0 < N) (hN : N ≤ 4000) (h1 : w0.cell? ⟨gP, 0, none⟩ = some (.string T)) (h2 : w0.cell? ⟨gP, 1, none⟩ = some (.slice (some ⟨gX, 0, none⟩) np cX)) (h3 : w0.cell? ⟨bG, oG, none⟩ = some (.string T)) (hnp : 0 < np)
    (x : Act) (w : World) (hB : Below w0.heap.size w0 w) (hdef : x.defers = df) (u7 : x.tmps.getD 7 undef = .slice (some ⟨gP, 0, none⟩) N cP) (u8 : x.tmps.getD 8 undef = .slice (some ⟨bG, oG, none⟩) N cG) (u10 : x.tmps.getD 10 undef = .int .i64 0)
    (p27 : gpaF_val gP bG oG gX N cP cG np cX T 27 (x.tmps.getD 64 undef) w)
    (p28 : gpaF_val gP bG oG gX N cP cG np cX T 28 (x.tmps.getD 65 undef) w)
    (p22 : gpaF_val gP bG oG gX N cP cG np cX T 22 (x.tmps.getD 59 undef) w)
    : wpOpIn Fc nC Try.prog gpa_ops Q 29 (fun a' w' => ∃ v, a' = x.put (some 66) v ∧ (v = .pointer (some ⟨gP, 0, none⟩)) ∧ Below w.heap.size w w') x w := by
  have ho : gpa_ops[29]? = some gpa_o29 := rfl
  simp only [Array.getD_eq_getD_getElem?] at u7 u8 u10
  have q27 : x.tmps.getD 64 undef = .slice (some ⟨gP, 0, none⟩) N cP := p27
  have q28 : x.tmps.getD 65 undef = .int .i64 0 := p28
  have q22 : x.tmps.getD 59 undef = .bool false := p22
  simp only [Array.getD_eq_getD_getElem?] at q27 q28 q22
  have e22 : (gpa_ops[22]?.bind fun x => x.dst) = some 59 := rfl
  have g22 := get_someT q22 (fun h => by cases h)
  have i0 : 0 < N := hi
  have i1 : (0 : Int) < (N : Int) := by omega
  refine wpOpIn_stepT hF ho (fun K hK => ?_)
  clear ho
  rw [Oper.semAt_plain Fc _ _ (by intro c h; cases h)]
  simp only [gpa_o29]
  go_simp
  exact hK _ _ ⟨_, act_putD x hdef _ _, rfl, Below.refl _ _⟩
set_option maxRecDepth 100000 in
set_option maxHeartbeats 2000000 in
theorem gpaF_s30 {Fc : Fence} (hF : Wide Fc) {nC : Nat} (gP bG oG gX N cP cG np cX : Nat) (T : ByteArray) (Q : Exit → Act → World → Prop) (df : List Deferred) (w0 : World)
    (hi : 0 < N) (hN : N ≤ 4000) (h1 : w0.cell? ⟨gP, 0, none⟩ = some (.string T)) (h2 : w0.cell? ⟨gP, 1, none⟩ = some (.slice (some ⟨gX, 0, none⟩) np cX)) (h3 : w0.cell? ⟨bG, oG, none⟩ = some (.string T)) (hnp : 0 < np)
    (x : Act) (w : World) (hB : Below w0.heap.size w0 w) (hdef : x.defers = df) (u7 : x.tmps.getD 7 undef = .slice (some ⟨gP, 0, none⟩) N cP) (u8 : x.tmps.getD 8 undef = .slice (some ⟨bG, oG, none⟩) N cG) (u10 : x.tmps.getD 10 undef = .int .i64 0)
    (p29 : gpaF_val gP bG oG gX N cP cG np cX T 29 (x.tmps.getD 66 undef) w)
    (p22 : gpaF_val gP bG oG gX N cP cG np cX T 22 (x.tmps.getD 59 undef) w)
    : wpOpIn Fc nC Try.prog gpa_ops Q 30 (fun a' w' => ∃ v, a' = x.put (some 67) v ∧ (v = .pointer (some ⟨gP, 0, none⟩)) ∧ Below w.heap.size w w') x w := by
  have ho : gpa_ops[30]? = some gpa_o30 := rfl
  simp only [Array.getD_eq_getD_getElem?] at u7 u8 u10
  have q29 : x.tmps.getD 66 undef = .pointer (some ⟨gP, 0, none⟩) := p29
  have q22 : x.tmps.getD 59 undef = .bool false := p22
  simp only [Array.getD_eq_getD_getElem?] at q29 q22
  have e22 : (gpa_ops[22]?.bind fun x => x.dst) = some 59 := rfl
  have g22 := get_someT q22 (fun h => by cases h)
  refine wpOpIn_stepT hF ho (fun K hK => ?_)
  clear ho
  rw [Oper.semAt_plain Fc _ _ (by intro c h; cases h)]
  simp only [gpa_o30]
  go_simp
  exact hK _ _ ⟨_, act_putD x hdef _ _, rfl, Below.refl _ _⟩
set_option maxRecDepth 100000 in
set_option maxHeartbeats 2000000 in
theorem gpaF_s31 {Fc : Fence} (hF : Wide Fc) {nC : Nat} (gP bG oG gX N cP cG np cX : Nat) (T : ByteArray) (Q : Exit → Act → World → Prop) (df : List Deferred) (w0 : World)
    (hi : 0 < N) (hN : N ≤ 4000) (h1 : w0.cell? ⟨gP, 0, none⟩ = some (.string T)) (h2 : w0.cell? ⟨gP, 1, none⟩ = some (.slice (some ⟨gX, 0, none⟩) np cX)) (h3 : w0.cell? ⟨bG, oG, none⟩ = some (.string T)) (hnp : 0 < np)
    (x : Act) (w : World) (hB : Below w0.heap.size w0 w) (hdef : x.defers = df) (u7 : x.tmps.getD 7 undef = .slice (some ⟨gP, 0, none⟩) N cP) (u8 : x.tmps.getD 8 undef = .slice (some ⟨bG, oG, none⟩) N cG) (u10 : x.tmps.getD 10 undef = .int .i64 0)
    (p30 : gpaF_val gP bG oG gX N cP cG np cX T 30 (x.tmps.getD 67 undef) w)
    (p22 : gpaF_val gP bG oG gX N cP cG np cX T 22 (x.tmps.getD 59 undef) w)
    : wpOpIn Fc nC Try.prog gpa_ops Q 31 (fun a' w' => ∃ v, a' = x.put (some 68) v ∧ (v = .string T) ∧ Below w.heap.size w w') x w := by
  have ho : gpa_ops[31]? = some gpa_o31 := rfl
  simp only [Array.getD_eq_getD_getElem?] at u7 u8 u10
  have q30 : x.tmps.getD 67 undef = .pointer (some ⟨gP, 0, none⟩) := p30
  have q22 : x.tmps.getD 59 undef = .bool false := p22
  simp only [Array.getD_eq_getD_getElem?] at q30 q22
  have e22 : (gpa_ops[22]?.bind fun x => x.dst) = some 59 := rfl
  have g22 := get_someT q22 (fun h => by cases h)
  have m := cell_thru h1 hB
  refine wpOpIn_stepT hF ho (fun K hK => ?_)
  clear ho
  rw [Oper.semAt_plain Fc _ _ (by intro c h; cases h)]
  simp only [gpa_o31]
  go_simp
  exact hK _ _ ⟨_, act_putD x hdef _ _, rfl, Below.refl _ _⟩
set_option maxRecDepth 100000 in
set_option maxHeartbeats 2000000 in
theorem gpaF_s32 {Fc : Fence} (hF : Wide Fc) {nC : Nat} (gP bG oG gX N cP cG np cX : Nat) (T : ByteArray) (Q : Exit → Act → World → Prop) (df : List Deferred) (w0 : World)
    (hi : 0 < N) (hN : N ≤ 4000) (h1 : w0.cell? ⟨gP, 0, none⟩ = some (.string T)) (h2 : w0.cell? ⟨gP, 1, none⟩ = some (.slice (some ⟨gX, 0, none⟩) np cX)) (h3 : w0.cell? ⟨bG, oG, none⟩ = some (.string T)) (hnp : 0 < np)
    (x : Act) (w : World) (hB : Below w0.heap.size w0 w) (hdef : x.defers = df) (u7 : x.tmps.getD 7 undef = .slice (some ⟨gP, 0, none⟩) N cP) (u8 : x.tmps.getD 8 undef = .slice (some ⟨bG, oG, none⟩) N cG) (u10 : x.tmps.getD 10 undef = .int .i64 0)
    (p26 : gpaF_val gP bG oG gX N cP cG np cX T 26 (x.tmps.getD 63 undef) w)
    (p31 : gpaF_val gP bG oG gX N cP cG np cX T 31 (x.tmps.getD 68 undef) w)
    (p22 : gpaF_val gP bG oG gX N cP cG np cX T 22 (x.tmps.getD 59 undef) w)
    : wpOpIn Fc nC Try.prog gpa_ops Q 32 (fun a' w' => ∃ v, a' = x.put (some 69) v ∧ (v = .bool false) ∧ Below w.heap.size w w') x w := by
  have ho : gpa_ops[32]? = some gpa_o32 := rfl
  simp only [Array.getD_eq_getD_getElem?] at u7 u8 u10
  have q26 : x.tmps.getD 63 undef = .string T := p26
  have q31 : x.tmps.getD 68 undef = .string T := p31
  have q22 : x.tmps.getD 59 undef = .bool false := p22
  simp only [Array.getD_eq_getD_getElem?] at q26 q31 q22
  have e22 : (gpa_ops[22]?.bind fun x => x.dst) = some 59 := rfl
  have g22 := get_someT q22 (fun h => by cases h)
  have m : (T.toList == T.toList) = true := beq_self_eq_true _
  refine wpOpIn_stepT hF ho (fun K hK => ?_)
  clear ho
  rw [Oper.semAt_plain Fc _ _ (by intro c h; cases h)]
  simp only [gpa_o32]
  go_simp
  exact hK _ _ ⟨_, act_putD x hdef _ _, rfl, Below.refl _ _⟩
set_option maxRecDepth 100000 in
set_option maxHeartbeats 2000000 in
theorem gpaF_s33 {Fc : Fence} (hF : Wide Fc) {nC : Nat} (gP bG oG gX N cP cG np cX : Nat) (T : ByteArray) (Q : Exit → Act → World → Prop) (df : List Deferred) (w0 : World)
    (hi : 0 < N) (hN : N ≤ 4000) (h1 : w0.cell? ⟨gP, 0, none⟩ = some (.string T)) (h2 : w0.cell? ⟨gP, 1, none⟩ = some (.slice (some ⟨gX, 0, none⟩) np cX)) (h3 : w0.cell? ⟨bG, oG, none⟩ = some (.string T)) (hnp : 0 < np)
    (x : Act) (w : World) (hB : Below w0.heap.size w0 w) (hdef : x.defers = df) (u7 : x.tmps.getD 7 undef = .slice (some ⟨gP, 0, none⟩) N cP) (u8 : x.tmps.getD 8 undef = .slice (some ⟨bG, oG, none⟩) N cG) (u10 : x.tmps.getD 10 undef = .int .i64 0)
    (p22 : gpaF_val gP bG oG gX N cP cG np cX T 22 (x.tmps.getD 59 undef) w)
    (p32 : gpaF_val gP bG oG gX N cP cG np cX T 32 (x.tmps.getD 69 undef) w)
    : wpOpIn Fc nC Try.prog gpa_ops Q 33 (fun a' w' => ∃ v, a' = x.put (some 70) v ∧ (v = .bool false) ∧ Below w.heap.size w w') x w := by
  have ho : gpa_ops[33]? = some gpa_o33 := rfl
  simp only [Array.getD_eq_getD_getElem?] at u7 u8 u10
  have q22 : x.tmps.getD 59 undef = .bool false := p22
  have q32 : x.tmps.getD 69 undef = .bool false := p32
  simp only [Array.getD_eq_getD_getElem?] at q22 q32
  refine wpOpIn_plain ho rfl (oper_inK hF.fn (fun K hK => ?_))
  clear ho
  rw [Oper.semAt_plain Fc _ _ (by intro c h; cases h)]
  simp only [gpa_o33]
  go_simp
  exact hK _ _ ⟨_, act_putD x hdef _ _, rfl, Below.refl _ _⟩
set_option maxRecDepth 100000 in
set_option maxHeartbeats 2000000 in
theorem gpaF_s34 {Fc : Fence} (hF : Wide Fc) {nC : Nat} (gP bG oG gX N cP cG np cX : Nat) (T : ByteArray) (Q : Exit → Act → World → Prop) (df : List Deferred) (w0 : World)
    (hi : 0 < N) (hN : N ≤ 4000) (h1 : w0.cell? ⟨gP, 0, none⟩ = some (.string T)) (h2 : w0.cell? ⟨gP, 1, none⟩ = some (.slice (some ⟨gX, 0, none⟩) np cX)) (h3 : w0.cell? ⟨bG, oG, none⟩ = some (.string T)) (hnp : 0 < np)
    (x : Act) (w : World) (hB : Below w0.heap.size w0 w) (hdef : x.defers = df) (u7 : x.tmps.getD 7 undef = .slice (some ⟨gP, 0, none⟩) N cP) (u8 : x.tmps.getD 8 undef = .slice (some ⟨bG, oG, none⟩) N cG) (u10 : x.tmps.getD 10 undef = .int .i64 0)
    (p33 : gpaF_val gP bG oG gX N cP cG np cX T 33 (x.tmps.getD 70 undef) w)
    : wpOpIn Fc nC Try.prog gpa_ops Q 34 (fun a' w' => ∃ v, a' = x.put (some 71) v ∧ (v = .bool false) ∧ Below w.heap.size w w') x w := by
  have ho : gpa_ops[34]? = some gpa_o34 := rfl
  simp only [Array.getD_eq_getD_getElem?] at u7 u8 u10
  have q33 : x.tmps.getD 70 undef = .bool false := p33
  simp only [Array.getD_eq_getD_getElem?] at q33
  refine wpOpIn_plain ho rfl (oper_inK hF.fn (fun K hK => ?_))
  clear ho
  rw [Oper.semAt_plain Fc _ _ (by intro c h; cases h)]
  simp only [gpa_o34]
  go_simp
  exact hK _ _ ⟨_, act_putD x hdef _ _, rfl, Below.refl _ _⟩
set_option maxRecDepth 100000 in
set_option maxHeartbeats 2000000 in
theorem gpaF_s35 {Fc : Fence} (hF : Wide Fc) {nC : Nat} (gP bG oG gX N cP cG np cX : Nat) (T : ByteArray) (Q : Exit → Act → World → Prop) (df : List Deferred) (w0 : World)
    (hi : 0 < N) (hN : N ≤ 4000) (h1 : w0.cell? ⟨gP, 0, none⟩ = some (.string T)) (h2 : w0.cell? ⟨gP, 1, none⟩ = some (.slice (some ⟨gX, 0, none⟩) np cX)) (h3 : w0.cell? ⟨bG, oG, none⟩ = some (.string T)) (hnp : 0 < np)
    (x : Act) (w : World) (hB : Below w0.heap.size w0 w) (hdef : x.defers = df) (u7 : x.tmps.getD 7 undef = .slice (some ⟨gP, 0, none⟩) N cP) (u8 : x.tmps.getD 8 undef = .slice (some ⟨bG, oG, none⟩) N cG) (u10 : x.tmps.getD 10 undef = .int .i64 0)
    (p34 : gpaF_val gP bG oG gX N cP cG np cX T 34 (x.tmps.getD 71 undef) w)
    : wpOpIn Fc nC Try.prog gpa_ops Q 35 (fun a' w' => ∃ v, a' = x.put (some 72) v ∧ (v = .slice (some ⟨gP, 0, none⟩) N cP) ∧ Below w.heap.size w w') x w := by
  have ho : gpa_ops[35]? = some gpa_o35 := rfl
  simp only [Array.getD_eq_getD_getElem?] at u7 u8 u10
  have q34 : x.tmps.getD 71 undef = .bool false := p34
  simp only [Array.getD_eq_getD_getElem?] at q34
  have e34 : (gpa_ops[34]?.bind fun x => x.dst) = some 71 := rfl
  have g34 := get_someT q34 (fun h => by cases h)
  refine wpOpIn_stepT hF ho (fun K hK => ?_)
  clear ho
  rw [Oper.semAt_plain Fc _ _ (by intro c h; cases h)]
  simp only [gpa_o35]
  go_simp
  exact hK _ _ ⟨_, act_putD x hdef _ _, rfl, Below.refl _ _⟩
set_option maxRecDepth 100000 in
set_option maxHeartbeats 2000000 in
theorem gpaF_s36 {Fc : Fence} (hF : Wide Fc) {nC : Nat} (gP bG oG gX N cP cG np cX : Nat) (T : ByteArray) (Q : Exit → Act → World → Prop) (df : List Deferred) (w0 : World)
    (hi : 0 < N) (hN : N ≤ 4000) (h1 : w0.cell? ⟨gP, 0, none⟩ = some (.string T)) (h2 : w0.cell? ⟨gP, 1, none⟩ = some (.slice (some ⟨gX, 0, none⟩) np cX)) (h3 : w0.cell? ⟨bG, oG, none⟩ = some (.string T)) (hnp : 0 < np)
    (x : Act) (w : World) (hB : Below w0.heap.size w0 w) (hdef : x.defers = df) (u7 : x.tmps.getD 7 undef = .slice (some ⟨gP, 0, none⟩) N cP) (u8 : x.tmps.getD 8 undef = .slice (some ⟨bG, oG, none⟩) N cG) (u10 : x.tmps.getD 10 undef = .int .i64 0)
    (p34 : gpaF_val gP bG oG gX N cP cG np cX T 34 (x.tmps.getD 71 undef) w)
    : wpOpIn Fc nC Try.prog gpa_ops Q 36 (fun a' w' => ∃ v, a' = x.put (some 73) v ∧ (v = .int .i64 0) ∧ Below w.heap.size w w') x w := by
  have ho : gpa_ops[36]? = some gpa_o36 := rfl
  simp only [Array.getD_eq_getD_getElem?] at u7 u8 u10
  have q34 : x.tmps.getD 71 undef = .bool false := p34
  simp only [Array.getD_eq_getD_getElem?] at q34
  have e34 : (gpa_ops[34]?.bind fun x => x.dst) = some 71 := rfl
  have g34 := get_someT q34 (fun h => by cases h)
  refine wpOpIn_stepT hF ho (fun K hK => ?_)
  clear ho
  rw [Oper.semAt_plain Fc _ _ (by intro c h; cases h)]
  simp only [gpa_o36]
  go_simp
  exact hK _ _ ⟨_, act_putD x hdef _ _, rfl, Below.refl _ _⟩
set_option maxRecDepth 100000 in
set_option maxHeartbeats 2000000 in
theorem gpaF_s37 {Fc : Fence} (hF : Wide Fc) {nC : Nat} (gP bG oG gX N cP cG np cX : Nat) (T : ByteArray) (Q : Exit → Act → World → Prop) (df : List Deferred) (w0 : World)
    (hi : 0 < N) (hN : N ≤ 4000) (h1 : w0.cell? ⟨gP, 0, none⟩ = some (.string T)) (h2 : w0.cell? ⟨gP, 1, none⟩ = some (.slice (some ⟨gX, 0, none⟩) np cX)) (h3 : w0.cell? ⟨bG, oG, none⟩ = some (.string T)) (hnp : 0 < np)
    (x : Act) (w : World) (hB : Below w0.heap.size w0 w) (hdef : x.defers = df) (u7 : x.tmps.getD 7 undef = .slice (some ⟨gP, 0, none⟩) N cP) (u8 : x.tmps.getD 8 undef = .slice (some ⟨bG, oG, none⟩) N cG) (u10 : x.tmps.getD 10 undef = .int .i64 0)
    (p35 : gpaF_val gP bG oG gX N cP cG np cX T 35 (x.tmps.getD 72 undef) w)
    (p36 : gpaF_val gP bG oG gX N cP cG np cX T 36 (x.tmps.getD 73 undef) w)
    (p34 : gpaF_val gP bG oG gX N cP cG np cX T 34 (x.tmps.getD 71 undef) w)
    : wpOpIn Fc nC Try.prog gpa_ops Q 37 (fun a' w' => ∃ v, a' = x.put (some 74) v ∧ (v = .pointer (some ⟨gP, 0, none⟩)) ∧ Below w.heap.size w w') x w := by
  have ho : gpa_ops[37]? = some gpa_o37 := rfl
  simp only [Array.getD_eq_getD_getElem?] at u7 u8 u10
  have q35 : x.tmps.getD 72 undef = .slice (some ⟨gP, 0, none⟩) N cP := p35
  have q36 : x.tmps.getD 73 undef = .int .i64 0 := p36
  have q34 : x.tmps.getD 71 undef = .bool false := p34
  simp only [Array.getD_eq_getD_getElem?] at q35 q36 q34
  have e34 : (gpa_ops[34]?.bind fun x => x.dst) = some 71 := rfl
  have g34 := get_someT q34 (fun h => by cases h)
  have i0 : 0 < N := hi
  have i1 : (0 : Int) < (N : Int) := by omega
  refine wpOpIn_stepT hF ho (fun K hK => ?_)
  clear ho
  rw [Oper.semAt_plain Fc _ _ (by intro c h; cases h)]
  simp only [gpa_o37]
  go_simp
  exact hK _ _ ⟨_, act_putD x hdef _ _, rfl, Below.refl _ _⟩
set_option maxRecDepth 100000 in
set_option maxHeartbeats 2000000 in
theorem gpaF_s38 {Fc : Fence} (hF : Wide Fc) {nC : Nat} (gP bG oG gX N cP cG np cX : Nat) (T : ByteArray) (Q : Exit → Act → World → Prop) (df : List Deferred) (w0 : World)
    (hi : 0 < N) (hN : N ≤ 4000) (h1 : w0.cell? ⟨gP, 0, none⟩ = some (.string T)) (h2 : w0.cell? ⟨gP, 1, none⟩ = some (.slice (some ⟨gX, 0, none⟩) np cX)) (h3 : w0.cell? ⟨bG, oG, none⟩ = some (.string T)) (hnp : 0 < np)
    (x : Act) (w : World) (hB : Below w0.heap.size w0 w) (hdef : x.defers = df) (u7 : x.tmps.getD 7 undef = .slice (some ⟨gP, 0, none⟩) N cP) (u8 : x.tmps.getD 8 undef = .slice (some ⟨bG, oG, none⟩) N cG) (u10 : x.tmps.getD 10 undef = .int .i64 0)
    (p37 : gpaF_val gP bG oG gX N cP cG np cX T 37 (x.tmps.getD 74 undef) w)
    (p34 : gpaF_val gP bG oG gX N cP cG np cX T 34 (x.tmps.getD 71 undef) w)
    : wpOpIn Fc nC Try.prog gpa_ops Q 38 (fun a' w' => ∃ v, a' = x.put (some 75) v ∧ (v = .pointer (some ⟨gP, 1, none⟩)) ∧ Below w.heap.size w w') x w := by
  have ho : gpa_ops[38]? = some gpa_o38 := rfl
  simp only [Array.getD_eq_getD_getElem?] at u7 u8 u10
  have q37 : x.tmps.getD 74 undef = .pointer (some ⟨gP, 0, none⟩) := p37
  have q34 : x.tmps.getD 71 undef = .bool false := p34
  simp only [Array.getD_eq_getD_getElem?] at q37 q34
  have e34 : (gpa_ops[34]?.bind fun x => x.dst) = some 71 := rfl
  have g34 := get_someT q34 (fun h => by cases h)
  refine wpOpIn_stepT hF ho (fun K hK => ?_)
  clear ho
  rw [Oper.semAt_plain Fc _ _ (by intro c h; cases h)]
  simp only [gpa_o38]
  go_simp
  exact hK _ _ ⟨_, act_putD x hdef _ _, rfl, Below.refl _ _⟩
set_option maxRecDepth 100000 in
set_option maxHeartbeats 2000000 in
theorem gpaF_s39 {Fc : Fence} (hF : Wide Fc) {nC : Nat} (gP bG oG gX N cP cG np cX : Nat) (T : ByteArray) (Q : Exit → Act → World → Prop) (df : List Deferred) (w0 : World)
    (hi : 0 < N) (hN : N ≤ 4000) (h1 : w0.cell? ⟨gP, 0, none⟩ = some (.string T)) (h2 : w0.cell? ⟨gP, 1, none⟩ = some (.slice (some ⟨gX, 0, none⟩) np cX)) (h3 : w0.cell? ⟨bG, oG, none⟩ = some (.string T)) (hnp : 0 < np)
    (x : Act) (w : World) (hB : Below w0.heap.size w0 w) (hdef : x.defers = df) (u7 : x.tmps.getD 7 undef = .slice (some ⟨gP, 0, none⟩) N cP) (u8 : x.tmps.getD 8 undef = .slice (some ⟨bG, oG, none⟩) N cG) (u10 : x.tmps.getD 10 undef = .int .i64 0)
    (p38 : gpaF_val gP bG oG gX N cP cG np cX T 38 (x.tmps.getD 75 undef) w)
    (p34 : gpaF_val gP bG oG gX N cP cG np cX T 34 (x.tmps.getD 71 undef) w)
    : wpOpIn Fc nC Try.prog gpa_ops Q 39 (fun a' w' => ∃ v, a' = x.put (some 76) v ∧ (v = .slice (some ⟨gX, 0, none⟩) np cX) ∧ Below w.heap.size w w') x w := by
  have ho : gpa_ops[39]? = some gpa_o39 := rfl
  simp only [Array.getD_eq_getD_getElem?] at u7 u8 u10
  have q38 : x.tmps.getD 75 undef = .pointer (some ⟨gP, 1, none⟩) := p38
  have q34 : x.tmps.getD 71 undef = .bool false := p34
  simp only [Array.getD_eq_getD_getElem?] at q38 q34
  have e34 : (gpa_ops[34]?.bind fun x => x.dst) = some 71 := rfl
  have g34 := get_someT q34 (fun h => by cases h)
  have m := cell_thru h2 hB
  refine wpOpIn_stepT hF ho (fun K hK => ?_)
  clear ho
  rw [Oper.semAt_plain Fc _ _ (by intro c h; cases h)]
  simp only [gpa_o39]
  go_simp
  exact hK _ _ ⟨_, act_putD x hdef _ _, rfl, Below.refl _ _⟩
set_option maxRecDepth 100000 in
set_option maxHeartbeats 2000000 in
theorem gpaF_s40 {Fc : Fence} (hF : Wide Fc) {nC : Nat} (gP bG oG gX N cP cG np cX : Nat) (T : ByteArray) (Q : Exit → Act → World → Prop) (df : List Deferred) (w0 : World)
    (hi : 0 < N) (hN : N ≤ 4000) (h1 : w0.cell? ⟨gP, 0, none⟩ = some (.string T)) (h2 : w0.cell? ⟨gP, 1, none⟩ = some (.slice (some ⟨gX, 0, none⟩) np cX)) (h3 : w0.cell? ⟨bG, oG, none⟩ = some (.string T)) (hnp : 0 < np)
    (x : Act) (w : World) (hB : Below w0.heap.size w0 w) (hdef : x.defers = df) (u7 : x.tmps.getD 7 undef = .slice (some ⟨gP, 0, none⟩) N cP) (u8 : x.tmps.getD 8 undef = .slice (some ⟨bG, oG, none⟩) N cG) (u10 : x.tmps.getD 10 undef = .int .i64 0)
    (p39 : gpaF_val gP bG oG gX N cP cG np cX T 39 (x.tmps.getD 76 undef) w)
    (p34 : gpaF_val gP bG oG gX N cP cG np cX T 34 (x.tmps.getD 71 undef) w)
    : wpOpIn Fc nC Try.prog gpa_ops Q 40 (fun a' w' => ∃ v, a' = x.put (some 77) v ∧ (v = .int .i64 (np : Nat)) ∧ Below w.heap.size w w') x w := by
  have ho : gpa_ops[40]? = some gpa_o40 := rfl
  simp only [Array.getD_eq_getD_getElem?] at u7 u8 u10
  have q39 : x.tmps.getD 76 undef = .slice (some ⟨gX, 0, none⟩) np cX := p39
  have q34 : x.tmps.getD 71 undef = .bool false := p34
  simp only [Array.getD_eq_getD_getElem?] at q39 q34
  have e34 : (gpa_ops[34]?.bind fun x => x.dst) = some 71 := rfl
  have g34 := get_someT q34 (fun h => by cases h)
  refine wpOpIn_stepT hF ho (fun K hK => ?_)
  clear ho
  rw [Oper.semAt_plain Fc _ _ (by intro c h; cases h)]
  simp only [gpa_o40]
  go_simp
  exact hK _ _ ⟨_, act_putD x hdef _ _, rfl, Below.refl _ _⟩
set_option maxRecDepth 100000 in
set_option maxHeartbeats 2000000 in
theorem gpaF_s41 {Fc : Fence} (hF : Wide Fc) {nC : Nat} (gP bG oG gX N cP cG np cX : Nat) (T : ByteArray) (Q : Exit → Act → World → Prop) (df : List Deferred) (w0 : World)
    (hi : 0 < N) (hN : N ≤ 4000) (h1 : w0.cell? ⟨gP, 0, none⟩ = some (.string T)) (h2 : w0.cell? ⟨gP, 1, none⟩ = some (.slice (some ⟨gX, 0, none⟩) np cX)) (h3 : w0.cell? ⟨bG, oG, none⟩ = some (.string T)) (hnp : 0 < np)
    (x : Act) (w : World) (hB : Below w0.heap.size w0 w) (hdef : x.defers = df) (u7 : x.tmps.getD 7 undef = .slice (some ⟨gP, 0, none⟩) N cP) (u8 : x.tmps.getD 8 undef = .slice (some ⟨bG, oG, none⟩) N cG) (u10 : x.tmps.getD 10 undef = .int .i64 0)
    (p40 : gpaF_val gP bG oG gX N cP cG np cX T 40 (x.tmps.getD 77 undef) w)
    (p34 : gpaF_val gP bG oG gX N cP cG np cX T 34 (x.tmps.getD 71 undef) w)
    : wpOpIn Fc nC Try.prog gpa_ops Q 41 (fun a' w' => ∃ v, a' = x.put (some 78) v ∧ (v = .bool false) ∧ Below w.heap.size w w') x w := by
  have ho : gpa_ops[41]? = some gpa_o41 := rfl
  simp only [Array.getD_eq_getD_getElem?] at u7 u8 u10
  have q40 : x.tmps.getD 77 undef = .int .i64 (np : Nat) := p40
  have q34 : x.tmps.getD 71 undef = .bool false := p34
  simp only [Array.getD_eq_getD_getElem?] at q40 q34
  have e34 : (gpa_ops[34]?.bind fun x => x.dst) = some 71 := rfl
  have g34 := get_someT q34 (fun h => by cases h)
  have m : ((np : Int) == 0) = false := by simp; omega
  refine wpOpIn_stepT hF ho (fun K hK => ?_)
  clear ho
  rw [Oper.semAt_plain Fc _ _ (by intro c h; cases h)]
  simp only [gpa_o41]
  go_simp
  exact hK _ _ ⟨_, act_putD x hdef _ _, rfl, Below.refl _ _⟩
set_option maxRecDepth 100000 in
set_option maxHeartbeats 2000000 in
theorem gpaF_s42 {Fc : Fence} (hF : Wide Fc) {nC : Nat} (gP bG oG gX N cP cG np cX : Nat) (T : ByteArray) (Q : Exit → Act → World → Prop) (df : List Deferred) (w0 : World)
    (hi : 0 < N) (hN : N ≤ 4000) (h1 : w0.cell? ⟨gP, 0, none⟩ = some (.string T)) (h2 : w0.cell? ⟨gP, 1, none⟩ = some (.slice (some ⟨gX, 0, none⟩) np cX)) (h3 : w0.cell? ⟨bG, oG, none⟩ = some (.string T)) (hnp : 0 < np)
    (x : Act) (w : World) (hB : Below w0.heap.size w0 w) (hdef : x.defers = df) (u7 : x.tmps.getD 7 undef = .slice (some ⟨gP, 0, none⟩) N cP) (u8 : x.tmps.getD 8 undef = .slice (some ⟨bG, oG, none⟩) N cG) (u10 : x.tmps.getD 10 undef = .int .i64 0)
    (p34 : gpaF_val gP bG oG gX N cP cG np cX T 34 (x.tmps.getD 71 undef) w)
    (p41 : gpaF_val gP bG oG gX N cP cG np cX T 41 (x.tmps.getD 78 undef) w)
    : wpOpIn Fc nC Try.prog gpa_ops Q 42 (fun a' w' => ∃ v, a' = x.put (some 79) v ∧ (v = .bool false) ∧ Below w.heap.size w w') x w := by
  have ho : gpa_ops[42]? = some gpa_o42 := rfl
  simp only [Array.getD_eq_getD_getElem?] at u7 u8 u10
  have q34 : x.tmps.getD 71 undef = .bool false := p34
  have q41 : x.tmps.getD 78 undef = .bool false := p41
  simp only [Array.getD_eq_getD_getElem?] at q34 q41
  refine wpOpIn_plain ho rfl (oper_inK hF.fn (fun K hK => ?_))
  clear ho
  rw [Oper.semAt_plain Fc _ _ (by intro c h; cases h)]
  simp only [gpa_o42]
  go_simp
  exact hK _ _ ⟨_, act_putD x hdef _ _, rfl, Below.refl _ _⟩

set_option maxRecDepth 100000 in
set_option maxHeartbeats 4000000 in
theorem gpaF {Fc : Fence} (hF : Wide Fc) {nC : Nat} (gP bG oG gX N cP cG np cX : Nat) (T : ByteArray) (Q : Exit → Act → World → Prop) (t0 : Array Value) (df : List Deferred) (w0 : World) (ht : t0.size = 201)
    (hs7 : t0.getD 7 undef = .slice (some ⟨gP, 0, none⟩) N cP) (hs8 : t0.getD 8 undef = .slice (some ⟨bG, oG, none⟩) N cG) (hs10 : t0.getD 10 undef = .int .i64 0)
    (hi : 0 < N) (hN : N ≤ 4000) (h1 : w0.cell? ⟨gP, 0, none⟩ = some (.string T)) (h2 : w0.cell? ⟨gP, 1, none⟩ = some (.slice (some ⟨gX, 0, none⟩) np cX)) (h3 : w0.cell? ⟨bG, oG, none⟩ = some (.string T)) (hnp : 0 < np)
    (hQ : ∀ (vs : Nat → Value) (w : World), Below w0.heap.size w0 w → (vs 79 = .bool false) → Q .normal { tmps := [37, 38, 39, 40, 41, 42, 43, 44, 45, 46, 47, 48, 49, 50, 51, 52, 53, 54, 55, 56, 57, 58, 59, 60, 61, 62, 63, 64, 65, 66, 67, 68, 69, 70, 71, 72, 73, 74, 75, 76, 77, 78, 79].foldl (fun y d => y.setIfInBounds d (vs d)) t0, defers := df } w) :
    (Code.region 10 gpa_ops true).wpIn Fc nC Try.prog Q { tmps := t0, defers := df } w0 := by
  refine wpIn_region_tail 43 (by decide) (by kernel_rfl) (fun a b => Below a.heap.size a b) (gpaF_val gP bG oG gX N cP cG np cX T) t0 df w0 (by rw [ht]; kernel_rfl) (by kernel_rfl) (by kernel_rfl) (by kernel_rfl) ((Below.refl _ _).drew) (fun _ _ _ h k => h.trans (k.mono h.size)) (gpaF_below gP bG oG gX N cP cG np cX T) ?_ ?_
  · intro j o ho hj x w hB hdef hsz hs hdeps
    have hs' : ∀ s, ¬ gpa_mem s → x.tmps.getD s undef = t0.getD s undef := fun s hn => hs s (fun j hj e => hn (by rw [e]; exact gpa_slots j hj))
    have u7 := (hs' 7 (by decide)).trans hs7
    have u8 := (hs' 8 (by decide)).trans hs8
    have u10 := (hs' 10 (by decide)).trans hs10
    match j, ho, hj with
    | 0, ho, _ =>
      have e : o = gpa_o0 := (Option.some.inj ho).symm
      subst e
      exact gpaF_s0 hF gP bG oG gX N cP cG np cX T Q df w0 hi hN h1 h2 h3 hnp x w hB hdef u7 u8 u10 
    | 1, ho, _ =>
      have e : o = gpa_o1 := (Option.some.inj ho).symm
      subst e
      exact gpaF_s1 hF gP bG oG gX N cP cG np cX T Q df w0 hi hN h1 h2 h3 hnp x w hB hdef u7 u8 u10 (hdeps { on := 0, ground := Ground.data } (by simp) rfl)
    | 2, ho, _ =>
      have e : o = gpa_o2 := (Option.some.inj ho).symm
      subst e
      exact gpaF_s2 hF gP bG oG gX N cP cG np cX T Q df w0 hi hN h1 h2 h3 hnp x w hB hdef u7 u8 u10 (hdeps { on := 1, ground := Ground.data } (by simp) rfl)
    | 3, ho, _ =>
      have e : o = gpa_o3 := (Option.some.inj ho).symm
      subst e
      exact gpaF_s3 hF gP bG oG gX N cP cG np cX T Q df w0 hi hN h1 h2 h3 hnp x w hB hdef u7 u8 u10 (hdeps { on := 2, ground := Ground.guard } (by simp) rfl)
    | 4, ho, _ =>
      have e : o = gpa_o4 := (Option.some.inj ho).symm
      subst e
      exact gpaF_s4 hF gP bG oG gX N cP cG np cX T Q df w0 hi hN h1 h2 h3 hnp x w hB hdef u7 u8 u10 (hdeps { on := 2, ground := Ground.guard } (by simp) rfl)
    | 5, ho, _ =>
      have e : o = gpa_o5 := (Option.some.inj ho).symm
      subst e
      exact gpaF_s5 hF gP bG oG gX N cP cG np cX T Q df w0 hi hN h1 h2 h3 hnp x w hB hdef u7 u8 u10 (hdeps { on := 4, ground := Ground.data } (by simp) rfl) (hdeps { on := 2, ground := Ground.guard } (by simp) rfl)
    | 6, ho, _ =>
      have e : o = gpa_o6 := (Option.some.inj ho).symm
      subst e
      exact gpaF_s6 hF gP bG oG gX N cP cG np cX T Q df w0 hi hN h1 h2 h3 hnp x w hB hdef u7 u8 u10 (hdeps { on := 3, ground := Ground.data } (by simp) rfl) (hdeps { on := 5, ground := Ground.data } (by simp) rfl) (hdeps { on := 2, ground := Ground.guard } (by simp) rfl)
    | 7, ho, _ =>
      have e : o = gpa_o7 := (Option.some.inj ho).symm
      subst e
      exact gpaF_s7 hF gP bG oG gX N cP cG np cX T Q df w0 hi hN h1 h2 h3 hnp x w hB hdef u7 u8 u10 (hdeps { on := 6, ground := Ground.data } (by simp) rfl) (hdeps { on := 2, ground := Ground.guard } (by simp) rfl)
    | 8, ho, _ =>
      have e : o = gpa_o8 := (Option.some.inj ho).symm
      subst e
      exact gpaF_s8 hF gP bG oG gX N cP cG np cX T Q df w0 hi hN h1 h2 h3 hnp x w hB hdef u7 u8 u10 (hdeps { on := 7, ground := Ground.data } (by simp) rfl) (hdeps { on := 2, ground := Ground.guard } (by simp) rfl)
    | 9, ho, _ =>
      have e : o = gpa_o9 := (Option.some.inj ho).symm
      subst e
      exact gpaF_s9 hF gP bG oG gX N cP cG np cX T Q df w0 hi hN h1 h2 h3 hnp x w hB hdef u7 u8 u10 (hdeps { on := 2, ground := Ground.guard } (by simp) rfl)
    | 10, ho, _ =>
      have e : o = gpa_o10 := (Option.some.inj ho).symm
      subst e
      exact gpaF_s10 hF gP bG oG gX N cP cG np cX T Q df w0 hi hN h1 h2 h3 hnp x w hB hdef u7 u8 u10 (hdeps { on := 2, ground := Ground.guard } (by simp) rfl)
    | 11, ho, _ =>
      have e : o = gpa_o11 := (Option.some.inj ho).symm
      subst e
      exact gpaF_s11 hF gP bG oG gX N cP cG np cX T Q df w0 hi hN h1 h2 h3 hnp x w hB hdef u7 u8 u10 (hdeps { on := 9, ground := Ground.data } (by simp) rfl) (hdeps { on := 10, ground := Ground.data } (by simp) rfl) (hdeps { on := 2, ground := Ground.guard } (by simp) rfl)
    | 12, ho, _ =>
      have e : o = gpa_o12 := (Option.some.inj ho).symm
      subst e
      exact gpaF_s12 hF gP bG oG gX N cP cG np cX T Q df w0 hi hN h1 h2 h3 hnp x w hB hdef u7 u8 u10 (hdeps { on := 11, ground := Ground.data } (by simp) rfl) (hdeps { on := 2, ground := Ground.guard } (by simp) rfl)
    | 13, ho, _ =>
      have e : o = gpa_o13 := (Option.some.inj ho).symm
      subst e
      exact gpaF_s13 hF gP bG oG gX N cP cG np cX T Q df w0 hi hN h1 h2 h3 hnp x w hB hdef u7 u8 u10 (hdeps { on := 12, ground := Ground.data } (by simp) rfl) (hdeps { on := 2, ground := Ground.guard } (by simp) rfl)
    | 14, ho, _ =>
      have e : o = gpa_o14 := (Option.some.inj ho).symm
      subst e
      exact gpaF_s14 hF gP bG oG gX N cP cG np cX T Q df w0 hi hN h1 h2 h3 hnp x w hB hdef u7 u8 u10 (hdeps { on := 8, ground := Ground.data } (by simp) rfl) (hdeps { on := 13, ground := Ground.data } (by simp) rfl) (hdeps { on := 2, ground := Ground.guard } (by simp) rfl)
    | 15, ho, _ =>
      have e : o = gpa_o15 := (Option.some.inj ho).symm
      subst e
      exact gpaF_s15 hF gP bG oG gX N cP cG np cX T Q df w0 hi hN h1 h2 h3 hnp x w hB hdef u7 u8 u10 (hdeps { on := 2, ground := Ground.data } (by simp) rfl) (hdeps { on := 14, ground := Ground.data } (by simp) rfl)
    | 16, ho, _ =>
      have e : o = gpa_o16 := (Option.some.inj ho).symm
      subst e
      exact gpaF_s16 hF gP bG oG gX N cP cG np cX T Q df w0 hi hN h1 h2 h3 hnp x w hB hdef u7 u8 u10 (hdeps { on := 15, ground := Ground.data } (by simp) rfl)
    | 17, ho, _ =>
      have e : o = gpa_o17 := (Option.some.inj ho).symm
      subst e
      exact gpaF_s17 hF gP bG oG gX N cP cG np cX T Q df w0 hi hN h1 h2 h3 hnp x w hB hdef u7 u8 u10 (hdeps { on := 16, ground := Ground.guard } (by simp) rfl)
    | 18, ho, _ =>
      have e : o = gpa_o18 := (Option.some.inj ho).symm
      subst e
      exact gpaF_s18 hF gP bG oG gX N cP cG np cX T Q df w0 hi hN h1 h2 h3 hnp x w hB hdef u7 u8 u10 (hdeps { on := 16, ground := Ground.guard } (by simp) rfl)
    | 19, ho, _ =>
      have e : o = gpa_o19 := (Option.some.inj ho).symm
      subst e
      exact gpaF_s19 hF gP bG oG gX N cP cG np cX T Q df w0 hi hN h1 h2 h3 hnp x w hB hdef u7 u8 u10 (hdeps { on := 18, ground := Ground.data } (by simp) rfl) (hdeps { on := 16, ground := Ground.guard } (by simp) rfl)
    | 20, ho, _ =>
      have e : o = gpa_o20 := (Option.some.inj ho).symm
      subst e
      exact gpaF_s20 hF gP bG oG gX N cP cG np cX T Q df w0 hi hN h1 h2 h3 hnp x w hB hdef u7 u8 u10 (hdeps { on := 17, ground := Ground.data } (by simp) rfl) (hdeps { on := 19, ground := Ground.data } (by simp) rfl) (hdeps { on := 16, ground := Ground.guard } (by simp) rfl)
    | 21, ho, _ =>
      have e : o = gpa_o21 := (Option.some.inj ho).symm
      subst e
      exact gpaF_s21 hF gP bG oG gX N cP cG np cX T Q df w0 hi hN h1 h2 h3 hnp x w hB hdef u7 u8 u10 (hdeps { on := 16, ground := Ground.data } (by simp) rfl) (hdeps { on := 20, ground := Ground.data } (by simp) rfl)
    | 22, ho, _ =>
      have e : o = gpa_o22 := (Option.some.inj ho).symm
      subst e
      exact gpaF_s22 hF gP bG oG gX N cP cG np cX T Q df w0 hi hN h1 h2 h3 hnp x w hB hdef u7 u8 u10 (hdeps { on := 21, ground := Ground.data } (by simp) rfl)
    | 23, ho, _ =>
      have e : o = gpa_o23 := (Option.some.inj ho).symm
      subst e
      exact gpaF_s23 hF gP bG oG gX N cP cG np cX T Q df w0 hi hN h1 h2 h3 hnp x w hB hdef u7 u8 u10 (hdeps { on := 22, ground := Ground.guard } (by simp) rfl)
    | 24, ho, _ =>
      have e : o = gpa_o24 := (Option.some.inj ho).symm
      subst e
      exact gpaF_s24 hF gP bG oG gX N cP cG np cX T Q df w0 hi hN h1 h2 h3 hnp x w hB hdef u7 u8 u10 (hdeps { on := 22, ground := Ground.guard } (by simp) rfl)
    | 25, ho, _ =>
      have e : o = gpa_o25 := (Option.some.inj ho).symm
      subst e
      exact gpaF_s25 hF gP bG oG gX N cP cG np cX T Q df w0 hi hN h1 h2 h3 hnp x w hB hdef u7 u8 u10 (hdeps { on := 23, ground := Ground.data } (by simp) rfl) (hdeps { on := 24, ground := Ground.data } (by simp) rfl) (hdeps { on := 22, ground := Ground.guard } (by simp) rfl)
    | 26, ho, _ =>
      have e : o = gpa_o26 := (Option.some.inj ho).symm
      subst e
      exact gpaF_s26 hF gP bG oG gX N cP cG np cX T Q df w0 hi hN h1 h2 h3 hnp x w hB hdef u7 u8 u10 (hdeps { on := 25, ground := Ground.data } (by simp) rfl) (hdeps { on := 22, ground := Ground.guard } (by simp) rfl)
    | 27, ho, _ =>
      have e : o = gpa_o27 := (Option.some.inj ho).symm
      subst e
      exact gpaF_s27 hF gP bG oG gX N cP cG np cX T Q df w0 hi hN h1 h2 h3 hnp x w hB hdef u7 u8 u10 (hdeps { on := 22, ground := Ground.guard } (by simp) rfl)
    | 28, ho, _ =>
      have e : o = gpa_o28 := (Option.some.inj ho).symm
      subst e
      exact gpaF_s28 hF gP bG oG gX N cP cG np cX T Q df w0 hi hN h1 h2 h3 hnp x w hB hdef u7 u8 u10 (hdeps { on := 22, ground := Ground.guard } (by simp) rfl)
    | 29, ho, _ =>
      have e : o = gpa_o29 := (Option.some.inj ho).symm
      subst e
      exact gpaF_s29 hF gP bG oG gX N cP cG np cX T Q df w0 hi hN h1 h2 h3 hnp x w hB hdef u7 u8 u10 (hdeps { on := 27, ground := Ground.data } (by simp) rfl) (hdeps { on := 28, ground := Ground.data } (by simp) rfl) (hdeps { on := 22, ground := Ground.guard } (by simp) rfl)
    | 30, ho, _ =>
      have e : o = gpa_o30 := (Option.some.inj ho).symm
      subst e
      exact gpaF_s30 hF gP bG oG gX N cP cG np cX T Q df w0 hi hN h1 h2 h3 hnp x w hB hdef u7 u8 u10 (hdeps { on := 29, ground := Ground.data } (by simp) rfl) (hdeps { on := 22, ground := Ground.guard } (by simp) rfl)
    | 31, ho, _ =>
      have e : o = gpa_o31 := (Option.some.inj ho).symm
      subst e
      exact gpaF_s31 hF gP bG oG gX N cP cG np cX T Q df w0 hi hN h1 h2 h3 hnp x w hB hdef u7 u8 u10 (hdeps { on := 30, ground := Ground.data } (by simp) rfl) (hdeps { on := 22, ground := Ground.guard } (by simp) rfl)
    | 32, ho, _ =>
      have e : o = gpa_o32 := (Option.some.inj ho).symm
      subst e
      exact gpaF_s32 hF gP bG oG gX N cP cG np cX T Q df w0 hi hN h1 h2 h3 hnp x w hB hdef u7 u8 u10 (hdeps { on := 26, ground := Ground.data } (by simp) rfl) (hdeps { on := 31, ground := Ground.data } (by simp) rfl) (hdeps { on := 22, ground := Ground.guard } (by simp) rfl)
    | 33, ho, _ =>
      have e : o = gpa_o33 := (Option.some.inj ho).symm
      subst e
      exact gpaF_s33 hF gP bG oG gX N cP cG np cX T Q df w0 hi hN h1 h2 h3 hnp x w hB hdef u7 u8 u10 (hdeps { on := 22, ground := Ground.data } (by simp) rfl) (hdeps { on := 32, ground := Ground.data } (by simp) rfl)
    | 34, ho, _ =>
      have e : o = gpa_o34 := (Option.some.inj ho).symm
      subst e
      exact gpaF_s34 hF gP bG oG gX N cP cG np cX T Q df w0 hi hN h1 h2 h3 hnp x w hB hdef u7 u8 u10 (hdeps { on := 33, ground := Ground.data } (by simp) rfl)
    | 35, ho, _ =>
      have e : o = gpa_o35 := (Option.some.inj ho).symm
      subst e
      exact gpaF_s35 hF gP bG oG gX N cP cG np cX T Q df w0 hi hN h1 h2 h3 hnp x w hB hdef u7 u8 u10 (hdeps { on := 34, ground := Ground.guard } (by simp) rfl)
    | 36, ho, _ =>
      have e : o = gpa_o36 := (Option.some.inj ho).symm
      subst e
      exact gpaF_s36 hF gP bG oG gX N cP cG np cX T Q df w0 hi hN h1 h2 h3 hnp x w hB hdef u7 u8 u10 (hdeps { on := 34, ground := Ground.guard } (by simp) rfl)
    | 37, ho, _ =>
      have e : o = gpa_o37 := (Option.some.inj ho).symm
      subst e
      exact gpaF_s37 hF gP bG oG gX N cP cG np cX T Q df w0 hi hN h1 h2 h3 hnp x w hB hdef u7 u8 u10 (hdeps { on := 35, ground := Ground.data } (by simp) rfl) (hdeps { on := 36, ground := Ground.data } (by simp) rfl) (hdeps { on := 34, ground := Ground.guard } (by simp) rfl)
    | 38, ho, _ =>
      have e : o = gpa_o38 := (Option.some.inj ho).symm
      subst e
      exact gpaF_s38 hF gP bG oG gX N cP cG np cX T Q df w0 hi hN h1 h2 h3 hnp x w hB hdef u7 u8 u10 (hdeps { on := 37, ground := Ground.data } (by simp) rfl) (hdeps { on := 34, ground := Ground.guard } (by simp) rfl)
    | 39, ho, _ =>
      have e : o = gpa_o39 := (Option.some.inj ho).symm
      subst e
      exact gpaF_s39 hF gP bG oG gX N cP cG np cX T Q df w0 hi hN h1 h2 h3 hnp x w hB hdef u7 u8 u10 (hdeps { on := 38, ground := Ground.data } (by simp) rfl) (hdeps { on := 34, ground := Ground.guard } (by simp) rfl)
    | 40, ho, _ =>
      have e : o = gpa_o40 := (Option.some.inj ho).symm
      subst e
      exact gpaF_s40 hF gP bG oG gX N cP cG np cX T Q df w0 hi hN h1 h2 h3 hnp x w hB hdef u7 u8 u10 (hdeps { on := 39, ground := Ground.data } (by simp) rfl) (hdeps { on := 34, ground := Ground.guard } (by simp) rfl)
    | 41, ho, _ =>
      have e : o = gpa_o41 := (Option.some.inj ho).symm
      subst e
      exact gpaF_s41 hF gP bG oG gX N cP cG np cX T Q df w0 hi hN h1 h2 h3 hnp x w hB hdef u7 u8 u10 (hdeps { on := 40, ground := Ground.data } (by simp) rfl) (hdeps { on := 34, ground := Ground.guard } (by simp) rfl)
    | 42, ho, _ =>
      have e : o = gpa_o42 := (Option.some.inj ho).symm
      subst e
      exact gpaF_s42 hF gP bG oG gX N cP cG np cX T Q df w0 hi hN h1 h2 h3 hnp x w hB hdef u7 u8 u10 (hdeps { on := 34, ground := Ground.data } (by simp) rfl) (hdeps { on := 41, ground := Ground.data } (by simp) rfl)
    | k + 43, _, hj => omega
  · intro x w hB hdef hsz hs hv
    have hx := frame_sets x.tmps t0 hsz [37, 38, 39, 40, 41, 42, 43, 44, 45, 46, 47, 48, 49, 50, 51, 52, 53, 54, 55, 56, 57, 58, 59, 60, 61, 62, 63, 64, 65, 66, 67, 68, 69, 70, 71, 72, 73, 74, 75, 76, 77, 78, 79] (fun s hn => hs s (fun j hj e => hn (by rw [e]; exact gpa_slots j hj)))
    have hq := hQ (fun d => x.tmps.getD d undef) w hB (hv 42 (by decide))
    obtain ⟨T, Df⟩ := x
    dsimp only at hx hdef hq
    subst hdef
    rw [← hx] at hq
    exact hq

def gpaL_val (gP bG oG gX N cP cG np cX r : Nat) (T T0 : ByteArray) : Nat → Value → World → Prop
  | 0, v, w => v = .int .i64 ((r : Int) + 1)
  | 1, v, w => v = .bool true
  | 2, v, w => v = .bool true
  | 3, v, w => v = .slice (some ⟨gP, 0, none⟩) N cP
  | 4, v, w => v = .int .i64 ((r : Int) + 1)
  | 5, v, w => v = .int .i64 (r : Nat)
  | 6, v, w => v = .pointer (some ⟨gP, r * 2, none⟩)
  | 7, v, w => v = .pointer (some ⟨gP, r * 2, none⟩)
  | 8, v, w => v = .string T0
  | 9, v, w => v = .slice (some ⟨gP, 0, none⟩) N cP
  | 10, v, w => v = .int .i64 ((r : Int) + 1)
  | 11, v, w => v = .pointer (some ⟨gP, (r + 1) * 2, none⟩)
  | 12, v, w => v = .pointer (some ⟨gP, (r + 1) * 2, none⟩)
  | 13, v, w => v = .string T
  | 14, v, w => v = .bool false
  | 15, v, w => v = .bool false
  | 16, v, w => v = .bool false
  | 17, v, w => v = .int .i64 ((r : Int) + 1)
  | 18, v, w => v = .slice (some ⟨bG, oG, none⟩) N cG
  | 19, v, w => v = .int .i64 (N : Nat)
  | 20, v, w => v = .bool false
  | 21, v, w => v = .bool false
  | 22, v, w => v = .bool false
  | 23, v, w => v = .slice (some ⟨bG, oG, none⟩) N cG
  | 24, v, w => v = .int .i64 ((r : Int) + 1)
  | 25, v, w => v = .pointer (some ⟨bG, oG + (r + 1), none⟩)
  | 26, v, w => v = .string T
  | 27, v, w => v = .slice (some ⟨gP, 0, none⟩) N cP
  | 28, v, w => v = .int .i64 ((r : Int) + 1)
  | 29, v, w => v = .pointer (some ⟨gP, (r + 1) * 2, none⟩)
  | 30, v, w => v = .pointer (some ⟨gP, (r + 1) * 2, none⟩)
  | 31, v, w => v = .string T
  | 32, v, w => v = .bool false
  | 33, v, w => v = .bool false
  | 34, v, w => v = .bool false
  | 35, v, w => v = .slice (some ⟨gP, 0, none⟩) N cP
  | 36, v, w => v = .int .i64 ((r : Int) + 1)
  | 37, v, w => v = .pointer (some ⟨gP, (r + 1) * 2, none⟩)
  | 38, v, w => v = .pointer (some ⟨gP, (r + 1) * 2 + 1, none⟩)
  | 39, v, w => v = .slice (some ⟨gX, 0, none⟩) np cX
  | 40, v, w => v = .int .i64 (np : Nat)
  | 41, v, w => v = .bool false
  | 42, v, w => v = .bool false
  | _, _, _ => True
theorem gpaL_below (gP bG oG gX N cP cG np cX r : Nat) (T T0 : ByteArray) (w w' : World) (hb : Below w.heap.size w w') : ∀ j v, gpaL_val gP bG oG gX N cP cG np cX r T T0 j v w → gpaL_val gP bG oG gX N cP cG np cX r T T0 j v w' := by
  intro j v h
  match j, h with
  | 0, h => exact h
  | 1, h => exact h
  | 2, h => exact h
  | 3, h => exact h
  | 4, h => exact h
  | 5, h => exact h
  | 6, h => exact h
  | 7, h => exact h
  | 8, h => exact h
  | 9, h => exact h
  | 10, h => exact h
  | 11, h => exact h
  | 12, h => exact h
  | 13, h => exact h
  | 14, h => exact h
  | 15, h => exact h
  | 16, h => exact h
  | 17, h => exact h
  | 18, h => exact h
  | 19, h => exact h
  | 20, h => exact h
  | 21, h => exact h
  | 22, h => exact h
  | 23, h => exact h
  | 24, h => exact h
  | 25, h => exact h
  | 26, h => exact h
  | 27, h => exact h
  | 28, h => exact h
  | 29, h => exact h
  | 30, h => exact h
  | 31, h => exact h
  | 32, h => exact h
  | 33, h => exact h
  | 34, h => exact h
  | 35, h => exact h
  | 36, h => exact h
  | 37, h => exact h
  | 38, h => exact h
  | 39, h => exact h
  | 40, h => exact h
  | 41, h => exact h
  | 42, h => exact h
  | _ + 43, h => exact h
set_option maxRecDepth 100000 in
set_option maxHeartbeats 2000000 in
theorem gpaL_s0 {Fc : Fence} (hF : Wide Fc) {nC : Nat} (gP bG oG gX N cP cG np cX r : Nat) (T T0 : ByteArray) (Q : Exit → Act → World → Prop) (df : List Deferred) (w0 : World)
    (hi : r + 1 < N) (hN : N ≤ 4000) (h1 : w0.cell? ⟨gP, (r + 1) * 2, none⟩ = some (.string T)) (h2 : w0.cell? ⟨gP, (r + 1) * 2 + 1, none⟩ = some (.slice (some ⟨gX, 0, none⟩) np cX)) (h3 : w0.cell? ⟨bG, oG + (r + 1), none⟩ = some (.string T)) (hnp : 0 < np) (h0 : w0.cell? ⟨gP, r * 2, none⟩ = some (.string T0)) (hless : Op.bytesLess T0.toList T.toList = true)
    (x : Act) (w : World) (hB : Below w0.heap.size w0 w) (hdef : x.defers = df) (u7 : x.tmps.getD 7 undef = .slice (some ⟨gP, 0, none⟩) N cP) (u8 : x.tmps.getD 8 undef = .slice (some ⟨bG, oG, none⟩) N cG) (u10 : x.tmps.getD 10 undef = .int .i64 ((r : Int) + 1))
    : wpOpIn Fc nC Try.prog gpa_ops Q 0 (fun a' w' => ∃ v, a' = x.put (some 37) v ∧ (v = .int .i64 ((r : Int) + 1)) ∧ Below w.heap.size w w') x w := by
  have ho : gpa_ops[0]? = some gpa_o0 := rfl
  simp only [Array.getD_eq_getD_getElem?] at u7 u8 u10
  refine wpOpIn_plain ho rfl (oper_inK hF.fn (fun K hK => ?_))
  clear ho
  rw [Oper.semAt_plain Fc _ _ (by intro c h; cases h)]
  simp only [gpa_o0]
  go_simp
  exact hK _ _ ⟨_, act_putD x hdef _ _, rfl, Below.refl _ _⟩
set_option maxRecDepth 100000 in
set_option maxHeartbeats 2000000 in
theorem gpaL_s1 {Fc : Fence} (hF : Wide Fc) {nC : Nat} (gP bG oG gX N cP cG np cX r : Nat) (T T0 : ByteArray) (Q : Exit → Act → World → Prop) (df : List Deferred) (w0 : World)
    (hi : r + 1 < N) (hN : N ≤ 4000) (h1 : w0.cell? ⟨gP, (r + 1) * 2, none⟩ = some (.string T)) (h2 : w0.cell? ⟨gP, (r + 1) * 2 + 1, none⟩ = some (.slice (some ⟨gX, 0, none⟩) np cX)) (h3 : w0.cell? ⟨bG, oG + (r + 1), none⟩ = some (.string T)) (hnp : 0 < np) (h0 : w0.cell? ⟨gP, r * 2, none⟩ = some (.string T0)) (hless : Op.bytesLess T0.toList T.toList = true)
    (x : Act) (w : World) (hB : Below w0.heap.size w0 w) (hdef : x.defers = df) (u7 : x.tmps.getD 7 undef = .slice (some ⟨gP, 0, none⟩) N cP) (u8 : x.tmps.getD 8 undef = .slice (some ⟨bG, oG, none⟩) N cG) (u10 : x.tmps.getD 10 undef = .int .i64 ((r : Int) + 1))
    (p0 : gpaL_val gP bG oG gX N cP cG np cX r T T0 0 (x.tmps.getD 37 undef) w)
    : wpOpIn Fc nC Try.prog gpa_ops Q 1 (fun a' w' => ∃ v, a' = x.put (some 38) v ∧ (v = .bool true) ∧ Below w.heap.size w w') x w := by
  have ho : gpa_ops[1]? = some gpa_o1 := rfl
  simp only [Array.getD_eq_getD_getElem?] at u7 u8 u10
  have q0 : x.tmps.getD 37 undef = .int .i64 ((r : Int) + 1) := p0
  simp only [Array.getD_eq_getD_getElem?] at q0
  have m : (0 : Int) < (r : Int) + 1 := by omega
  refine wpOpIn_plain ho rfl (oper_inK hF.fn (fun K hK => ?_))
  clear ho
  rw [Oper.semAt_plain Fc _ _ (by intro c h; cases h)]
  simp only [gpa_o1]
  go_simp
  exact hK _ _ ⟨_, act_putD x hdef _ _, rfl, Below.refl _ _⟩
set_option maxRecDepth 100000 in
set_option maxHeartbeats 2000000 in
theorem gpaL_s2 {Fc : Fence} (hF : Wide Fc) {nC : Nat} (gP bG oG gX N cP cG np cX r : Nat) (T T0 : ByteArray) (Q : Exit → Act → World → Prop) (df : List Deferred) (w0 : World)
    (hi : r + 1 < N) (hN : N ≤ 4000) (h1 : w0.cell? ⟨gP, (r + 1) * 2, none⟩ = some (.string T)) (h2 : w0.cell? ⟨gP, (r + 1) * 2 + 1, none⟩ = some (.slice (some ⟨gX, 0, none⟩) np cX)) (h3 : w0.cell? ⟨bG, oG + (r + 1), none⟩ = some (.string T)) (hnp : 0 < np) (h0 : w0.cell? ⟨gP, r * 2, none⟩ = some (.string T0)) (hless : Op.bytesLess T0.toList T.toList = true)
    (x : Act) (w : World) (hB : Below w0.heap.size w0 w) (hdef : x.defers = df) (u7 : x.tmps.getD 7 undef = .slice (some ⟨gP, 0, none⟩) N cP) (u8 : x.tmps.getD 8 undef = .slice (some ⟨bG, oG, none⟩) N cG) (u10 : x.tmps.getD 10 undef = .int .i64 ((r : Int) + 1))
    (p1 : gpaL_val gP bG oG gX N cP cG np cX r T T0 1 (x.tmps.getD 38 undef) w)
    : wpOpIn Fc nC Try.prog gpa_ops Q 2 (fun a' w' => ∃ v, a' = x.put (some 39) v ∧ (v = .bool true) ∧ Below w.heap.size w w') x w := by
  have ho : gpa_ops[2]? = some gpa_o2 := rfl
  simp only [Array.getD_eq_getD_getElem?] at u7 u8 u10
  have q1 : x.tmps.getD 38 undef = .bool true := p1
  simp only [Array.getD_eq_getD_getElem?] at q1
  refine wpOpIn_plain ho rfl (oper_inK hF.fn (fun K hK => ?_))
  clear ho
  rw [Oper.semAt_plain Fc _ _ (by intro c h; cases h)]
  simp only [gpa_o2]
  go_simp
  exact hK _ _ ⟨_, act_putD x hdef _ _, rfl, Below.refl _ _⟩
set_option maxRecDepth 100000 in
set_option maxHeartbeats 2000000 in
theorem gpaL_s3 {Fc : Fence} (hF : Wide Fc) {nC : Nat} (gP bG oG gX N cP cG np cX r : Nat) (T T0 : ByteArray) (Q : Exit → Act → World → Prop) (df : List Deferred) (w0 : World)
    (hi : r + 1 < N) (hN : N ≤ 4000) (h1 : w0.cell? ⟨gP, (r + 1) * 2, none⟩ = some (.string T)) (h2 : w0.cell? ⟨gP, (r + 1) * 2 + 1, none⟩ = some (.slice (some ⟨gX, 0, none⟩) np cX)) (h3 : w0.cell? ⟨bG, oG + (r + 1), none⟩ = some (.string T)) (hnp : 0 < np) (h0 : w0.cell? ⟨gP, r * 2, none⟩ = some (.string T0)) (hless : Op.bytesLess T0.toList T.toList = true)
    (x : Act) (w : World) (hB : Below w0.heap.size w0 w) (hdef : x.defers = df) (u7 : x.tmps.getD 7 undef = .slice (some ⟨gP, 0, none⟩) N cP) (u8 : x.tmps.getD 8 undef = .slice (some ⟨bG, oG, none⟩) N cG) (u10 : x.tmps.getD 10 undef = .int .i64 ((r : Int) + 1))
    (p2 : gpaL_val gP bG oG gX N cP cG np cX r T T0 2 (x.tmps.getD 39 undef) w)
    : wpOpIn Fc nC Try.prog gpa_ops Q 3 (fun a' w' => ∃ v, a' = x.put (some 40) v ∧ (v = .slice (some ⟨gP, 0, none⟩) N cP) ∧ Below w.heap.size w w') x w := by
  have ho : gpa_ops[3]? = some gpa_o3 := rfl
  simp only [Array.getD_eq_getD_getElem?] at u7 u8 u10
  have q2 : x.tmps.getD 39 undef = .bool true := p2
  simp only [Array.getD_eq_getD_getElem?] at q2
  have e2 : (gpa_ops[2]?.bind fun x => x.dst) = some 39 := rfl
  have g2 := get_someT q2 (fun h => by cases h)
  refine wpOpIn_stepT hF ho (fun K hK => ?_)
  clear ho
  rw [Oper.semAt_plain Fc _ _ (by intro c h; cases h)]
  simp only [gpa_o3]
  go_simp
  exact hK _ _ ⟨_, act_putD x hdef _ _, rfl, Below.refl _ _⟩
set_option maxRecDepth 100000 in
set_option maxHeartbeats 2000000 in
theorem gpaL_s4 {Fc : Fence} (hF : Wide Fc) {nC : Nat} (gP bG oG gX N cP cG np cX r : Nat) (T T0 : ByteArray) (Q : Exit → Act → World → Prop) (df : List Deferred) (w0 : World)
    (hi : r + 1 < N) (hN : N ≤ 4000) (h1 : w0.cell? ⟨gP, (r + 1) * 2, none⟩ = some (.string T)) (h2 : w0.cell? ⟨gP, (r + 1) * 2 + 1, none⟩ = some (.slice (some ⟨gX, 0, none⟩) np cX)) (h3 : w0.cell? ⟨bG, oG + (r + 1), none⟩ = some (.string T)) (hnp : 0 < np) (h0 : w0.cell? ⟨gP, r * 2, none⟩ = some (.string T0)) (hless : Op.bytesLess T0.toList T.toList = true)
    (x : Act) (w : World) (hB : Below w0.heap.size w0 w) (hdef : x.defers = df) (u7 : x.tmps.getD 7 undef = .slice (some ⟨gP, 0, none⟩) N cP) (u8 : x.tmps.getD 8 undef = .slice (some ⟨bG, oG, none⟩) N cG) (u10 : x.tmps.getD 10 undef = .int .i64 ((r : Int) + 1))
    (p2 : gpaL_val gP bG oG gX N cP cG np cX r T T0 2 (x.tmps.getD 39 undef) w)
    : wpOpIn Fc nC Try.prog gpa_ops Q 4 (fun a' w' => ∃ v, a' = x.put (some 41) v ∧ (v = .int .i64 ((r : Int) + 1)) ∧ Below w.heap.size w w') x w := by
  have ho : gpa_ops[4]? = some gpa_o4 := rfl
  simp only [Array.getD_eq_getD_getElem?] at u7 u8 u10
  have q2 : x.tmps.getD 39 undef = .bool true := p2
  simp only [Array.getD_eq_getD_getElem?] at q2
  have e2 : (gpa_ops[2]?.bind fun x => x.dst) = some 39 := rfl
  have g2 := get_someT q2 (fun h => by cases h)
  refine wpOpIn_stepT hF ho (fun K hK => ?_)
  clear ho
  rw [Oper.semAt_plain Fc _ _ (by intro c h; cases h)]
  simp only [gpa_o4]
  go_simp
  exact hK _ _ ⟨_, act_putD x hdef _ _, rfl, Below.refl _ _⟩
set_option maxRecDepth 100000 in
set_option maxHeartbeats 2000000 in
theorem gpaL_s5 {Fc : Fence} (hF : Wide Fc) {nC : Nat} (gP bG oG gX N cP cG np cX r : Nat) (T T0 : ByteArray) (Q : Exit → Act → World → Prop) (df : List Deferred) (w0 : World)
    (hi : r + 1 < N) (hN : N ≤ 4000) (h1 : w0.cell? ⟨gP, (r + 1) * 2, none⟩ = some (.string T)) (h2 : w0.cell? ⟨gP, (r + 1) * 2 + 1, none⟩ = some (.slice (some ⟨gX, 0, none⟩) np cX)) (h3 : w0.cell? ⟨bG, oG + (r + 1), none⟩ = some (.string T)) (hnp : 0 < np) (h0 : w0.cell? ⟨gP, r * 2, none⟩ = some (.string T0)) (hless : Op.bytesLess T0.toList T.toList = true)
    (x : Act) (w : World) (hB : Below w0.heap.size w0 w) (hdef : x.defers = df) (u7 : x.tmps.getD 7 undef = .slice (some ⟨gP, 0, none⟩) N cP) (u8 : x.tmps.getD 8 undef = .slice (some ⟨bG, oG, none⟩) N cG) (u10 : x.tmps.getD 10 undef = .int .i64 ((r : Int) + 1))
    (p4 : gpaL_val gP bG oG gX N cP cG np cX r T T0 4 (x.tmps.getD 41 undef) w)
    (p2 : gpaL_val gP bG oG gX N cP cG np cX r T T0 2 (x.tmps.getD 39 undef) w)
    : wpOpIn Fc nC Try.prog gpa_ops Q 5 (fun a' w' => ∃ v, a' = x.put (some 42) v ∧ (v = .int .i64 (r : Nat)) ∧ Below w.heap.size w w') x w := by
  have ho : gpa_ops[5]? = some gpa_o5 := rfl
  simp only [Array.getD_eq_getD_getElem?] at u7 u8 u10
  have q4 : x.tmps.getD 41 undef = .int .i64 ((r : Int) + 1) := p4
  have q2 : x.tmps.getD 39 undef = .bool true := p2
  simp only [Array.getD_eq_getD_getElem?] at q4 q2
  have e2 : (gpa_ops[2]?.bind fun x => x.dst) = some 39 := rfl
  have g2 := get_someT q2 (fun h => by cases h)
  have m := IntWalk.i64_in (r : Int) (by omega)
  refine wpOpIn_stepT hF ho (fun K hK => ?_)
  clear ho
  rw [Oper.semAt_plain Fc _ _ (by intro c h; cases h)]
  simp only [gpa_o5]
  go_simp
  exact hK _ _ ⟨_, act_putD x hdef _ _, rfl, Below.refl _ _⟩
set_option maxRecDepth 100000 in
set_option maxHeartbeats 2000000 in
theorem gpaL_s6 {Fc : Fence} (hF : Wide Fc) {nC : Nat} (gP bG oG gX N cP cG np cX r : Nat) (T T0 : ByteArray) (Q : Exit → Act → World → Prop) (df : List Deferred) (w0 : World)
    (hi : r + 1 < N) (hN : N ≤ 4000) (h1 : w0.cell? ⟨gP, (r + 1) * 2, none⟩ = some (.string T)) (h2 : w0.cell? ⟨gP, (r + 1) * 2 + 1, none⟩ = some (.slice (some ⟨gX, 0, none⟩) np cX)) (h3 : w0.cell? ⟨bG, oG + (r + 1), none⟩ = some (.string T)) (hnp : 0 < np) (h0 : w0.cell? ⟨gP, r * 2, none⟩ = some (.string T0)) (hless : Op.bytesLess T0.toList T.toList = true)
    (x : Act) (w : World) (hB : Below w0.heap.size w0 w) (hdef : x.defers = df) (u7 : x.tmps.getD 7 undef = .slice (some ⟨gP, 0, none⟩) N cP) (u8 : x.tmps.getD 8 undef = .slice (some ⟨bG, oG, none⟩) N cG) (u10 : x.tmps.getD 10 undef = .int .i64 ((r : Int) + 1))
    (p3 : gpaL_val gP bG oG gX N cP cG np cX r T T0 3 (x.tmps.getD 40 undef) w)
    (p5 : gpaL_val gP bG oG gX N cP cG np cX r T T0 5 (x.tmps.getD 42 undef) w)
    (p2 : gpaL_val gP bG oG gX N cP cG np cX r T T0 2 (x.tmps.getD 39 undef) w)
    : wpOpIn Fc nC Try.prog gpa_ops Q 6 (fun a' w' => ∃ v, a' = x.put (some 43) v ∧ (v = .pointer (some ⟨gP, r * 2, none⟩)) ∧ Below w.heap.size w w') x w := by
  have ho : gpa_ops[6]? = some gpa_o6 := rfl
  simp only [Array.getD_eq_getD_getElem?] at u7 u8 u10
  have q3 : x.tmps.getD 40 undef = .slice (some ⟨gP, 0, none⟩) N cP := p3
  have q5 : x.tmps.getD 42 undef = .int .i64 (r : Nat) := p5
  have q2 : x.tmps.getD 39 undef = .bool true := p2
  simp only [Array.getD_eq_getD_getElem?] at q3 q5 q2
  have e2 : (gpa_ops[2]?.bind fun x => x.dst) = some 39 := rfl
  have g2 := get_someT q2 (fun h => by cases h)
  have i0 : (0 : Int) ≤ (r : Int) := by omega
  have i1 : (r : Int) < (N : Int) := by omega
  refine wpOpIn_stepT hF ho (fun K hK => ?_)
  clear ho
  rw [Oper.semAt_plain Fc _ _ (by intro c h; cases h)]
  simp only [gpa_o6]
  go_simp
  exact hK _ _ ⟨_, act_putD x hdef _ _, rfl, Below.refl _ _⟩
set_option maxRecDepth 100000 in
set_option maxHeartbeats 2000000 in
theorem gpaL_s7 {Fc : Fence} (hF : Wide Fc) {nC : Nat} (gP bG oG gX N cP cG np cX r : Nat) (T T0 : ByteArray) (Q : Exit → Act → World → Prop) (df : List Deferred) (w0 : World)
    (hi : r + 1 < N) (hN : N ≤ 4000) (h1 : w0.cell? ⟨gP, (r + 1) * 2, none⟩ = some (.string T)) (h2 : w0.cell? ⟨gP, (r + 1) * 2 + 1, none⟩ = some (.slice (some ⟨gX, 0, none⟩) np cX)) (h3 : w0.cell? ⟨bG, oG + (r + 1), none⟩ = some (.string T)) (hnp : 0 < np) (h0 : w0.cell? ⟨gP, r * 2, none⟩ = some (.string T0)) (hless : Op.bytesLess T0.toList T.toList = true)
    (x : Act) (w : World) (hB : Below w0.heap.size w0 w) (hdef : x.defers = df) (u7 : x.tmps.getD 7 undef = .slice (some ⟨gP, 0, none⟩) N cP) (u8 : x.tmps.getD 8 undef = .slice (some ⟨bG, oG, none⟩) N cG) (u10 : x.tmps.getD 10 undef = .int .i64 ((r : Int) + 1))
    (p6 : gpaL_val gP bG oG gX N cP cG np cX r T T0 6 (x.tmps.getD 43 undef) w)
    (p2 : gpaL_val gP bG oG gX N cP cG np cX r T T0 2 (x.tmps.getD 39 undef) w)
    : wpOpIn Fc nC Try.prog gpa_ops Q 7 (fun a' w' => ∃ v, a' = x.put (some 44) v ∧ (v = .pointer (some ⟨gP, r * 2, none⟩)) ∧ Below w.heap.size w w') x w := by
  have ho : gpa_ops[7]? = some gpa_o7 := rfl
  simp only [Array.getD_eq_getD_getElem?] at u7 u8 u10
  have q6 : x.tmps.getD 43 undef = .pointer (some ⟨gP, r * 2, none⟩) := p6
  have q2 : x.tmps.getD 39 undef = .bool true := p2
  simp only [Array.getD_eq_getD_getElem?] at q6 q2
  have e2 : (gpa_ops[2]?.bind fun x => x.dst) = some 39 := rfl
  have g2 := get_someT q2 (fun h => by cases h)
  refine wpOpIn_stepT hF ho (fun K hK => ?_)
  clear ho
  rw [Oper.semAt_plain Fc _ _ (by intro c h; cases h)]
  simp only [gpa_o7]
  go_simp
  exact hK _ _ ⟨_, act_putD x hdef _ _, rfl, Below.refl _ _⟩
set_option maxRecDepth 100000 in
set_option maxHeartbeats 2000000 in
theorem gpaL_s8 {Fc : Fence} (hF : Wide Fc) {nC : Nat} (gP bG oG gX N cP cG np cX r : Nat) (T T0 : ByteArray) (Q : Exit → Act → World → Prop) (df : List Deferred) (w0 : World)
    (hi : r + 1 < N) (hN : N ≤ 4000) (h1 : w0.cell? ⟨gP, (r + 1) * 2, none⟩ = some (.string T)) (h2 : w0.cell? ⟨gP, (r + 1) * 2 + 1, none⟩ = some (.slice (some ⟨gX, 0, none⟩) np cX)) (h3 : w0.cell? ⟨bG, oG + (r + 1), none⟩ = some (.string T)) (hnp : 0 < np) (h0 : w0.cell? ⟨gP, r * 2, none⟩ = some (.string T0)) (hless : Op.bytesLess T0.toList T.toList = true)
    (x : Act) (w : World) (hB : Below w0.heap.size w0 w) (hdef : x.defers = df) (u7 : x.tmps.getD 7 undef = .slice (some ⟨gP, 0, none⟩) N cP) (u8 : x.tmps.getD 8 undef = .slice (some ⟨bG, oG, none⟩) N cG) (u10 : x.tmps.getD 10 undef = .int .i64 ((r : Int) + 1))
    (p7 : gpaL_val gP bG oG gX N cP cG np cX r T T0 7 (x.tmps.getD 44 undef) w)
    (p2 : gpaL_val gP bG oG gX N cP cG np cX r T T0 2 (x.tmps.getD 39 undef) w)
    : wpOpIn Fc nC Try.prog gpa_ops Q 8 (fun a' w' => ∃ v, a' = x.put (some 45) v ∧ (v = .string T0) ∧ Below w.heap.size w w') x w := by
  have ho : gpa_ops[8]? = some gpa_o8 := rfl
  simp only [Array.getD_eq_getD_getElem?] at u7 u8 u10
  have q7 : x.tmps.getD 44 undef = .pointer (some ⟨gP, r * 2, none⟩) := p7
  have q2 : x.tmps.getD 39 undef = .bool true := p2
  simp only [Array.getD_eq_getD_getElem?] at q7 q2
  have e2 : (gpa_ops[2]?.bind fun x => x.dst) = some 39 := rfl
  have g2 := get_someT q2 (fun h => by cases h)
  have m := cell_thru h0 hB
  refine wpOpIn_stepT hF ho (fun K hK => ?_)
  clear ho
  rw [Oper.semAt_plain Fc _ _ (by intro c h; cases h)]
  simp only [gpa_o8]
  go_simp
  exact hK _ _ ⟨_, act_putD x hdef _ _, rfl, Below.refl _ _⟩
set_option maxRecDepth 100000 in
set_option maxHeartbeats 2000000 in
theorem gpaL_s9 {Fc : Fence} (hF : Wide Fc) {nC : Nat} (gP bG oG gX N cP cG np cX r : Nat) (T T0 : ByteArray) (Q : Exit → Act → World → Prop) (df : List Deferred) (w0 : World)
    (hi : r + 1 < N) (hN : N ≤ 4000) (h1 : w0.cell? ⟨gP, (r + 1) * 2, none⟩ = some (.string T)) (h2 : w0.cell? ⟨gP, (r + 1) * 2 + 1, none⟩ = some (.slice (some ⟨gX, 0, none⟩) np cX)) (h3 : w0.cell? ⟨bG, oG + (r + 1), none⟩ = some (.string T)) (hnp : 0 < np) (h0 : w0.cell? ⟨gP, r * 2, none⟩ = some (.string T0)) (hless : Op.bytesLess T0.toList T.toList = true)
    (x : Act) (w : World) (hB : Below w0.heap.size w0 w) (hdef : x.defers = df) (u7 : x.tmps.getD 7 undef = .slice (some ⟨gP, 0, none⟩) N cP) (u8 : x.tmps.getD 8 undef = .slice (some ⟨bG, oG, none⟩) N cG) (u10 : x.tmps.getD 10 undef = .int .i64 ((r : Int) + 1))
    (p2 : gpaL_val gP bG oG gX N cP cG np cX r T T0 2 (x.tmps.getD 39 undef) w)
    : wpOpIn Fc nC Try.prog gpa_ops Q 9 (fun a' w' => ∃ v, a' = x.put (some 46) v ∧ (v = .slice (some ⟨gP, 0, none⟩) N cP) ∧ Below w.heap.size w w') x w := by
  have ho : gpa_ops[9]? = some gpa_o9 := rfl
  simp only [Array.getD_eq_getD_getElem?] at u7 u8 u10
  have q2 : x.tmps.getD 39 undef = .bool true := p2
  simp only [Array.getD_eq_getD_getElem?] at q2
  have e2 : (gpa_ops[2]?.bind fun x => x.dst) = some 39 := rfl
  have g2 := get_someT q2 (fun h => by cases h)
  refine wpOpIn_stepT hF ho (fun K hK => ?_)
  clear ho
  rw [Oper.semAt_plain Fc _ _ (by intro c h; cases h)]
  simp only [gpa_o9]
  go_simp
  exact hK _ _ ⟨_, act_putD x hdef _ _, rfl, Below.refl _ _⟩
set_option maxRecDepth 100000 in
set_option maxHeartbeats 2000000 in
theorem gpaL_s10 {Fc : Fence} (hF : Wide Fc) {nC : Nat} (gP bG oG gX N cP cG np cX r : Nat) (T T0 : ByteArray) (Q : Exit → Act → World → Prop) (df : List Deferred) (w0 : World)
    (hi : r + 1 < N) (hN : N ≤ 4000) (h1 : w0.cell? ⟨gP, (r + 1) * 2, none⟩ = some (.string T)) (h2 : w0.cell? ⟨gP, (r + 1) * 2 + 1, none⟩ = some (.slice (some ⟨gX, 0, none⟩) np cX)) (h3 : w0.cell? ⟨bG, oG + (r + 1), none⟩ = some (.string T)) (hnp : 0 < np) (h0 : w0.cell? ⟨gP, r * 2, none⟩ = some (.string T0)) (hless : Op.bytesLess T0.toList T.toList = true)
    (x : Act) (w : World) (hB : Below w0.heap.size w0 w) (hdef : x.defers = df) (u7 : x.tmps.getD 7 undef = .slice (some ⟨gP, 0, none⟩) N cP) (u8 : x.tmps.getD 8 undef = .slice (some ⟨bG, oG, none⟩) N cG) (u10 : x.tmps.getD 10 undef = .int .i64 ((r : Int) + 1))
    (p2 : gpaL_val gP bG oG gX N cP cG np cX r T T0 2 (x.tmps.getD 39 undef) w)
    : wpOpIn Fc nC Try.prog gpa_ops Q 10 (fun a' w' => ∃ v, a' = x.put (some 47) v ∧ (v = .int .i64 ((r : Int) + 1)) ∧ Below w.heap.size w w') x w := by
  have ho : gpa_ops[10]? = some gpa_o10 := rfl
  simp only [Array.getD_eq_getD_getElem?] at u7 u8 u10
  have q2 : x.tmps.getD 39 undef = .bool true := p2
  simp only [Array.getD_eq_getD_getElem?] at q2
  have e2 : (gpa_ops[2]?.bind fun x => x.dst) = some 39 := rfl
  have g2 := get_someT q2 (fun h => by cases h)
  refine wpOpIn_stepT hF ho (fun K hK => ?_)
  clear ho
  rw [Oper.semAt_plain Fc _ _ (by intro c h; cases h)]
  simp only [gpa_o10]
  go_simp
  exact hK _ _ ⟨_, act_putD x hdef _ _, rfl, Below.refl _ _⟩
set_option maxRecDepth 100000 in
set_option maxHeartbeats 2000000 in
theorem gpaL_s11 {Fc : Fence} (hF : Wide Fc) {nC : Nat} (gP bG oG gX N cP cG np cX r : Nat) (T T0 : ByteArray) (Q : Exit → Act → World → Prop) (df : List Deferred) (w0 : World)
    (hi : r + 1 < N) (hN : N ≤ 4000) (h1 : w0.cell? ⟨gP, (r + 1) * 2, none⟩ = some (.string T)) (h2 : w0.cell? ⟨gP, (r + 1) * 2 + 1, none⟩ = some (.slice (some ⟨gX, 0, none⟩) np cX)) (h3 : w0.cell? ⟨bG, oG + (r + 1), none⟩ = some (.string T)) (hnp : 0 < np) (h0 : w0.cell? ⟨gP, r * 2, none⟩ = some (.string T0)) (hless : Op.bytesLess T0.toList T.toList = true)
    (x : Act) (w : World) (hB : Below w0.heap.size w0 w) (hdef : x.defers = df) (u7 : x.tmps.getD 7 undef = .slice (some ⟨gP, 0, none⟩) N cP) (u8 : x.tmps.getD 8 undef = .slice (some ⟨bG, oG, none⟩) N cG) (u10 : x.tmps.getD 10 undef = .int .i64 ((r : Int) + 1))
    (p9 : gpaL_val gP bG oG gX N cP cG np cX r T T0 9 (x.tmps.getD 46 undef) w)
    (p10 : gpaL_val gP bG oG gX N cP cG np cX r T T0 10 (x.tmps.getD 47 undef) w)
    (p2 : gpaL_val gP bG oG gX N cP cG np cX r T T0 2 (x.tmps.getD 39 undef) w)
    : wpOpIn Fc nC Try.prog gpa_ops Q 11 (fun a' w' => ∃ v, a' = x.put (some 48) v ∧ (v = .pointer (some ⟨gP, (r + 1) * 2, none⟩)) ∧ Below w.heap.size w w') x w := by
  have ho : gpa_ops[11]? = some gpa_o11 := rfl
  simp only [Array.getD_eq_getD_getElem?] at u7 u8 u10
  have q9 : x.tmps.getD 46 undef = .slice (some ⟨gP, 0, none⟩) N cP := p9
  have q10 : x.tmps.getD 47 undef = .int .i64 ((r : Int) + 1) := p10
  have q2 : x.tmps.getD 39 undef = .bool true := p2
  simp only [Array.getD_eq_getD_getElem?] at q9 q10 q2
  have e2 : (gpa_ops[2]?.bind fun x => x.dst) = some 39 := rfl
  have g2 := get_someT q2 (fun h => by cases h)
  have i0 : (0 : Int) ≤ (r : Int) + 1 := by omega
  have i1 : (r : Int) + 1 < (N : Int) := by omega
  refine wpOpIn_stepT hF ho (fun K hK => ?_)
  clear ho
  rw [Oper.semAt_plain Fc _ _ (by intro c h; cases h)]
  simp only [gpa_o11]
  go_simp
  exact hK _ _ ⟨_, act_putD x hdef _ _, rfl, Below.refl _ _⟩
set_option maxRecDepth 100000 in
set_option maxHeartbeats 2000000 in
theorem gpaL_s12 {Fc : Fence} (hF : Wide Fc) {nC : Nat} (gP bG oG gX N cP cG np cX r : Nat) (T T0 : ByteArray) (Q : Exit → Act → World → Prop) (df : List Deferred) (w0 : World)
    (hi : r + 1 < N) (hN : N ≤ 4000) (h1 : w0.cell? ⟨gP, (r + 1) * 2, none⟩ = some (.string T)) (h2 : w0.cell? ⟨gP, (r + 1) * 2 + 1, none⟩ = some (.slice (some ⟨gX, 0, none⟩) np cX)) (h3 : w0.cell? ⟨bG, oG + (r + 1), none⟩ = some (.string T)) (hnp : 0 < np) (h0 : w0.cell? ⟨gP, r * 2, none⟩ = some (.string T0)) (hless : Op.bytesLess T0.toList T.toList = true)
    (x : Act) (w : World) (hB : Below w0.heap.size w0 w) (hdef : x.defers = df) (u7 : x.tmps.getD 7 undef = .slice (some ⟨gP, 0, none⟩) N cP) (u8 : x.tmps.getD 8 undef = .slice (some ⟨bG, oG, none⟩) N cG) (u10 : x.tmps.getD 10 undef = .int .i64 ((r : Int) + 1))
    (p11 : gpaL_val gP bG oG gX N cP cG np cX r T T0 11 (x.tmps.getD 48 undef) w)
    (p2 : gpaL_val gP bG oG gX N cP cG np cX r T T0 2 (x.tmps.getD 39 undef) w)
    : wpOpIn Fc nC Try.prog gpa_ops Q 12 (fun a' w' => ∃ v, a' = x.put (some 49) v ∧ (v = .pointer (some ⟨gP, (r + 1) * 2, none⟩)) ∧ Below w.heap.size w w') x w := by
  have ho : gpa_ops[12]? = some gpa_o12 := rfl
  simp only [Array.getD_eq_getD_getElem?] at u7 u8 u10
  have q11 : x.tmps.getD 48 undef = .pointer (some ⟨gP, (r + 1) * 2, none⟩) := p11
  have q2 : x.tmps.getD 39 undef = .bool true := p2
  simp only [Array.getD_eq_getD_getElem?] at q11 q2
  have e2 : (gpa_ops[2]?.bind fun x => x.dst) = some 39 := rfl
  have g2 := get_someT q2 (fun h => by cases h)
  refine wpOpIn_stepT hF ho (fun K hK => ?_)
  clear ho
  rw [Oper.semAt_plain Fc _ _ (by intro c h; cases h)]
  simp only [gpa_o12]
  go_simp
  exact hK _ _ ⟨_, act_putD x hdef _ _, rfl, Below.refl _ _⟩
set_option maxRecDepth 100000 in
set_option maxHeartbeats 2000000 in
theorem gpaL_s13 {Fc : Fence} (hF : Wide Fc) {nC : Nat} (gP bG oG gX N cP cG np cX r : Nat) (T T0 : ByteArray) (Q : Exit → Act → World → Prop) (df : List Deferred) (w0 : World)
    (hi : r + 1 < N) (hN : N ≤ 4000) (h1 : w0.cell? ⟨gP, (r + 1) * 2, none⟩ = some (.string T)) (h2 : w0.cell? ⟨gP, (r + 1) * 2 + 1, none⟩ = some (.slice (some ⟨gX, 0, none⟩) np cX)) (h3 : w0.cell? ⟨bG, oG + (r + 1), none⟩ = some (.string T)) (hnp : 0 < np) (h0 : w0.cell? ⟨gP, r * 2, none⟩ = some (.string T0)) (hless : Op.bytesLess T0.toList T.toList = true)
    (x : Act) (w : World) (hB : Below w0.heap.size w0 w) (hdef : x.defers = df) (u7 : x.tmps.getD 7 undef = .slice (some ⟨gP, 0, none⟩) N cP) (u8 : x.tmps.getD 8 undef = .slice (some ⟨bG, oG, none⟩) N cG) (u10 : x.tmps.getD 10 undef = .int .i64 ((r : Int) + 1))
    (p12 : gpaL_val gP bG oG gX N cP cG np cX r T T0 12 (x.tmps.getD 49 undef) w)
    (p2 : gpaL_val gP bG oG gX N cP cG np cX r T T0 2 (x.tmps.getD 39 undef) w)
    : wpOpIn Fc nC Try.prog gpa_ops Q 13 (fun a' w' => ∃ v, a' = x.put (some 50) v ∧ (v = .string T) ∧ Below w.heap.size w w') x w := by
  have ho : gpa_ops[13]? = some gpa_o13 := rfl
  simp only [Array.getD_eq_getD_getElem?] at u7 u8 u10
  have q12 : x.tmps.getD 49 undef = .pointer (some ⟨gP, (r + 1) * 2, none⟩) := p12
  have q2 : x.tmps.getD 39 undef = .bool true := p2
  simp only [Array.getD_eq_getD_getElem?] at q12 q2
  have e2 : (gpa_ops[2]?.bind fun x => x.dst) = some 39 := rfl
  have g2 := get_someT q2 (fun h => by cases h)
  have m := cell_thru h1 hB
  refine wpOpIn_stepT hF ho (fun K hK => ?_)
  clear ho
  rw [Oper.semAt_plain Fc _ _ (by intro c h; cases h)]
  simp only [gpa_o13]
  go_simp
  exact hK _ _ ⟨_, act_putD x hdef _ _, rfl, Below.refl _ _⟩
set_option maxRecDepth 100000 in
set_option maxHeartbeats 2000000 in
theorem gpaL_s14 {Fc : Fence} (hF : Wide Fc) {nC : Nat} (gP bG oG gX N cP cG np cX r : Nat) (T T0 : ByteArray) (Q : Exit → Act → World → Prop) (df : List Deferred) (w0 : World)
    (hi : r + 1 < N) (hN : N ≤ 4000) (h1 : w0.cell? ⟨gP, (r + 1) * 2, none⟩ = some (.string T)) (h2 : w0.cell? ⟨gP, (r + 1) * 2 + 1, none⟩ = some (.slice (some ⟨gX, 0, none⟩) np cX)) (h3 : w0.cell? ⟨bG, oG + (r + 1), none⟩ = some (.string T)) (hnp : 0 < np) (h0 : w0.cell? ⟨gP, r * 2, none⟩ = some (.string T0)) (hless : Op.bytesLess T0.toList T.toList = true)
    (x : Act) (w : World) (hB : Below w0.heap.size w0 w) (hdef : x.defers = df) (u7 : x.tmps.getD 7 undef = .slice (some ⟨gP, 0, none⟩) N cP) (u8 : x.tmps.getD 8 undef = .slice (some ⟨bG, oG, none⟩) N cG) (u10 : x.tmps.getD 10 undef = .int .i64 ((r : Int) + 1))
    (p8 : gpaL_val gP bG oG gX N cP cG np cX r T T0 8 (x.tmps.getD 45 undef) w)
    (p13 : gpaL_val gP bG oG gX N cP cG np cX r T T0 13 (x.tmps.getD 50 undef) w)
    (p2 : gpaL_val gP bG oG gX N cP cG np cX r T T0 2 (x.tmps.getD 39 undef) w)
    : wpOpIn Fc nC Try.prog gpa_ops Q 14 (fun a' w' => ∃ v, a' = x.put (some 51) v ∧ (v = .bool false) ∧ Below w.heap.size w w') x w := by
  have ho : gpa_ops[14]? = some gpa_o14 := rfl
  simp only [Array.getD_eq_getD_getElem?] at u7 u8 u10
  have q8 : x.tmps.getD 45 undef = .string T0 := p8
  have q13 : x.tmps.getD 50 undef = .string T := p13
  have q2 : x.tmps.getD 39 undef = .bool true := p2
  simp only [Array.getD_eq_getD_getElem?] at q8 q13 q2
  have e2 : (gpa_ops[2]?.bind fun x => x.dst) = some 39 := rfl
  have g2 := get_someT q2 (fun h => by cases h)
  refine wpOpIn_stepT hF ho (fun K hK => ?_)
  clear ho
  rw [Oper.semAt_plain Fc _ _ (by intro c h; cases h)]
  simp only [gpa_o14]
  go_simp
  exact hK _ _ ⟨_, act_putD x hdef _ _, rfl, Below.refl _ _⟩
set_option maxRecDepth 100000 in
set_option maxHeartbeats 2000000 in
theorem gpaL_s15 {Fc : Fence} (hF : Wide Fc) {nC : Nat} (gP bG oG gX N cP cG np cX r : Nat) (T T0 : ByteArray) (Q : Exit → Act → World → Prop) (df : List Deferred) (w0 : World)
    (hi : r + 1 < N) (hN : N ≤ 4000) (h1 : w0.cell? ⟨gP, (r + 1) * 2, none⟩ = some (.string T)) (h2 : w0.cell? ⟨gP, (r + 1) * 2 + 1, none⟩ = some (.slice (some ⟨gX, 0, none⟩) np cX)) (h3 : w0.cell? ⟨bG, oG + (r + 1), none⟩ = some (.string T)) (hnp : 0 < np) (h0 : w0.cell? ⟨gP, r * 2, none⟩ = some (.string T0)) (hless : Op.bytesLess T0.toList T.toList = true)
    (x : Act) (w : World) (hB : Below w0.heap.size w0 w) (hdef : x.defers = df) (u7 : x.tmps.getD 7 undef = .slice (some ⟨gP, 0, none⟩) N cP) (u8 : x.tmps.getD 8 undef = .slice (some ⟨bG, oG, none⟩) N cG) (u10 : x.tmps.getD 10 undef = .int .i64 ((r : Int) + 1))
    (p2 : gpaL_val gP bG oG gX N cP cG np cX r T T0 2 (x.tmps.getD 39 undef) w)
    (p14 : gpaL_val gP bG oG gX N cP cG np cX r T T0 14 (x.tmps.getD 51 undef) w)
    : wpOpIn Fc nC Try.prog gpa_ops Q 15 (fun a' w' => ∃ v, a' = x.put (some 52) v ∧ (v = .bool false) ∧ Below w.heap.size w w') x w := by
  have ho : gpa_ops[15]? = some gpa_o15 := rfl
  simp only [Array.getD_eq_getD_getElem?] at u7 u8 u10
  have q2 : x.tmps.getD 39 undef = .bool true := p2
  have q14 : x.tmps.getD 51 undef = .bool false := p14
  simp only [Array.getD_eq_getD_getElem?] at q2 q14
  refine wpOpIn_plain ho rfl (oper_inK hF.fn (fun K hK => ?_))
  clear ho
  rw [Oper.semAt_plain Fc _ _ (by intro c h; cases h)]
  simp only [gpa_o15]
  go_simp
  exact hK _ _ ⟨_, act_putD x hdef _ _, rfl, Below.refl _ _⟩
set_option maxRecDepth 100000 in
set_option maxHeartbeats 2000000 in
theorem gpaL_s16 {Fc : Fence} (hF : Wide Fc) {nC : Nat} (gP bG oG gX N cP cG np cX r : Nat) (T T0 : ByteArray) (Q : Exit → Act → World → Prop) (df : List Deferred) (w0 : World)
    (hi : r + 1 < N) (hN : N ≤ 4000) (h1 : w0.cell? ⟨gP, (r + 1) * 2, none⟩ = some (.string T)) (h2 : w0.cell? ⟨gP, (r + 1) * 2 + 1, none⟩ = some (.slice (some ⟨gX, 0, none⟩) np cX)) (h3 : w0.cell? ⟨bG, oG + (r + 1), none⟩ = some (.string T)) (hnp : 0 < np) (h0 : w0.cell? ⟨gP, r * 2, none⟩ = some (.string T0)) (hless : Op.bytesLess T0.toList T.toList = true)
    (x : Act) (w : World) (hB : Below w0.heap.size w0 w) (hdef : x.defers = df) (u7 : x.tmps.getD 7 undef = .slice (some ⟨gP, 0, none⟩) N cP) (u8 : x.tmps.getD 8 undef = .slice (some ⟨bG, oG, none⟩) N cG) (u10 : x.tmps.getD 10 undef = .int .i64 ((r : Int) + 1))
    (p15 : gpaL_val gP bG oG gX N cP cG np cX r T T0 15 (x.tmps.getD 52 undef) w)
    : wpOpIn Fc nC Try.prog gpa_ops Q 16 (fun a' w' => ∃ v, a' = x.put (some 53) v ∧ (v = .bool false) ∧ Below w.heap.size w w') x w := by
  have ho : gpa_ops[16]? = some gpa_o16 := rfl
  simp only [Array.getD_eq_getD_getElem?] at u7 u8 u10
  have q15 : x.tmps.getD 52 undef = .bool false := p15
  simp only [Array.getD_eq_getD_getElem?] at q15
  refine wpOpIn_plain ho rfl (oper_inK hF.fn (fun K hK => ?_))
  clear ho
  rw [Oper.semAt_plain Fc _ _ (by intro c h; cases h)]
  simp only [gpa_o16]
  go_simp
  exact hK _ _ ⟨_, act_putD x hdef _ _, rfl, Below.refl _ _⟩
set_option maxRecDepth 100000 in
set_option maxHeartbeats 2000000 in
theorem gpaL_s17 {Fc : Fence} (hF : Wide Fc) {nC : Nat} (gP bG oG gX N cP cG np cX r : Nat) (T T0 : ByteArray) (Q : Exit → Act → World → Prop) (df : List Deferred) (w0 : World)
    (hi : r + 1 < N) (hN : N ≤ 4000) (h1 : w0.cell? ⟨gP, (r + 1) * 2, none⟩ = some (.string T)) (h2 : w0.cell? ⟨gP, (r + 1) * 2 + 1, none⟩ = some (.slice (some ⟨gX, 0, none⟩) np cX)) (h3 : w0.cell? ⟨bG, oG + (r + 1), none⟩ = some (.string T)) (hnp : 0 < np) (h0 : w0.cell? ⟨gP, r * 2, none⟩ = some (.string T0)) (hless : Op.bytesLess T0.toList T.toList = true)
    (x : Act) (w : World) (hB : Below w0.heap.size w0 w) (hdef : x.defers = df) (u7 : x.tmps.getD 7 undef = .slice (some ⟨gP, 0, none⟩) N cP) (u8 : x.tmps.getD 8 undef = .slice (some ⟨bG, oG, none⟩) N cG) (u10 : x.tmps.getD 10 undef = .int .i64 ((r : Int) + 1))
    (p16 : gpaL_val gP bG oG gX N cP cG np cX r T T0 16 (x.tmps.getD 53 undef) w)
    : wpOpIn Fc nC Try.prog gpa_ops Q 17 (fun a' w' => ∃ v, a' = x.put (some 54) v ∧ (v = .int .i64 ((r : Int) + 1)) ∧ Below w.heap.size w w') x w := by
  have ho : gpa_ops[17]? = some gpa_o17 := rfl
  simp only [Array.getD_eq_getD_getElem?] at u7 u8 u10
  have q16 : x.tmps.getD 53 undef = .bool false := p16
  simp only [Array.getD_eq_getD_getElem?] at q16
  have e16 : (gpa_ops[16]?.bind fun x => x.dst) = some 53 := rfl
  have g16 := get_someT q16 (fun h => by cases h)
  refine wpOpIn_stepT hF ho (fun K hK => ?_)
  clear ho
  rw [Oper.semAt_plain Fc _ _ (by intro c h; cases h)]
  simp only [gpa_o17]
  go_simp
  exact hK _ _ ⟨_, act_putD x hdef _ _, rfl, Below.refl _ _⟩
set_option maxRecDepth 100000 in
set_option maxHeartbeats 2000000 in
theorem gpaL_s18 {Fc : Fence} (hF : Wide Fc) {nC : Nat} (gP bG oG gX N cP cG np cX r : Nat) (T T0 : ByteArray) (Q : Exit → Act → World → Prop) (df : List Deferred) (w0 : World)
    (hi : r + 1 < N) (hN : N ≤ 4000) (h1 : w0.cell? ⟨gP, (r + 1) * 2, none⟩ = some (.string T)) (h2 : w0.cell? ⟨gP, (r + 1) * 2 + 1, none⟩ = some (.slice (some ⟨gX, 0, none⟩) np cX)) (h3 : w0.cell? ⟨bG, oG + (r + 1), none⟩ = some (.string T)) (hnp : 0 < np) (h0 : w0.cell? ⟨gP, r * 2, none⟩ = some (.string T0)) (hless : Op.bytesLess T0.toList T.toList = true)
    (x : Act) (w : World) (hB : Below w0.heap.size w0 w) (hdef : x.defers = df) (u7 : x.tmps.getD 7 undef = .slice (some ⟨gP, 0, none⟩) N cP) (u8 : x.tmps.getD 8 undef = .slice (some ⟨bG, oG, none⟩) N cG) (u10 : x.tmps.getD 10 undef = .int .i64 ((r : Int) + 1))
    (p16 : gpaL_val gP bG oG gX N cP cG np cX r T T0 16 (x.tmps.getD 53 undef) w)
    : wpOpIn Fc nC Try.prog gpa_ops Q 18 (fun a' w' => ∃ v, a' = x.put (some 55) v ∧ (v = .slice (some ⟨bG, oG, none⟩) N cG) ∧ Below w.heap.size w w') x w := by
  have ho : gpa_ops[18]? = some gpa_o18 := rfl
  simp only [Array.getD_eq_getD_getElem?] at u7 u8 u10
  have q16 : x.tmps.getD 53 undef = .bool false := p16
  simp only [Array.getD_eq_getD_getElem?] at q16
  have e16 : (gpa_ops[16]?.bind fun x => x.dst) = some 53 := rfl
  have g16 := get_someT q16 (fun h => by cases h)
  refine wpOpIn_stepT hF ho (fun K hK => ?_)
  clear ho
  rw [Oper.semAt_plain Fc _ _ (by intro c h; cases h)]
  simp only [gpa_o18]
  go_simp
  exact hK _ _ ⟨_, act_putD x hdef _ _, rfl, Below.refl _ _⟩
set_option maxRecDepth 100000 in
set_option maxHeartbeats 2000000 in
theorem gpaL_s19 {Fc : Fence} (hF : Wide Fc) {nC : Nat} (gP bG oG gX N cP cG np cX r : Nat) (T T0 : ByteArray) (Q : Exit → Act → World → Prop) (df : List Deferred) (w0 : World)
    (hi : r + 1 < N) (hN : N ≤ 4000) (h1 : w0.cell? ⟨gP, (r + 1) * 2, none⟩ = some (.string T)) (h2 : w0.cell? ⟨gP, (r + 1) * 2 + 1, none⟩ = some (.slice (some ⟨gX, 0, none⟩) np cX)) (h3 : w0.cell? ⟨bG, oG + (r + 1), none⟩ = some (.string T)) (hnp : 0 < np) (h0 : w0.cell? ⟨gP, r * 2, none⟩ = some (.string T0)) (hless : Op.bytesLess T0.toList T.toList = true)
    (x : Act) (w : World) (hB : Below w0.heap.size w0 w) (hdef : x.defers = df) (u7 : x.tmps.getD 7 undef = .slice (some ⟨gP, 0, none⟩) N cP) (u8 : x.tmps.getD 8 undef = .slice (some ⟨bG, oG, none⟩) N cG) (u10 : x.tmps.getD 10 undef = .int .i64 ((r : Int) + 1))
    (p18 : gpaL_val gP bG oG gX N cP cG np cX r T T0 18 (x.tmps.getD 55 undef) w)
    (p16 : gpaL_val gP bG oG gX N cP cG np cX r T T0 16 (x.tmps.getD 53 undef) w)
    : wpOpIn Fc nC Try.prog gpa_ops Q 19 (fun a' w' => ∃ v, a' = x.put (some 56) v ∧ (v = .int .i64 (N : Nat)) ∧ Below w.heap.size w w') x w := by
  have ho : gpa_ops[19]? = some gpa_o19 := rfl
  simp only [Array.getD_eq_getD_getElem?] at u7 u8 u10
  have q18 : x.tmps.getD 55 undef = .slice (some ⟨bG, oG, none⟩) N cG := p18
  have q16 : x.tmps.getD 53 undef = .bool false := p16
  simp only [Array.getD_eq_getD_getElem?] at q18 q16
  have e16 : (gpa_ops[16]?.bind fun x => x.dst) = some 53 := rfl
  have g16 := get_someT q16 (fun h => by cases h)
  refine wpOpIn_stepT hF ho (fun K hK => ?_)
  clear ho
  rw [Oper.semAt_plain Fc _ _ (by intro c h; cases h)]
  simp only [gpa_o19]
  go_simp
  exact hK _ _ ⟨_, act_putD x hdef _ _, rfl, Below.refl _ _⟩
set_option maxRecDepth 100000 in
set_option maxHeartbeats 2000000 in
theorem gpaL_s20 {Fc : Fence} (hF : Wide Fc) {nC : Nat} (gP bG oG gX N cP cG np cX r : Nat) (T T0 : ByteArray) (Q : Exit → Act → World → Prop) (df : List Deferred) (w0 : World)
    (hi : r + 1 < N) (hN : N ≤ 4000) (h1 : w0.cell? ⟨gP, (r + 1) * 2, none⟩ = some (.string T)) (h2 : w0.cell? ⟨gP, (r + 1) * 2 + 1, none⟩ = some (.slice (some ⟨gX, 0, none⟩) np cX)) (h3 : w0.cell? ⟨bG, oG + (r + 1), none⟩ = some (.string T)) (hnp : 0 < np) (h0 : w0.cell? ⟨gP, r * 2, none⟩ = some (.string T0)) (hless : Op.bytesLess T0.toList T.toList = true)
    (x : Act) (w : World) (hB : Below w0.heap.size w0 w) (hdef : x.defers = df) (u7 : x.tmps.getD 7 undef = .slice (some ⟨gP, 0, none⟩) N cP) (u8 : x.tmps.getD 8 undef = .slice (some ⟨bG, oG, none⟩) N cG) (u10 : x.tmps.getD 10 undef = .int .i64 ((r : Int) + 1))
    (p17 : gpaL_val gP bG oG gX N cP cG np cX r T T0 17 (x.tmps.getD 54 undef) w)
    (p19 : gpaL_val gP bG oG gX N cP cG np cX r T T0 19 (x.tmps.getD 56 undef) w)
    (p16 : gpaL_val gP bG oG gX N cP cG np cX r T T0 16 (x.tmps.getD 53 undef) w)
    : wpOpIn Fc nC Try.prog gpa_ops Q 20 (fun a' w' => ∃ v, a' = x.put (some 57) v ∧ (v = .bool false) ∧ Below w.heap.size w w') x w := by
  have ho : gpa_ops[20]? = some gpa_o20 := rfl
  simp only [Array.getD_eq_getD_getElem?] at u7 u8 u10
  have q17 : x.tmps.getD 54 undef = .int .i64 ((r : Int) + 1) := p17
  have q19 : x.tmps.getD 56 undef = .int .i64 (N : Nat) := p19
  have q16 : x.tmps.getD 53 undef = .bool false := p16
  simp only [Array.getD_eq_getD_getElem?] at q17 q19 q16
  have e16 : (gpa_ops[16]?.bind fun x => x.dst) = some 53 := rfl
  have g16 := get_someT q16 (fun h => by cases h)
  have m : ¬ ((N : Int) ≤ (r : Int) + 1) := by omega
  refine wpOpIn_stepT hF ho (fun K hK => ?_)
  clear ho
  rw [Oper.semAt_plain Fc _ _ (by intro c h; cases h)]
  simp only [gpa_o20]
  go_simp
  exact hK _ _ ⟨_, act_putD x hdef _ _, rfl, Below.refl _ _⟩
set_option maxRecDepth 100000 in
set_option maxHeartbeats 2000000 in
theorem gpaL_s21 {Fc : Fence} (hF : Wide Fc) {nC : Nat} (gP bG oG gX N cP cG np cX r : Nat) (T T0 : ByteArray) (Q : Exit → Act → World → Prop) (df : List Deferred) (w0 : World)
    (hi : r + 1 < N) (hN : N ≤ 4000) (h1 : w0.cell? ⟨gP, (r + 1) * 2, none⟩ = some (.string T)) (h2 : w0.cell? ⟨gP, (r + 1) * 2 + 1, none⟩ = some (.slice (some ⟨gX, 0, none⟩) np cX)) (h3 : w0.cell? ⟨bG, oG + (r + 1), none⟩ = some (.string T)) (hnp : 0 < np) (h0 : w0.cell? ⟨gP, r * 2, none⟩ = some (.string T0)) (hless : Op.bytesLess T0.toList T.toList = true)
    (x : Act) (w : World) (hB : Below w0.heap.size w0 w) (hdef : x.defers = df) (u7 : x.tmps.getD 7 undef = .slice (some ⟨gP, 0, none⟩) N cP) (u8 : x.tmps.getD 8 undef = .slice (some ⟨bG, oG, none⟩) N cG) (u10 : x.tmps.getD 10 undef = .int .i64 ((r : Int) + 1))
    (p16 : gpaL_val gP bG oG gX N cP cG np cX r T T0 16 (x.tmps.getD 53 undef) w)
    (p20 : gpaL_val gP bG oG gX N cP cG np cX r T T0 20 (x.tmps.getD 57 undef) w)
    : wpOpIn Fc nC Try.prog gpa_ops Q 21 (fun a' w' => ∃ v, a' = x.put (some 58) v ∧ (v = .bool false) ∧ Below w.heap.size w w') x w := by
  have ho : gpa_ops[21]? = some gpa_o21 := rfl
  simp only [Array.getD_eq_getD_getElem?] at u7 u8 u10
  have q16 : x.tmps.getD 53 undef = .bool false := p16
  have q20 : x.tmps.getD 57 undef = .bool false := p20
  simp only [Array.getD_eq_getD_getElem?] at q16 q20
  refine wpOpIn_plain ho rfl (oper_inK hF.fn (fun K hK => ?_))
  clear ho
  rw [Oper.semAt_plain Fc _ _ (by intro c h; cases h)]
  simp only [gpa_o21]
  go_simp
  exact hK _ _ ⟨_, act_putD x hdef _ _, rfl, Below.refl _ _⟩
set_option maxRecDepth 100000 in
set_option maxHeartbeats 2000000 in
theorem gpaL_s22 {Fc : Fence} (hF : Wide Fc) {nC : Nat} (gP bG oG gX N cP cG np cX r : Nat) (T T0 : ByteArray) (Q : Exit → Act → World → Prop) (df : List Deferred) (w0 : World)
    (hi : r + 1 < N) (hN : N ≤ 4000) (h1 : w0.cell? ⟨gP, (r + 1) * 2, none⟩ = some (.string T)) (h2 : w0.cell? ⟨gP, (r + 1) * 2 + 1, none⟩ = some (.slice (some ⟨gX, 0, none⟩) np cX)) (h3 : w0.cell? ⟨bG, oG + (r + 1), none⟩ = some (.string T)) (hnp : 0 < np) (h0 : w0.cell? ⟨gP, r * 2, none⟩ = some (.string T0)) (hless : Op.bytesLess T0.toList T.toList = true)
    (x : Act) (w : World) (hB : Below w0.heap.size w0 w) (hdef : x.defers = df) (u7 : x.tmps.getD 7 undef = .slice (some ⟨gP, 0, none⟩) N cP) (u8 : x.tmps.getD 8 undef = .slice (some ⟨bG, oG, none⟩) N cG) (u10 : x.tmps.getD 10 undef = .int .i64 ((r : Int) + 1))
    (p21 : gpaL_val gP bG oG gX N cP cG np cX r T T0 21 (x.tmps.getD 58 undef) w)
    : wpOpIn Fc nC Try.prog gpa_ops Q 22 (fun a' w' => ∃ v, a' = x.put (some 59) v ∧ (v = .bool false) ∧ Below w.heap.size w w') x w := by
  have ho : gpa_ops[22]? = some gpa_o22 := rfl
  simp only [Array.getD_eq_getD_getElem?] at u7 u8 u10
  have q21 : x.tmps.getD 58 undef = .bool false := p21
  simp only [Array.getD_eq_getD_getElem?] at q21
  refine wpOpIn_plain ho rfl (oper_inK hF.fn (fun K hK => ?_))
  clear ho
  rw [Oper.semAt_plain Fc _ _ (by intro c h; cases h)]
  simp only [gpa_o22]
  go_simp
  exact hK _ _ ⟨_, act_putD x hdef _ _, rfl, Below.refl _ _⟩
set_option maxRecDepth 100000 in
set_option maxHeartbeats 2000000 in
theorem gpaL_s23 {Fc : Fence} (hF : Wide Fc) {nC : Nat} (gP bG oG gX N cP cG np cX r : Nat) (T T0 : ByteArray) (Q : Exit → Act → World → Prop) (df : List Deferred) (w0 : World)
    (hi : r + 1 < N) (hN : N ≤ 4000) (h1 : w0.cell? ⟨gP, (r + 1) * 2, none⟩ = some (.string T)) (h2 : w0.cell? ⟨gP, (r + 1) * 2 + 1, none⟩ = some (.slice (some ⟨gX, 0, none⟩) np cX)) (h3 : w0.cell? ⟨bG, oG + (r + 1), none⟩ = some (.string T)) (hnp : 0 < np) (h0 : w0.cell? ⟨gP, r * 2, none⟩ = some (.string T0)) (hless : Op.bytesLess T0.toList T.toList = true)
    (x : Act) (w : World) (hB : Below w0.heap.size w0 w) (hdef : x.defers = df) (u7 : x.tmps.getD 7 undef = .slice (some ⟨gP, 0, none⟩) N cP) (u8 : x.tmps.getD 8 undef = .slice (some ⟨bG, oG, none⟩) N cG) (u10 : x.tmps.getD 10 undef = .int .i64 ((r : Int) + 1))
    (p22 : gpaL_val gP bG oG gX N cP cG np cX r T T0 22 (x.tmps.getD 59 undef) w)
    : wpOpIn Fc nC Try.prog gpa_ops Q 23 (fun a' w' => ∃ v, a' = x.put (some 60) v ∧ (v = .slice (some ⟨bG, oG, none⟩) N cG) ∧ Below w.heap.size w w') x w := by
  have ho : gpa_ops[23]? = some gpa_o23 := rfl
  simp only [Array.getD_eq_getD_getElem?] at u7 u8 u10
  have q22 : x.tmps.getD 59 undef = .bool false := p22
  simp only [Array.getD_eq_getD_getElem?] at q22
  have e22 : (gpa_ops[22]?.bind fun x => x.dst) = some 59 := rfl
  have g22 := get_someT q22 (fun h => by cases h)
  refine wpOpIn_stepT hF ho (fun K hK => ?_)
  clear ho
  rw [Oper.semAt_plain Fc _ _ (by intro c h; cases h)]
  simp only [gpa_o23]
  go_simp
  exact hK _ _ ⟨_, act_putD x hdef _ _, rfl, Below.refl _ _⟩
set_option maxRecDepth 100000 in
set_option maxHeartbeats 2000000 in
theorem gpaL_s24 {Fc : Fence} (hF : Wide Fc) {nC : Nat} (gP bG oG gX N cP cG np cX r : Nat) (T T0 : ByteArray) (Q : Exit → Act → World → Prop) (df : List Deferred) (w0 : World)
    (hi : r + 1 < N) (hN : N ≤ 4000) (h1 : w0.cell? ⟨gP, (r + 1) * 2, none⟩ = some (.string T)) (h2 : w0.cell? ⟨gP, (r + 1) * 2 + 1, none⟩ = some (.slice (some ⟨gX, 0, none⟩) np cX)) (h3 : w0.cell? ⟨bG, oG + (r + 1), none⟩ = some (.string T)) (hnp : 0 < np) (h0 : w0.cell? ⟨gP, r * 2, none⟩ = some (.string T0)) (hless : Op.bytesLess T0.toList T.toList = true)
    (x : Act) (w : World) (hB : Below w0.heap.size w0 w) (hdef : x.defers = df) (u7 : x.tmps.getD 7 undef = .slice (some ⟨gP, 0, none⟩) N cP) (u8 : x.tmps.getD 8 undef = .slice (some ⟨bG, oG, none⟩) N cG) (u10 : x.tmps.getD 10 undef = .int .i64 ((r : Int) + 1))
    (p22 : gpaL_val gP bG oG gX N cP cG np cX r T T0 22 (x.tmps.getD 59 undef) w)
    : wpOpIn Fc nC Try.prog gpa_ops Q 24 (fun a' w' => ∃ v, a' = x.put (some 61) v ∧ (v = .int .i64 ((r : Int) + 1)) ∧ Below w.heap.size w w') x w := by
  have ho : gpa_ops[24]? = some gpa_o24 := rfl
  simp only [Array.getD_eq_getD_getElem?] at u7 u8 u10
  have q22 : x.tmps.getD 59 undef = .bool false := p22
  simp only [Array.getD_eq_getD_getElem?] at q22
  have e22 : (gpa_ops[22]?.bind fun x => x.dst) = some 59 := rfl
  have g22 := get_someT q22 (fun h => by cases h)
  refine wpOpIn_stepT hF ho (fun K hK => ?_)
  clear ho
  rw [Oper.semAt_plain Fc _ _ (by intro c h; cases h)]
  simp only [gpa_o24]
  go_simp
  exact hK _ _ ⟨_, act_putD x hdef _ _, rfl, Below.refl _ _⟩
set_option maxRecDepth 100000 in
set_option maxHeartbeats 2000000 in
theorem gpaL_s25 {Fc : Fence} (hF : Wide Fc) {nC : Nat} (gP bG oG gX N cP cG np cX r : Nat) (T T0 : ByteArray) (Q : Exit → Act → World → Prop) (df : List Deferred) (w0 : World)
    (hi : r + 1 < N) (hN : N ≤ 4000) (h1 : w0.cell? ⟨gP, (r + 1) * 2, none⟩ = some (.string T)) (h2 : w0.cell? ⟨gP, (r + 1) * 2 + 1, none⟩ = some (.slice (some ⟨gX, 0, none⟩) np cX)) (h3 : w0.cell? ⟨bG, oG + (r + 1), none⟩ = some (.string T)) (hnp : 0 < np) (h0 : w0.cell? ⟨gP, r * 2, none⟩ = some (.string T0)) (hless : Op.bytesLess T0.toList T.toList = true)
    (x : Act) (w : World) (hB : Below w0.heap.size w0 w) (hdef : x.defers = df) (u7 : x.tmps.getD 7 undef = .slice (some ⟨gP, 0, none⟩) N cP) (u8 : x.tmps.getD 8 undef = .slice (some ⟨bG, oG, none⟩) N cG) (u10 : x.tmps.getD 10 undef = .int .i64 ((r : Int) + 1))
    (p23 : gpaL_val gP bG oG gX N cP cG np cX r T T0 23 (x.tmps.getD 60 undef) w)
    (p24 : gpaL_val gP bG oG gX N cP cG np cX r T T0 24 (x.tmps.getD 61 undef) w)
    (p22 : gpaL_val gP bG oG gX N cP cG np cX r T T0 22 (x.tmps.getD 59 undef) w)
    : wpOpIn Fc nC Try.prog gpa_ops Q 25 (fun a' w' => ∃ v, a' = x.put (some 62) v ∧ (v = .pointer (some ⟨bG, oG + (r + 1), none⟩)) ∧ Below w.heap.size w w') x w := by
  have ho : gpa_ops[25]? = some gpa_o25 := rfl
  simp only [Array.getD_eq_getD_getElem?] at u7 u8 u10
  have q23 : x.tmps.getD 60 undef = .slice (some ⟨bG, oG, none⟩) N cG := p23
  have q24 : x.tmps.getD 61 undef = .int .i64 ((r : Int) + 1) := p24
  have q22 : x.tmps.getD 59 undef = .bool false := p22
  simp only [Array.getD_eq_getD_getElem?] at q23 q24 q22
  have e22 : (gpa_ops[22]?.bind fun x => x.dst) = some 59 := rfl
  have g22 := get_someT q22 (fun h => by cases h)
  have i0 : (0 : Int) ≤ (r : Int) + 1 := by omega
  have i1 : (r : Int) + 1 < (N : Int) := by omega
  refine wpOpIn_stepT hF ho (fun K hK => ?_)
  clear ho
  rw [Oper.semAt_plain Fc _ _ (by intro c h; cases h)]
  simp only [gpa_o25]
  go_simp
  exact hK _ _ ⟨_, act_putD x hdef _ _, rfl, Below.refl _ _⟩
set_option maxRecDepth 100000 in
set_option maxHeartbeats 2000000 in
theorem gpaL_s26 {Fc : Fence} (hF : Wide Fc) {nC : Nat} (gP bG oG gX N cP cG np cX r : Nat) (T T0 : ByteArray) (Q : Exit → Act → World → Prop) (df : List Deferred) (w0 : World)
    (hi : r + 1 < N) (hN : N ≤ 4000) (h1 : w0.cell? ⟨gP, (r + 1) * 2, none⟩ = some (.string T)) (h2 : w0.cell? ⟨gP, (r + 1) * 2 + 1, none⟩ = some (.slice (some ⟨gX, 0, none⟩) np cX)) (h3 : w0.cell? ⟨bG, oG + (r + 1), none⟩ = some (.string T)) (hnp : 0 < np) (h0 : w0.cell? ⟨gP, r * 2, none⟩ = some (.string T0)) (hless : Op.bytesLess T0.toList T.toList = true)
    (x : Act) (w : World) (hB : Below w0.heap.size w0 w) (hdef : x.defers = df) (u7 : x.tmps.getD 7 undef = .slice (some ⟨gP, 0, none⟩) N cP) (u8 : x.tmps.getD 8 undef = .slice (some ⟨bG, oG, none⟩) N cG) (u10 : x.tmps.getD 10 undef = .int .i64 ((r : Int) + 1))
    (p25 : gpaL_val gP bG oG gX N cP cG np cX r T T0 25 (x.tmps.getD 62 undef) w)
    (p22 : gpaL_val gP bG oG gX N cP cG np cX r T T0 22 (x.tmps.getD 59 undef) w)
    : wpOpIn Fc nC Try.prog gpa_ops Q 26 (fun a' w' => ∃ v, a' = x.put (some 63) v ∧ (v = .string T) ∧ Below w.heap.size w w') x w := by
  have ho : gpa_ops[26]? = some gpa_o26 := rfl
  simp only [Array.getD_eq_getD_getElem?] at u7 u8 u10
  have q25 : x.tmps.getD 62 undef = .pointer (some ⟨bG, oG + (r + 1), none⟩) := p25
  have q22 : x.tmps.getD 59 undef = .bool false := p22
  simp only [Array.getD_eq_getD_getElem?] at q25 q22
  have e22 : (gpa_ops[22]?.bind fun x => x.dst) = some 59 := rfl
  have g22 := get_someT q22 (fun h => by cases h)
  have m := cell_thru h3 hB
  refine wpOpIn_stepT hF ho (fun K hK => ?_)
  clear ho
  rw [Oper.semAt_plain Fc _ _ (by intro c h; cases h)]
  simp only [gpa_o26]
  go_simp
  exact hK _ _ ⟨_, act_putD x hdef _ _, rfl, Below.refl _ _⟩
set_option maxRecDepth 100000 in
set_option maxHeartbeats 2000000 in
theorem gpaL_s27 {Fc : Fence} (hF : Wide Fc) {nC : Nat} (gP bG oG gX N cP cG np cX r : Nat) (T T0 : ByteArray) (Q : Exit → Act → World → Prop) (df : List Deferred) (w0 : World)
    (hi : r + 1 < N) (hN : N ≤ 4000) (h1 : w0.cell? ⟨gP, (r + 1) * 2, none⟩ = some (.string T)) (h2 : w0.cell? ⟨gP, (r + 1) * 2 + 1, none⟩ = some (.slice (some ⟨gX, 0, none⟩) np cX)) (h3 : w0.cell? ⟨bG, oG + (r + 1), none⟩ = some (.string T)) (hnp : 0 < np) (h0 : w0.cell? ⟨gP, r * 2, none⟩ = some (.string T0)) (hless : Op.bytesLess T0.toList T.toList = true)
    (x : Act) (w : World) (hB : Below w0.heap.size w0 w) (hdef : x.defers = df) (u7 : x.tmps.getD 7 undef = .slice (some ⟨gP, 0, none⟩) N cP) (u8 : x.tmps.getD 8 undef = .slice (some ⟨bG, oG, none⟩) N cG) (u10 : x.tmps.getD 10 undef = .int .i64 ((r : Int) + 1))
    (p22 : gpaL_val gP bG oG gX N cP cG np cX r T T0 22 (x.tmps.getD 59 undef) w)
    : wpOpIn Fc nC Try.prog gpa_ops Q 27 (fun a' w' => ∃ v, a' = x.put (some 64) v ∧ (v = .slice (some ⟨gP, 0, none⟩) N cP) ∧ Below w.heap.size w w') x w := by
  have ho : gpa_ops[27]? = some gpa_o27 := rfl
  simp only [Array.getD_eq_getD_getElem?] at u7 u8 u10
  have q22 : x.tmps.getD 59 undef = .bool false := p22
  simp only [Array.getD_eq_getD_getElem?] at q22
  have e22 : (gpa_ops[22]?.bind fun x => x.dst) = some 59 := rfl
  have g22 := get_someT q22 (fun h => by cases h)
  refine wpOpIn_stepT hF ho (fun K hK => ?_)
  clear ho
  rw [Oper.semAt_plain Fc _ _ (by intro c h; cases h)]
  simp only [gpa_o27]
  go_simp
  exact hK _ _ ⟨_, act_putD x hdef _ _, rfl, Below.refl _ _⟩
set_option maxRecDepth 100000 in
set_option maxHeartbeats 2000000 in
theorem gpaL_s28 {Fc : Fence} (hF : Wide Fc) {nC : Nat} (gP bG oG gX N cP cG np cX r : Nat) (T T0 : ByteArray) (Q : Exit → Act → World → Prop) (df : List Deferred) (w0 : World)
    (hi : r + 1 < N) (hN : N ≤ 4000) (h1 : w0.cell? ⟨gP, (r + 1) * 2, none⟩ = some (.string T)) (h2 : w0.cell? ⟨gP, (r + 1) * 2 + 1, none⟩ = some (.slice (some ⟨gX, 0, none⟩) np cX)) (h3 : w0.cell? ⟨bG, oG + (r + 1), none⟩ = some (.string T)) (hnp : 0 < np) (h0 : w0.cell? ⟨gP, r * 2, none⟩ = some (.string T0)) (hless : Op.bytesLess T0.toList T.toList = true)
    (x : Act) (w : World) (hB : Below w0.heap.size w0 w) (hdef : x.defers = df) (u7 : x.tmps.getD 7 undef = .slice (some ⟨gP, 0, none⟩) N cP) (u8 : x.tmps.getD 8 undef = .slice (some ⟨bG, oG, none⟩) N cG) (u10 : x.tmps.getD 10 undef = .int .i64 ((r : Int) + 1))
    (p22 : gpaL_val gP bG oG gX N cP cG np cX r T T0 22 (x.tmps.getD 59 undef) w)
    : wpOpIn Fc nC Try.prog gpa_ops Q 28 (fun a' w' => ∃ v, a' = x.put (some 65) v ∧ (v = .int .i64 ((r : Int) + 1)) ∧ Below w.heap.size w w') x w := by
  have ho : gpa_ops[28]? = some gpa_o28 := rfl
  simp only [Array.getD_eq_getD_getElem?] at u7 u8 u10
  have q22 : x.tmps.getD 59 undef = .bool false := p22
  simp only [Array.getD_eq_getD_getElem?] at q22
  have e22 : (gpa_ops[22]?.bind fun x => x.dst) = some 59 := rfl
  have g22 := get_someT q22 (fun h => by cases h)
  refine wpOpIn_stepT hF ho (fun K hK => ?_)
  clear ho
  rw [Oper.semAt_plain Fc _ _ (by intro c h; cases h)]
  simp only [gpa_o28]
  go_simp
  exact hK _ _ ⟨_, act_putD x hdef _ _, rfl, Below.refl _ _⟩
set_option maxRecDepth 100000 in
set_option maxHeartbeats 2000000 in
theorem gpaL_s29 {Fc : Fence} (hF : Wide Fc) {nC : Nat} (gP bG oG gX N cP cG np cX r : Nat) (T T0 : ByteArray) (Q : Exit → Act → World → Prop) (df : List Deferred) (w0 : World)
    (hi : r + 1 < N) (hN : N ≤ 4000) (h1 : w0.cell? ⟨gP, (r + 1) * 2, none⟩ = some (.string T)) (h2 : w0.cell? ⟨gP, (r + 1) * 2 + 1, none⟩ = some (.slice (some ⟨gX, 0, none⟩) np cX)) (h3 : w0.cell? ⟨bG, oG + (r + 1), none⟩ = some (.string T)) (hnp : 0 < np) (h0 : w0.cell? ⟨gP, r * 2, none⟩ = some (.string T0)) (hless : Op.bytesLess T0.toList T.toList = true)
    (x : Act) (w : World) (hB : Below w0.heap.size w0 w) (hdef : x.defers = df) (u7 : x.tmps.getD 7 undef = .slice (some ⟨gP, 0, none⟩) N cP) (u8 : x.tmps.getD 8 undef = .slice (some ⟨bG, oG, none⟩) N cG) (u10 : x.tmps.getD 10 undef = .int .i64 ((r : Int) + 1))
    (p27 : gpaL_val gP bG oG gX N cP cG np cX r T T0 27 (x.tmps.getD 64 undef) w)
    (p28 : gpaL_val gP bG oG gX N cP cG np cX r T T0 28 (x.tmps.getD 65 undef) w)
    (p22 : gpaL_val gP bG oG gX N cP cG np cX r T T0 22 (x.tmps.getD 59 undef) w)
    : wpOpIn Fc nC Try.prog gpa_ops Q 29 (fun a' w' => ∃ v, a' = x.put (some 66) v ∧ (v = .pointer (some ⟨gP, (r + 1) * 2, none⟩)) ∧ Below w.heap.size w w') x w := by
  have ho : gpa_ops[29]? = some gpa_o29 := rfl
  simp only [Array.getD_eq_getD_getElem?] at u7 u8 u10
  have q27 : x.tmps.getD 64 undef = .slice (some ⟨gP, 0, none⟩) N cP := p27
  have q28 : x.tmps.getD 65 undef = .int .i64 ((r : Int) + 1) := p28
  have q22 : x.tmps.getD 59 undef = .bool false := p22
  simp only [Array.getD_eq_getD_getElem?] at q27 q28 q22
  have e22 : (gpa_ops[22]?.bind fun x => x.dst) = some 59 := rfl
  have g22 := get_someT q22 (fun h => by cases h)
  have i0 : (0 : Int) ≤ (r : Int) + 1 := by omega
  have i1 : (r : Int) + 1 < (N : Int) := by omega
  refine wpOpIn_stepT hF ho (fun K hK => ?_)
  clear ho
  rw [Oper.semAt_plain Fc _ _ (by intro c h; cases h)]
  simp only [gpa_o29]
  go_simp
  exact hK _ _ ⟨_, act_putD x hdef _ _, rfl, Below.refl _ _⟩
set_option maxRecDepth 100000 in
set_option maxHeartbeats 2000000 in
theorem gpaL_s30 {Fc : Fence} (hF : Wide Fc) {nC : Nat} (gP bG oG gX N cP cG np cX r : Nat) (T T0 : ByteArray) (Q : Exit → Act → World → Prop) (df : List Deferred) (w0 : World)
    (hi : r + 1 < N) (hN : N ≤ 4000) (h1 : w0.cell? ⟨gP, (r + 1) * 2, none⟩ = some (.string T)) (h2 : w0.cell? ⟨gP, (r + 1) * 2 + 1, none⟩ = some (.slice (some ⟨gX, 0, none⟩) np cX)) (h3 : w0.cell? ⟨bG, oG + (r + 1), none⟩ = some (.string T)) (hnp : 0 < np) (h0 : w0.cell? ⟨gP, r * 2, none⟩ = some (.string T0)) (hless : Op.bytesLess T0.toList T.toList = true)
    (x : Act) (w : World) (hB : Below w0.heap.size w0 w) (hdef : x.defers = df) (u7 : x.tmps.getD 7 undef = .slice (some ⟨gP, 0, none⟩) N cP) (u8 : x.tmps.getD 8 undef = .slice (some ⟨bG, oG, none⟩) N cG) (u10 : x.tmps.getD 10 undef = .int .i64 ((r : Int) + 1))
    (p29 : gpaL_val gP bG oG gX N cP cG np cX r T T0 29 (x.tmps.getD 66 undef) w)
    (p22 : gpaL_val gP bG oG gX N cP cG np cX r T T0 22 (x.tmps.getD 59 undef) w)
    : wpOpIn Fc nC Try.prog gpa_ops Q 30 (fun a' w' => ∃ v, a' = x.put (some 67) v ∧ (v = .pointer (some ⟨gP, (r + 1) * 2, none⟩)) ∧ Below w.heap.size w w') x w := by
  have ho : gpa_ops[30]? = some gpa_o30 := rfl
  simp only [Array.getD_eq_getD_getElem?] at u7 u8 u10
  have q29 : x.tmps.getD 66 undef = .pointer (some ⟨gP, (r + 1) * 2, none⟩) := p29
  have q22 : x.tmps.getD 59 undef = .bool false := p22
  simp only [Array.getD_eq_getD_getElem?] at q29 q22
  have e22 : (gpa_ops[22]?.bind fun x => x.dst) = some 59 := rfl
  have g22 := get_someT q22 (fun h => by cases h)
  refine wpOpIn_stepT hF ho (fun K hK => ?_)
  clear ho
  rw [Oper.semAt_plain Fc _ _ (by intro c h; cases h)]
  simp only [gpa_o30]
  go_simp
  exact hK _ _ ⟨_, act_putD x hdef _ _, rfl, Below.refl _ _⟩
set_option maxRecDepth 100000 in
set_option maxHeartbeats 2000000 in
theorem gpaL_s31 {Fc : Fence} (hF : Wide Fc) {nC : Nat} (gP bG oG gX N cP cG np cX r : Nat) (T T0 : ByteArray) (Q : Exit → Act → World → Prop) (df : List Deferred) (w0 : World)
    (hi : r + 1 < N) (hN : N ≤ 4000) (h1 : w0.cell? ⟨gP, (r + 1) * 2, none⟩ = some (.string T)) (h2 : w0.cell? ⟨gP, (r + 1) * 2 + 1, none⟩ = some (.slice (some ⟨gX, 0, none⟩) np cX)) (h3 : w0.cell? ⟨bG, oG + (r + 1), none⟩ = some (.string T)) (hnp : 0 < np) (h0 : w0.cell? ⟨gP, r * 2, none⟩ = some (.string T0)) (hless : Op.bytesLess T0.toList T.toList = true)
    (x : Act) (w : World) (hB : Below w0.heap.size w0 w) (hdef : x.defers = df) (u7 : x.tmps.getD 7 undef = .slice (some ⟨gP, 0, none⟩) N cP) (u8 : x.tmps.getD 8 undef = .slice (some ⟨bG, oG, none⟩) N cG) (u10 : x.tmps.getD 10 undef = .int .i64 ((r : Int) + 1))
    (p30 : gpaL_val gP bG oG gX N cP cG np cX r T T0 30 (x.tmps.getD 67 undef) w)
    (p22 : gpaL_val gP bG oG gX N cP cG np cX r T T0 22 (x.tmps.getD 59 undef) w)
    : wpOpIn Fc nC Try.prog gpa_ops Q 31 (fun a' w' => ∃ v, a' = x.put (some 68) v ∧ (v = .string T) ∧ Below w.heap.size w w') x w := by
  have ho : gpa_ops[31]? = some gpa_o31 := rfl
  simp only [Array.getD_eq_getD_getElem?] at u7 u8 u10
  have q30 : x.tmps.getD 67 undef = .pointer (some ⟨gP, (r + 1) * 2, none⟩) := p30
  have q22 : x.tmps.getD 59 undef = .bool false := p22
  simp only [Array.getD_eq_getD_getElem?] at q30 q22
  have e22 : (gpa_ops[22]?.bind fun x => x.dst) = some 59 := rfl
  have g22 := get_someT q22 (fun h => by cases h)
  have m := cell_thru h1 hB
  refine wpOpIn_stepT hF ho (fun K hK => ?_)
  clear ho
  rw [Oper.semAt_plain Fc _ _ (by intro c h; cases h)]
  simp only [gpa_o31]
  go_simp
  exact hK _ _ ⟨_, act_putD x hdef _ _, rfl, Below.refl _ _⟩
set_option maxRecDepth 100000 in
set_option maxHeartbeats 2000000 in
theorem gpaL_s32 {Fc : Fence} (hF : Wide Fc) {nC : Nat} (gP bG oG gX N cP cG np cX r : Nat) (T T0 : ByteArray) (Q : Exit → Act → World → Prop) (df : List Deferred) (w0 : World)
    (hi : r + 1 < N) (hN : N ≤ 4000) (h1 : w0.cell? ⟨gP, (r + 1) * 2, none⟩ = some (.string T)) (h2 : w0.cell? ⟨gP, (r + 1) * 2 + 1, none⟩ = some (.slice (some ⟨gX, 0, none⟩) np cX)) (h3 : w0.cell? ⟨bG, oG + (r + 1), none⟩ = some (.string T)) (hnp : 0 < np) (h0 : w0.cell? ⟨gP, r * 2, none⟩ = some (.string T0)) (hless : Op.bytesLess T0.toList T.toList = true)
    (x : Act) (w : World) (hB : Below w0.heap.size w0 w) (hdef : x.defers = df) (u7 : x.tmps.getD 7 undef = .slice (some ⟨gP, 0, none⟩) N cP) (u8 : x.tmps.getD 8 undef = .slice (some ⟨bG, oG, none⟩) N cG) (u10 : x.tmps.getD 10 undef = .int .i64 ((r : Int) + 1))
    (p26 : gpaL_val gP bG oG gX N cP cG np cX r T T0 26 (x.tmps.getD 63 undef) w)
    (p31 : gpaL_val gP bG oG gX N cP cG np cX r T T0 31 (x.tmps.getD 68 undef) w)
    (p22 : gpaL_val gP bG oG gX N cP cG np cX r T T0 22 (x.tmps.getD 59 undef) w)
    : wpOpIn Fc nC Try.prog gpa_ops Q 32 (fun a' w' => ∃ v, a' = x.put (some 69) v ∧ (v = .bool false) ∧ Below w.heap.size w w') x w := by
  have ho : gpa_ops[32]? = some gpa_o32 := rfl
  simp only [Array.getD_eq_getD_getElem?] at u7 u8 u10
  have q26 : x.tmps.getD 63 undef = .string T := p26
  have q31 : x.tmps.getD 68 undef = .string T := p31
  have q22 : x.tmps.getD 59 undef = .bool false := p22
  simp only [Array.getD_eq_getD_getElem?] at q26 q31 q22
  have e22 : (gpa_ops[22]?.bind fun x => x.dst) = some 59 := rfl
  have g22 := get_someT q22 (fun h => by cases h)
  have m : (T.toList == T.toList) = true := beq_self_eq_true _
  refine wpOpIn_stepT hF ho (fun K hK => ?_)
  clear ho
  rw [Oper.semAt_plain Fc _ _ (by intro c h; cases h)]
  simp only [gpa_o32]
  go_simp
  exact hK _ _ ⟨_, act_putD x hdef _ _, rfl, Below.refl _ _⟩
set_option maxRecDepth 100000 in
set_option maxHeartbeats 2000000 in
theorem gpaL_s33 {Fc : Fence} (hF : Wide Fc) {nC : Nat} (gP bG oG gX N cP cG np cX r : Nat) (T T0 : ByteArray) (Q : Exit → Act → World → Prop) (df : List Deferred) (w0 : World)
    (hi : r + 1 < N) (hN : N ≤ 4000) (h1 : w0.cell? ⟨gP, (r + 1) * 2, none⟩ = some (.string T)) (h2 : w0.cell? ⟨gP, (r + 1) * 2 + 1, none⟩ = some (.slice (some ⟨gX, 0, none⟩) np cX)) (h3 : w0.cell? ⟨bG, oG + (r + 1), none⟩ = some (.string T)) (hnp : 0 < np) (h0 : w0.cell? ⟨gP, r * 2, none⟩ = some (.string T0)) (hless : Op.bytesLess T0.toList T.toList = true)
    (x : Act) (w : World) (hB : Below w0.heap.size w0 w) (hdef : x.defers = df) (u7 : x.tmps.getD 7 undef = .slice (some ⟨gP, 0, none⟩) N cP) (u8 : x.tmps.getD 8 undef = .slice (some ⟨bG, oG, none⟩) N cG) (u10 : x.tmps.getD 10 undef = .int .i64 ((r : Int) + 1))
    (p22 : gpaL_val gP bG oG gX N cP cG np cX r T T0 22 (x.tmps.getD 59 undef) w)
    (p32 : gpaL_val gP bG oG gX N cP cG np cX r T T0 32 (x.tmps.getD 69 undef) w)
    : wpOpIn Fc nC Try.prog gpa_ops Q 33 (fun a' w' => ∃ v, a' = x.put (some 70) v ∧ (v = .bool false) ∧ Below w.heap.size w w') x w := by
  have ho : gpa_ops[33]? = some gpa_o33 := rfl
  simp only [Array.getD_eq_getD_getElem?] at u7 u8 u10
  have q22 : x.tmps.getD 59 undef = .bool false := p22
  have q32 : x.tmps.getD 69 undef = .bool false := p32
  simp only [Array.getD_eq_getD_getElem?] at q22 q32
  refine wpOpIn_plain ho rfl (oper_inK hF.fn (fun K hK => ?_))
  clear ho
  rw [Oper.semAt_plain Fc _ _ (by intro c h; cases h)]
  simp only [gpa_o33]
  go_simp
  exact hK _ _ ⟨_, act_putD x hdef _ _, rfl, Below.refl _ _⟩
set_option maxRecDepth 100000 in
set_option maxHeartbeats 2000000 in
theorem gpaL_s34 {Fc : Fence} (hF : Wide Fc) {nC : Nat} (gP bG oG gX N cP cG np cX r : Nat) (T T0 : ByteArray) (Q : Exit → Act → World → Prop) (df : List Deferred) (w0 : World)
    (hi : r + 1 < N) (hN : N ≤ 4000) (h1 : w0.cell? ⟨gP, (r + 1) * 2, none⟩ = some (.string T)) (h2 : w0.cell? ⟨gP, (r + 1) * 2 + 1, none⟩ = some (.slice (some ⟨gX, 0, none⟩) np cX)) (h3 : w0.cell? ⟨bG, oG + (r + 1), none⟩ = some (.string T)) (hnp : 0 < np) (h0 : w0.cell? ⟨gP, r * 2, none⟩ = some (.string T0)) (hless : Op.bytesLess T0.toList T.toList = true)
    (x : Act) (w : World) (hB : Below w0.heap.size w0 w) (hdef : x.defers = df) (u7 : x.tmps.getD 7 undef = .slice (some ⟨gP, 0, none⟩) N cP) (u8 : x.tmps.getD 8 undef = .slice (some ⟨bG, oG, none⟩) N cG) (u10 : x.tmps.getD 10 undef = .int .i64 ((r : Int) + 1))
    (p33 : gpaL_val gP bG oG gX N cP cG np cX r T T0 33 (x.tmps.getD 70 undef) w)
    : wpOpIn Fc nC Try.prog gpa_ops Q 34 (fun a' w' => ∃ v, a' = x.put (some 71) v ∧ (v = .bool false) ∧ Below w.heap.size w w') x w := by
  have ho : gpa_ops[34]? = some gpa_o34 := rfl
  simp only [Array.getD_eq_getD_getElem?] at u7 u8 u10
  have q33 : x.tmps.getD 70 undef = .bool false := p33
  simp only [Array.getD_eq_getD_getElem?] at q33
  refine wpOpIn_plain ho rfl (oper_inK hF.fn (fun K hK => ?_))
  clear ho
  rw [Oper.semAt_plain Fc _ _ (by intro c h; cases h)]
  simp only [gpa_o34]
  go_simp
  exact hK _ _ ⟨_, act_putD x hdef _ _, rfl, Below.refl _ _⟩
set_option maxRecDepth 100000 in
set_option maxHeartbeats 2000000 in
theorem gpaL_s35 {Fc : Fence} (hF : Wide Fc) {nC : Nat} (gP bG oG gX N cP cG np cX r : Nat) (T T0 : ByteArray) (Q : Exit → Act → World → Prop) (df : List Deferred) (w0 : World)
    (hi : r + 1 < N) (hN : N ≤ 4000) (h1 : w0.cell? ⟨gP, (r + 1) * 2, none⟩ = some (.string T)) (h2 : w0.cell? ⟨gP, (r + 1) * 2 + 1, none⟩ = some (.slice (some ⟨gX, 0, none⟩) np cX)) (h3 : w0.cell? ⟨bG, oG + (r + 1), none⟩ = some (.string T)) (hnp : 0 < np) (h0 : w0.cell? ⟨gP, r * 2, none⟩ = some (.string T0)) (hless : Op.bytesLess T0.toList T.toList = true)
    (x : Act) (w : World) (hB : Below w0.heap.size w0 w) (hdef : x.defers = df) (u7 : x.tmps.getD 7 undef = .slice (some ⟨gP, 0, none⟩) N cP) (u8 : x.tmps.getD 8 undef = .slice (some ⟨bG, oG, none⟩) N cG) (u10 : x.tmps.getD 10 undef = .int .i64 ((r : Int) + 1))
    (p34 : gpaL_val gP bG oG gX N cP cG np cX r T T0 34 (x.tmps.getD 71 undef) w)
    : wpOpIn Fc nC Try.prog gpa_ops Q 35 (fun a' w' => ∃ v, a' = x.put (some 72) v ∧ (v = .slice (some ⟨gP, 0, none⟩) N cP) ∧ Below w.heap.size w w') x w := by
  have ho : gpa_ops[35]? = some gpa_o35 := rfl
  simp only [Array.getD_eq_getD_getElem?] at u7 u8 u10
  have q34 : x.tmps.getD 71 undef = .bool false := p34
  simp only [Array.getD_eq_getD_getElem?] at q34
  have e34 : (gpa_ops[34]?.bind fun x => x.dst) = some 71 := rfl
  have g34 := get_someT q34 (fun h => by cases h)
  refine wpOpIn_stepT hF ho (fun K hK => ?_)
  clear ho
  rw [Oper.semAt_plain Fc _ _ (by intro c h; cases h)]
  simp only [gpa_o35]
  go_simp
  exact hK _ _ ⟨_, act_putD x hdef _ _, rfl, Below.refl _ _⟩
set_option maxRecDepth 100000 in
set_option maxHeartbeats 2000000 in
theorem gpaL_s36 {Fc : Fence} (hF : Wide Fc) {nC : Nat} (gP bG oG gX N cP cG np cX r : Nat) (T T0 : ByteArray) (Q : Exit → Act → World → Prop) (df : List Deferred) (w0 : World)
    (hi : r + 1 < N) (hN : N ≤ 4000) (h1 : w0.cell? ⟨gP, (r + 1) * 2, none⟩ = some (.string T)) (h2 : w0.cell? ⟨gP, (r + 1) * 2 + 1, none⟩ = some (.slice (some ⟨gX, 0, none⟩) np cX)) (h3 : w0.cell? ⟨bG, oG + (r + 1), none⟩ = some (.string T)) (hnp : 0 < np) (h0 : w0.cell? ⟨gP, r * 2, none⟩ = some (.string T0)) (hless : Op.bytesLess T0.toList T.toList = true)
    (x : Act) (w : World) (hB : Below w0.heap.size w0 w) (hdef : x.defers = df) (u7 : x.tmps.getD 7 undef = .slice (some ⟨gP, 0, none⟩) N cP) (u8 : x.tmps.getD 8 undef = .slice (some ⟨bG, oG, none⟩) N cG) (u10 : x.tmps.getD 10 undef = .int .i64 ((r : Int) + 1))
    (p34 : gpaL_val gP bG oG gX N cP cG np cX r T T0 34 (x.tmps.getD 71 undef) w)
    : wpOpIn Fc nC Try.prog gpa_ops Q 36 (fun a' w' => ∃ v, a' = x.put (some 73) v ∧ (v = .int .i64 ((r : Int) + 1)) ∧ Below w.heap.size w w') x w := by
  have ho : gpa_ops[36]? = some gpa_o36 := rfl
  simp only [Array.getD_eq_getD_getElem?] at u7 u8 u10
  have q34 : x.tmps.getD 71 undef = .bool false := p34
  simp only [Array.getD_eq_getD_getElem?] at q34
  have e34 : (gpa_ops[34]?.bind fun x => x.dst) = some 71 := rfl
  have g34 := get_someT q34 (fun h => by cases h)
  refine wpOpIn_stepT hF ho (fun K hK => ?_)
  clear ho
  rw [Oper.semAt_plain Fc _ _ (by intro c h; cases h)]
  simp only [gpa_o36]
  go_simp
  exact hK _ _ ⟨_, act_putD x hdef _ _, rfl, Below.refl _ _⟩
set_option maxRecDepth 100000 in
set_option maxHeartbeats 2000000 in
theorem gpaL_s37 {Fc : Fence} (hF : Wide Fc) {nC : Nat} (gP bG oG gX N cP cG np cX r : Nat) (T T0 : ByteArray) (Q : Exit → Act → World → Prop) (df : List Deferred) (w0 : World)
    (hi : r + 1 < N) (hN : N ≤ 4000) (h1 : w0.cell? ⟨gP, (r + 1) * 2, none⟩ = some (.string T)) (h2 : w0.cell? ⟨gP, (r + 1) * 2 + 1, none⟩ = some (.slice (some ⟨gX, 0, none⟩) np cX)) (h3 : w0.cell? ⟨bG, oG + (r + 1), none⟩ = some (.string T)) (hnp : 0 < np) (h0 : w0.cell? ⟨gP, r * 2, none⟩ = some (.string T0)) (hless : Op.bytesLess T0.toList T.toList = true)
    (x : Act) (w : World) (hB : Below w0.heap.size w0 w) (hdef : x.defers = df) (u7 : x.tmps.getD 7 undef = .slice (some ⟨gP, 0, none⟩) N cP) (u8 : x.tmps.getD 8 undef = .slice (some ⟨bG, oG, none⟩) N cG) (u10 : x.tmps.getD 10 undef = .int .i64 ((r : Int) + 1))
    (p35 : gpaL_val gP bG oG gX N cP cG np cX r T T0 35 (x.tmps.getD 72 undef) w)
    (p36 : gpaL_val gP bG oG gX N cP cG np cX r T T0 36 (x.tmps.getD 73 undef) w)
    (p34 : gpaL_val gP bG oG gX N cP cG np cX r T T0 34 (x.tmps.getD 71 undef) w)
    : wpOpIn Fc nC Try.prog gpa_ops Q 37 (fun a' w' => ∃ v, a' = x.put (some 74) v ∧ (v = .pointer (some ⟨gP, (r + 1) * 2, none⟩)) ∧ Below w.heap.size w w') x w := by
  have ho : gpa_ops[37]? = some gpa_o37 := rfl
  simp only [Array.getD_eq_getD_getElem?] at u7 u8 u10
  have q35 : x.tmps.getD 72 undef = .slice (some ⟨gP, 0, none⟩) N cP := p35
  have q36 : x.tmps.getD 73 undef = .int .i64 ((r : Int) + 1) := p36
  have q34 : x.tmps.getD 71 undef = .bool false := p34
  simp only [Array.getD_eq_getD_getElem?] at q35 q36 q34
  have e34 : (gpa_ops[34]?.bind fun x => x.dst) = some 71 := rfl
  have g34 := get_someT q34 (fun h => by cases h)
  have i0 : (0 : Int) ≤ (r : Int) + 1 := by omega
  have i1 : (r : Int) + 1 < (N : Int) := by omega
  refine wpOpIn_stepT hF ho (fun K hK => ?_)
  clear ho
  rw [Oper.semAt_plain Fc _ _ (by intro c h; cases h)]
  simp only [gpa_o37]
  go_simp
  exact hK _ _ ⟨_, act_putD x hdef _ _, rfl, Below.refl _ _⟩
set_option maxRecDepth 100000 in
set_option maxHeartbeats 2000000 in
theorem gpaL_s38 {Fc : Fence} (hF : Wide Fc) {nC : Nat} (gP bG oG gX N cP cG np cX r : Nat) (T T0 : ByteArray) (Q : Exit → Act → World → Prop) (df : List Deferred) (w0 : World)
    (hi : r + 1 < N) (hN : N ≤ 4000) (h1 : w0.cell? ⟨gP, (r + 1) * 2, none⟩ = some (.string T)) (h2 : w0.cell? ⟨gP, (r + 1) * 2 + 1, none⟩ = some (.slice (some ⟨gX, 0, none⟩) np cX)) (h3 : w0.cell? ⟨bG, oG + (r + 1), none⟩ = some (.string T)) (hnp : 0 < np) (h0 : w0.cell? ⟨gP, r * 2, none⟩ = some (.string T0)) (hless : Op.bytesLess T0.toList T.toList = true)
    (x : Act) (w : World) (hB : Below w0.heap.size w0 w) (hdef : x.defers = df) (u7 : x.tmps.getD 7 undef = .slice (some ⟨gP, 0, none⟩) N cP) (u8 : x.tmps.getD 8 undef = .slice (some ⟨bG, oG, none⟩) N cG) (u10 : x.tmps.getD 10 undef = .int .i64 ((r : Int) + 1))
    (p37 : gpaL_val gP bG oG gX N cP cG np cX r T T0 37 (x.tmps.getD 74 undef) w)
    (p34 : gpaL_val gP bG oG gX N cP cG np cX r T T0 34 (x.tmps.getD 71 undef) w)
    : wpOpIn Fc nC Try.prog gpa_ops Q 38 (fun a' w' => ∃ v, a' = x.put (some 75) v ∧ (v = .pointer (some ⟨gP, (r + 1) * 2 + 1, none⟩)) ∧ Below w.heap.size w w') x w := by
  have ho : gpa_ops[38]? = some gpa_o38 := rfl
  simp only [Array.getD_eq_getD_getElem?] at u7 u8 u10
  have q37 : x.tmps.getD 74 undef = .pointer (some ⟨gP, (r + 1) * 2, none⟩) := p37
  have q34 : x.tmps.getD 71 undef = .bool false := p34
  simp only [Array.getD_eq_getD_getElem?] at q37 q34
  have e34 : (gpa_ops[34]?.bind fun x => x.dst) = some 71 := rfl
  have g34 := get_someT q34 (fun h => by cases h)
  refine wpOpIn_stepT hF ho (fun K hK => ?_)
  clear ho
  rw [Oper.semAt_plain Fc _ _ (by intro c h; cases h)]
  simp only [gpa_o38]
  go_simp
  exact hK _ _ ⟨_, act_putD x hdef _ _, rfl, Below.refl _ _⟩
set_option maxRecDepth 100000 in
set_option maxHeartbeats 2000000 in
theorem gpaL_s39 {Fc : Fence} (hF : Wide Fc) {nC : Nat} (gP bG oG gX N cP cG np cX r : Nat) (T T0 : ByteArray) (Q : Exit → Act → World → Prop) (df : List Deferred) (w0 : World)
    (hi : r + 1 < N) (hN : N ≤ 4000) (h1 : w0.cell? ⟨gP, (r + 1) * 2, none⟩ = some (.string T)) (h2 : w0.cell? ⟨gP, (r + 1) * 2 + 1, none⟩ = some (.slice (some ⟨gX, 0, none⟩) np cX)) (h3 : w0.cell? ⟨bG, oG + (r + 1), none⟩ = some (.string T)) (hnp : 0 < np) (h0 : w0.cell? ⟨gP, r * 2, none⟩ = some (.string T0)) (hless : Op.bytesLess T0.toList T.toList = true)
    (x : Act) (w : World) (hB : Below w0.heap.size w0 w) (hdef : x.defers = df) (u7 : x.tmps.getD 7 undef = .slice (some ⟨gP, 0, none⟩) N cP) (u8 : x.tmps.getD 8 undef = .slice (some ⟨bG, oG, none⟩) N cG) (u10 : x.tmps.getD 10 undef = .int .i64 ((r : Int) + 1))
    (p38 : gpaL_val gP bG oG gX N cP cG np cX r T T0 38 (x.tmps.getD 75 undef) w)
    (p34 : gpaL_val gP bG oG gX N cP cG np cX r T T0 34 (x.tmps.getD 71 undef) w)
    : wpOpIn Fc nC Try.prog gpa_ops Q 39 (fun a' w' => ∃ v, a' = x.put (some 76) v ∧ (v = .slice (some ⟨gX, 0, none⟩) np cX) ∧ Below w.heap.size w w') x w := by
  have ho : gpa_ops[39]? = some gpa_o39 := rfl
  simp only [Array.getD_eq_getD_getElem?] at u7 u8 u10
  have q38 : x.tmps.getD 75 undef = .pointer (some ⟨gP, (r + 1) * 2 + 1, none⟩) := p38
  have q34 : x.tmps.getD 71 undef = .bool false := p34
  simp only [Array.getD_eq_getD_getElem?] at q38 q34
  have e34 : (gpa_ops[34]?.bind fun x => x.dst) = some 71 := rfl
  have g34 := get_someT q34 (fun h => by cases h)
  have m := cell_thru h2 hB
  refine wpOpIn_stepT hF ho (fun K hK => ?_)
  clear ho
  rw [Oper.semAt_plain Fc _ _ (by intro c h; cases h)]
  simp only [gpa_o39]
  go_simp
  exact hK _ _ ⟨_, act_putD x hdef _ _, rfl, Below.refl _ _⟩
set_option maxRecDepth 100000 in
set_option maxHeartbeats 2000000 in
theorem gpaL_s40 {Fc : Fence} (hF : Wide Fc) {nC : Nat} (gP bG oG gX N cP cG np cX r : Nat) (T T0 : ByteArray) (Q : Exit → Act → World → Prop) (df : List Deferred) (w0 : World)
    (hi : r + 1 < N) (hN : N ≤ 4000) (h1 : w0.cell? ⟨gP, (r + 1) * 2, none⟩ = some (.string T)) (h2 : w0.cell? ⟨gP, (r + 1) * 2 + 1, none⟩ = some (.slice (some ⟨gX, 0, none⟩) np cX)) (h3 : w0.cell? ⟨bG, oG + (r + 1), none⟩ = some (.string T)) (hnp : 0 < np) (h0 : w0.cell? ⟨gP, r * 2, none⟩ = some (.string T0)) (hless : Op.bytesLess T0.toList T.toList = true)
    (x : Act) (w : World) (hB : Below w0.heap.size w0 w) (hdef : x.defers = df) (u7 : x.tmps.getD 7 undef = .slice (some ⟨gP, 0, none⟩) N cP) (u8 : x.tmps.getD 8 undef = .slice (some ⟨bG, oG, none⟩) N cG) (u10 : x.tmps.getD 10 undef = .int .i64 ((r : Int) + 1))
    (p39 : gpaL_val gP bG oG gX N cP cG np cX r T T0 39 (x.tmps.getD 76 undef) w)
    (p34 : gpaL_val gP bG oG gX N cP cG np cX r T T0 34 (x.tmps.getD 71 undef) w)
    : wpOpIn Fc nC Try.prog gpa_ops Q 40 (fun a' w' => ∃ v, a' = x.put (some 77) v ∧ (v = .int .i64 (np : Nat)) ∧ Below w.heap.size w w') x w := by
  have ho : gpa_ops[40]? = some gpa_o40 := rfl
  simp only [Array.getD_eq_getD_getElem?] at u7 u8 u10
  have q39 : x.tmps.getD 76 undef = .slice (some ⟨gX, 0, none⟩) np cX := p39
  have q34 : x.tmps.getD 71 undef = .bool false := p34
  simp only [Array.getD_eq_getD_getElem?] at q39 q34
  have e34 : (gpa_ops[34]?.bind fun x => x.dst) = some 71 := rfl
  have g34 := get_someT q34 (fun h => by cases h)
  refine wpOpIn_stepT hF ho (fun K hK => ?_)
  clear ho
  rw [Oper.semAt_plain Fc _ _ (by intro c h; cases h)]
  simp only [gpa_o40]
  go_simp
  exact hK _ _ ⟨_, act_putD x hdef _ _, rfl, Below.refl _ _⟩
set_option maxRecDepth 100000 in
set_option maxHeartbeats 2000000 in
theorem gpaL_s41 {Fc : Fence} (hF : Wide Fc) {nC : Nat} (gP bG oG gX N cP cG np cX r : Nat) (T T0 : ByteArray) (Q : Exit → Act → World → Prop) (df : List Deferred) (w0 : World)
    (hi : r + 1 < N) (hN : N ≤ 4000) (h1 : w0.cell? ⟨gP, (r + 1) * 2, none⟩ = some (.string T)) (h2 : w0.cell? ⟨gP, (r + 1) * 2 + 1, none⟩ = some (.slice (some ⟨gX, 0, none⟩) np cX)) (h3 : w0.cell? ⟨bG, oG + (r + 1), none⟩ = some (.string T)) (hnp : 0 < np) (h0 : w0.cell? ⟨gP, r * 2, none⟩ = some (.string T0)) (hless : Op.bytesLess T0.toList T.toList = true)
    (x : Act) (w : World) (hB : Below w0.heap.size w0 w) (hdef : x.defers = df) (u7 : x.tmps.getD 7 undef = .slice (some ⟨gP, 0, none⟩) N cP) (u8 : x.tmps.getD 8 undef = .slice (some ⟨bG, oG, none⟩) N cG) (u10 : x.tmps.getD 10 undef = .int .i64 ((r : Int) + 1))
    (p40 : gpaL_val gP bG oG gX N cP cG np cX r T T0 40 (x.tmps.getD 77 undef) w)
    (p34 : gpaL_val gP bG oG gX N cP cG np cX r T T0 34 (x.tmps.getD 71 undef) w)
    : wpOpIn Fc nC Try.prog gpa_ops Q 41 (fun a' w' => ∃ v, a' = x.put (some 78) v ∧ (v = .bool false) ∧ Below w.heap.size w w') x w := by
  have ho : gpa_ops[41]? = some gpa_o41 := rfl
  simp only [Array.getD_eq_getD_getElem?] at u7 u8 u10
  have q40 : x.tmps.getD 77 undef = .int .i64 (np : Nat) := p40
  have q34 : x.tmps.getD 71 undef = .bool false := p34
  simp only [Array.getD_eq_getD_getElem?] at q40 q34
  have e34 : (gpa_ops[34]?.bind fun x => x.dst) = some 71 := rfl
  have g34 := get_someT q34 (fun h => by cases h)
  have m : ((np : Int) == 0) = false := by simp; omega
  refine wpOpIn_stepT hF ho (fun K hK => ?_)
  clear ho
  rw [Oper.semAt_plain Fc _ _ (by intro c h; cases h)]
  simp only [gpa_o41]
  go_simp
  exact hK _ _ ⟨_, act_putD x hdef _ _, rfl, Below.refl _ _⟩
set_option maxRecDepth 100000 in
set_option maxHeartbeats 2000000 in
theorem gpaL_s42 {Fc : Fence} (hF : Wide Fc) {nC : Nat} (gP bG oG gX N cP cG np cX r : Nat) (T T0 : ByteArray) (Q : Exit → Act → World → Prop) (df : List Deferred) (w0 : World)
    (hi : r + 1 < N) (hN : N ≤ 4000) (h1 : w0.cell? ⟨gP, (r + 1) * 2, none⟩ = some (.string T)) (h2 : w0.cell? ⟨gP, (r + 1) * 2 + 1, none⟩ = some (.slice (some ⟨gX, 0, none⟩) np cX)) (h3 : w0.cell? ⟨bG, oG + (r + 1), none⟩ = some (.string T)) (hnp : 0 < np) (h0 : w0.cell? ⟨gP, r * 2, none⟩ = some (.string T0)) (hless : Op.bytesLess T0.toList T.toList = true)
    (x : Act) (w : World) (hB : Below w0.heap.size w0 w) (hdef : x.defers = df) (u7 : x.tmps.getD 7 undef = .slice (some ⟨gP, 0, none⟩) N cP) (u8 : x.tmps.getD 8 undef = .slice (some ⟨bG, oG, none⟩) N cG) (u10 : x.tmps.getD 10 undef = .int .i64 ((r : Int) + 1))
    (p34 : gpaL_val gP bG oG gX N cP cG np cX r T T0 34 (x.tmps.getD 71 undef) w)
    (p41 : gpaL_val gP bG oG gX N cP cG np cX r T T0 41 (x.tmps.getD 78 undef) w)
    : wpOpIn Fc nC Try.prog gpa_ops Q 42 (fun a' w' => ∃ v, a' = x.put (some 79) v ∧ (v = .bool false) ∧ Below w.heap.size w w') x w := by
  have ho : gpa_ops[42]? = some gpa_o42 := rfl
  simp only [Array.getD_eq_getD_getElem?] at u7 u8 u10
  have q34 : x.tmps.getD 71 undef = .bool false := p34
  have q41 : x.tmps.getD 78 undef = .bool false := p41
  simp only [Array.getD_eq_getD_getElem?] at q34 q41
  refine wpOpIn_plain ho rfl (oper_inK hF.fn (fun K hK => ?_))
  clear ho
  rw [Oper.semAt_plain Fc _ _ (by intro c h; cases h)]
  simp only [gpa_o42]
  go_simp
  exact hK _ _ ⟨_, act_putD x hdef _ _, rfl, Below.refl _ _⟩

set_option maxRecDepth 100000 in
set_option maxHeartbeats 4000000 in
theorem gpaL {Fc : Fence} (hF : Wide Fc) {nC : Nat} (gP bG oG gX N cP cG np cX r : Nat) (T T0 : ByteArray) (Q : Exit → Act → World → Prop) (t0 : Array Value) (df : List Deferred) (w0 : World) (ht : t0.size = 201)
    (hs7 : t0.getD 7 undef = .slice (some ⟨gP, 0, none⟩) N cP) (hs8 : t0.getD 8 undef = .slice (some ⟨bG, oG, none⟩) N cG) (hs10 : t0.getD 10 undef = .int .i64 ((r : Int) + 1))
    (hi : r + 1 < N) (hN : N ≤ 4000) (h1 : w0.cell? ⟨gP, (r + 1) * 2, none⟩ = some (.string T)) (h2 : w0.cell? ⟨gP, (r + 1) * 2 + 1, none⟩ = some (.slice (some ⟨gX, 0, none⟩) np cX)) (h3 : w0.cell? ⟨bG, oG + (r + 1), none⟩ = some (.string T)) (hnp : 0 < np) (h0 : w0.cell? ⟨gP, r * 2, none⟩ = some (.string T0)) (hless : Op.bytesLess T0.toList T.toList = true)
    (hQ : ∀ (vs : Nat → Value) (w : World), Below w0.heap.size w0 w → (vs 79 = .bool false) → Q .normal { tmps := [37, 38, 39, 40, 41, 42, 43, 44, 45, 46, 47, 48, 49, 50, 51, 52, 53, 54, 55, 56, 57, 58, 59, 60, 61, 62, 63, 64, 65, 66, 67, 68, 69, 70, 71, 72, 73, 74, 75, 76, 77, 78, 79].foldl (fun y d => y.setIfInBounds d (vs d)) t0, defers := df } w) :
    (Code.region 10 gpa_ops true).wpIn Fc nC Try.prog Q { tmps := t0, defers := df } w0 := by
  refine wpIn_region_tail 43 (by decide) (by kernel_rfl) (fun a b => Below a.heap.size a b) (gpaL_val gP bG oG gX N cP cG np cX r T T0) t0 df w0 (by rw [ht]; kernel_rfl) (by kernel_rfl) (by kernel_rfl) (by kernel_rfl) ((Below.refl _ _).drew) (fun _ _ _ h k => h.trans (k.mono h.size)) (gpaL_below gP bG oG gX N cP cG np cX r T T0) ?_ ?_
  · intro j o ho hj x w hB hdef hsz hs hdeps
    have hs' : ∀ s, ¬ gpa_mem s → x.tmps.getD s undef = t0.getD s undef := fun s hn => hs s (fun j hj e => hn (by rw [e]; exact gpa_slots j hj))
    have u7 := (hs' 7 (by decide)).trans hs7
    have u8 := (hs' 8 (by decide)).trans hs8
    have u10 := (hs' 10 (by decide)).trans hs10
    match j, ho, hj with
    | 0, ho, _ =>
      have e : o = gpa_o0 := (Option.some.inj ho).symm
      subst e
      exact gpaL_s0 hF gP bG oG gX N cP cG np cX r T T0 Q df w0 hi hN h1 h2 h3 hnp h0 hless x w hB hdef u7 u8 u10 
    | 1, ho, _ =>
      have e : o = gpa_o1 := (Option.some.inj ho).symm
      subst e
      exact gpaL_s1 hF gP bG oG gX N cP cG np cX r T T0 Q df w0 hi hN h1 h2 h3 hnp h0 hless x w hB hdef u7 u8 u10 (hdeps { on := 0, ground := Ground.data } (by simp) rfl)
    | 2, ho, _ =>
      have e : o = gpa_o2 := (Option.some.inj ho).symm
      subst e
      exact gpaL_s2 hF gP bG oG gX N cP cG np cX r T T0 Q df w0 hi hN h1 h2 h3 hnp h0 hless x w hB hdef u7 u8 u10 (hdeps { on := 1, ground := Ground.data } (by simp) rfl)
    | 3, ho, _ =>
      have e : o = gpa_o3 := (Option.some.inj ho).symm
      subst e
      exact gpaL_s3 hF gP bG oG gX N cP cG np cX r T T0 Q df w0 hi hN h1 h2 h3 hnp h0 hless x w hB hdef u7 u8 u10 (hdeps { on := 2, ground := Ground.guard } (by simp) rfl)
    | 4, ho, _ =>
      have e : o = gpa_o4 := (Option.some.inj ho).symm
      subst e
      exact gpaL_s4 hF gP bG oG gX N cP cG np cX r T T0 Q df w0 hi hN h1 h2 h3 hnp h0 hless x w hB hdef u7 u8 u10 (hdeps { on := 2, ground := Ground.guard } (by simp) rfl)
    | 5, ho, _ =>
      have e : o = gpa_o5 := (Option.some.inj ho).symm
      subst e
      exact gpaL_s5 hF gP bG oG gX N cP cG np cX r T T0 Q df w0 hi hN h1 h2 h3 hnp h0 hless x w hB hdef u7 u8 u10 (hdeps { on := 4, ground := Ground.data } (by simp) rfl) (hdeps { on := 2, ground := Ground.guard } (by simp) rfl)
    | 6, ho, _ =>
      have e : o = gpa_o6 := (Option.some.inj ho).symm
      subst e
      exact gpaL_s6 hF gP bG oG gX N cP cG np cX r T T0 Q df w0 hi hN h1 h2 h3 hnp h0 hless x w hB hdef u7 u8 u10 (hdeps { on := 3, ground := Ground.data } (by simp) rfl) (hdeps { on := 5, ground := Ground.data } (by simp) rfl) (hdeps { on := 2, ground := Ground.guard } (by simp) rfl)
    | 7, ho, _ =>
      have e : o = gpa_o7 := (Option.some.inj ho).symm
      subst e
      exact gpaL_s7 hF gP bG oG gX N cP cG np cX r T T0 Q df w0 hi hN h1 h2 h3 hnp h0 hless x w hB hdef u7 u8 u10 (hdeps { on := 6, ground := Ground.data } (by simp) rfl) (hdeps { on := 2, ground := Ground.guard } (by simp) rfl)
    | 8, ho, _ =>
      have e : o = gpa_o8 := (Option.some.inj ho).symm
      subst e
      exact gpaL_s8 hF gP bG oG gX N cP cG np cX r T T0 Q df w0 hi hN h1 h2 h3 hnp h0 hless x w hB hdef u7 u8 u10 (hdeps { on := 7, ground := Ground.data } (by simp) rfl) (hdeps { on := 2, ground := Ground.guard } (by simp) rfl)
    | 9, ho, _ =>
      have e : o = gpa_o9 := (Option.some.inj ho).symm
      subst e
      exact gpaL_s9 hF gP bG oG gX N cP cG np cX r T T0 Q df w0 hi hN h1 h2 h3 hnp h0 hless x w hB hdef u7 u8 u10 (hdeps { on := 2, ground := Ground.guard } (by simp) rfl)
    | 10, ho, _ =>
      have e : o = gpa_o10 := (Option.some.inj ho).symm
      subst e
      exact gpaL_s10 hF gP bG oG gX N cP cG np cX r T T0 Q df w0 hi hN h1 h2 h3 hnp h0 hless x w hB hdef u7 u8 u10 (hdeps { on := 2, ground := Ground.guard } (by simp) rfl)
    | 11, ho, _ =>
      have e : o = gpa_o11 := (Option.some.inj ho).symm
      subst e
      exact gpaL_s11 hF gP bG oG gX N cP cG np cX r T T0 Q df w0 hi hN h1 h2 h3 hnp h0 hless x w hB hdef u7 u8 u10 (hdeps { on := 9, ground := Ground.data } (by simp) rfl) (hdeps { on := 10, ground := Ground.data } (by simp) rfl) (hdeps { on := 2, ground := Ground.guard } (by simp) rfl)
    | 12, ho, _ =>
      have e : o = gpa_o12 := (Option.some.inj ho).symm
      subst e
      exact gpaL_s12 hF gP bG oG gX N cP cG np cX r T T0 Q df w0 hi hN h1 h2 h3 hnp h0 hless x w hB hdef u7 u8 u10 (hdeps { on := 11, ground := Ground.data } (by simp) rfl) (hdeps { on := 2, ground := Ground.guard } (by simp) rfl)
    | 13, ho, _ =>
      have e : o = gpa_o13 := (Option.some.inj ho).symm
      subst e
      exact gpaL_s13 hF gP bG oG gX N cP cG np cX r T T0 Q df w0 hi hN h1 h2 h3 hnp h0 hless x w hB hdef u7 u8 u10 (hdeps { on := 12, ground := Ground.data } (by simp) rfl) (hdeps { on := 2, ground := Ground.guard } (by simp) rfl)
    | 14, ho, _ =>
      have e : o = gpa_o14 := (Option.some.inj ho).symm
      subst e
      exact gpaL_s14 hF gP bG oG gX N cP cG np cX r T T0 Q df w0 hi hN h1 h2 h3 hnp h0 hless x w hB hdef u7 u8 u10 (hdeps { on := 8, ground := Ground.data } (by simp) rfl) (hdeps { on := 13, ground := Ground.data } (by simp) rfl) (hdeps { on := 2, ground := Ground.guard } (by simp) rfl)
    | 15, ho, _ =>
      have e : o = gpa_o15 := (Option.some.inj ho).symm
      subst e
      exact gpaL_s15 hF gP bG oG gX N cP cG np cX r T T0 Q df w0 hi hN h1 h2 h3 hnp h0 hless x w hB hdef u7 u8 u10 (hdeps { on := 2, ground := Ground.data } (by simp) rfl) (hdeps { on := 14, ground := Ground.data } (by simp) rfl)
    | 16, ho, _ =>
      have e : o = gpa_o16 := (Option.some.inj ho).symm
      subst e
      exact gpaL_s16 hF gP bG oG gX N cP cG np cX r T T0 Q df w0 hi hN h1 h2 h3 hnp h0 hless x w hB hdef u7 u8 u10 (hdeps { on := 15, ground := Ground.data } (by simp) rfl)
    | 17, ho, _ =>
      have e : o = gpa_o17 := (Option.some.inj ho).symm
      subst e
      exact gpaL_s17 hF gP bG oG gX N cP cG np cX r T T0 Q df w0 hi hN h1 h2 h3 hnp h0 hless x w hB hdef u7 u8 u10 (hdeps { on := 16, ground := Ground.guard } (by simp) rfl)
    | 18, ho, _ =>
      have e : o = gpa_o18 := (Option.some.inj ho).symm
      subst e
      exact gpaL_s18 hF gP bG oG gX N cP cG np cX r T T0 Q df w0 hi hN h1 h2 h3 hnp h0 hless x w hB hdef u7 u8 u10 (hdeps { on := 16, ground := Ground.guard } (by simp) rfl)
    | 19, ho, _ =>
      have e : o = gpa_o19 := (Option.some.inj ho).symm
      subst e
      exact gpaL_s19 hF gP bG oG gX N cP cG np cX r T T0 Q df w0 hi hN h1 h2 h3 hnp h0 hless x w hB hdef u7 u8 u10 (hdeps { on := 18, ground := Ground.data } (by simp) rfl) (hdeps { on := 16, ground := Ground.guard } (by simp) rfl)
    | 20, ho, _ =>
      have e : o = gpa_o20 := (Option.some.inj ho).symm
      subst e
      exact gpaL_s20 hF gP bG oG gX N cP cG np cX r T T0 Q df w0 hi hN h1 h2 h3 hnp h0 hless x w hB hdef u7 u8 u10 (hdeps { on := 17, ground := Ground.data } (by simp) rfl) (hdeps { on := 19, ground := Ground.data } (by simp) rfl) (hdeps { on := 16, ground := Ground.guard } (by simp) rfl)
    | 21, ho, _ =>
      have e : o = gpa_o21 := (Option.some.inj ho).symm
      subst e
      exact gpaL_s21 hF gP bG oG gX N cP cG np cX r T T0 Q df w0 hi hN h1 h2 h3 hnp h0 hless x w hB hdef u7 u8 u10 (hdeps { on := 16, ground := Ground.data } (by simp) rfl) (hdeps { on := 20, ground := Ground.data } (by simp) rfl)
    | 22, ho, _ =>
      have e : o = gpa_o22 := (Option.some.inj ho).symm
      subst e
      exact gpaL_s22 hF gP bG oG gX N cP cG np cX r T T0 Q df w0 hi hN h1 h2 h3 hnp h0 hless x w hB hdef u7 u8 u10 (hdeps { on := 21, ground := Ground.data } (by simp) rfl)
    | 23, ho, _ =>
      have e : o = gpa_o23 := (Option.some.inj ho).symm
      subst e
      exact gpaL_s23 hF gP bG oG gX N cP cG np cX r T T0 Q df w0 hi hN h1 h2 h3 hnp h0 hless x w hB hdef u7 u8 u10 (hdeps { on := 22, ground := Ground.guard } (by simp) rfl)
    | 24, ho, _ =>
      have e : o = gpa_o24 := (Option.some.inj ho).symm
      subst e
      exact gpaL_s24 hF gP bG oG gX N cP cG np cX r T T0 Q df w0 hi hN h1 h2 h3 hnp h0 hless x w hB hdef u7 u8 u10 (hdeps { on := 22, ground := Ground.guard } (by simp) rfl)
    | 25, ho, _ =>
      have e : o = gpa_o25 := (Option.some.inj ho).symm
      subst e
      exact gpaL_s25 hF gP bG oG gX N cP cG np cX r T T0 Q df w0 hi hN h1 h2 h3 hnp h0 hless x w hB hdef u7 u8 u10 (hdeps { on := 23, ground := Ground.data } (by simp) rfl) (hdeps { on := 24, ground := Ground.data } (by simp) rfl) (hdeps { on := 22, ground := Ground.guard } (by simp) rfl)
    | 26, ho, _ =>
      have e : o = gpa_o26 := (Option.some.inj ho).symm
      subst e
      exact gpaL_s26 hF gP bG oG gX N cP cG np cX r T T0 Q df w0 hi hN h1 h2 h3 hnp h0 hless x w hB hdef u7 u8 u10 (hdeps { on := 25, ground := Ground.data } (by simp) rfl) (hdeps { on := 22, ground := Ground.guard } (by simp) rfl)
    | 27, ho, _ =>
      have e : o = gpa_o27 := (Option.some.inj ho).symm
      subst e
      exact gpaL_s27 hF gP bG oG gX N cP cG np cX r T T0 Q df w0 hi hN h1 h2 h3 hnp h0 hless x w hB hdef u7 u8 u10 (hdeps { on := 22, ground := Ground.guard } (by simp) rfl)
    | 28, ho, _ =>
      have e : o = gpa_o28 := (Option.some.inj ho).symm
      subst e
      exact gpaL_s28 hF gP bG oG gX N cP cG np cX r T T0 Q df w0 hi hN h1 h2 h3 hnp h0 hless x w hB hdef u7 u8 u10 (hdeps { on := 22, ground := Ground.guard } (by simp) rfl)
    | 29, ho, _ =>
      have e : o = gpa_o29 := (Option.some.inj ho).symm
      subst e
      exact gpaL_s29 hF gP bG oG gX N cP cG np cX r T T0 Q df w0 hi hN h1 h2 h3 hnp h0 hless x w hB hdef u7 u8 u10 (hdeps { on := 27, ground := Ground.data } (by simp) rfl) (hdeps { on := 28, ground := Ground.data } (by simp) rfl) (hdeps { on := 22, ground := Ground.guard } (by simp) rfl)
    | 30, ho, _ =>
      have e : o = gpa_o30 := (Option.some.inj ho).symm
      subst e
      exact gpaL_s30 hF gP bG oG gX N cP cG np cX r T T0 Q df w0 hi hN h1 h2 h3 hnp h0 hless x w hB hdef u7 u8 u10 (hdeps { on := 29, ground := Ground.data } (by simp) rfl) (hdeps { on := 22, ground := Ground.guard } (by simp) rfl)
    | 31, ho, _ =>
      have e : o = gpa_o31 := (Option.some.inj ho).symm
      subst e
      exact gpaL_s31 hF gP bG oG gX N cP cG np cX r T T0 Q df w0 hi hN h1 h2 h3 hnp h0 hless x w hB hdef u7 u8 u10 (hdeps { on := 30, ground := Ground.data } (by simp) rfl) (hdeps { on := 22, ground := Ground.guard } (by simp) rfl)
    | 32, ho, _ =>
      have e : o = gpa_o32 := (Option.some.inj ho).symm
      subst e
      exact gpaL_s32 hF gP bG oG gX N cP cG np cX r T T0 Q df w0 hi hN h1 h2 h3 hnp h0 hless x w hB hdef u7 u8 u10 (hdeps { on := 26, ground := Ground.data } (by simp) rfl) (hdeps { on := 31, ground := Ground.data } (by simp) rfl) (hdeps { on := 22, ground := Ground.guard } (by simp) rfl)
    | 33, ho, _ =>
      have e : o = gpa_o33 := (Option.some.inj ho).symm
      subst e
      exact gpaL_s33 hF gP bG oG gX N cP cG np cX r T T0 Q df w0 hi hN h1 h2 h3 hnp h0 hless x w hB hdef u7 u8 u10 (hdeps { on := 22, ground := Ground.data } (by simp) rfl) (hdeps { on := 32, ground := Ground.data } (by simp) rfl)
    | 34, ho, _ =>
      have e : o = gpa_o34 := (Option.some.inj ho).symm
      subst e
      exact gpaL_s34 hF gP bG oG gX N cP cG np cX r T T0 Q df w0 hi hN h1 h2 h3 hnp h0 hless x w hB hdef u7 u8 u10 (hdeps { on := 33, ground := Ground.data } (by simp) rfl)
    | 35, ho, _ =>
      have e : o = gpa_o35 := (Option.some.inj ho).symm
      subst e
      exact gpaL_s35 hF gP bG oG gX N cP cG np cX r T T0 Q df w0 hi hN h1 h2 h3 hnp h0 hless x w hB hdef u7 u8 u10 (hdeps { on := 34, ground := Ground.guard } (by simp) rfl)
    | 36, ho, _ =>
      have e : o = gpa_o36 := (Option.some.inj ho).symm
      subst e
      exact gpaL_s36 hF gP bG oG gX N cP cG np cX r T T0 Q df w0 hi hN h1 h2 h3 hnp h0 hless x w hB hdef u7 u8 u10 (hdeps { on := 34, ground := Ground.guard } (by simp) rfl)
    | 37, ho, _ =>
      have e : o = gpa_o37 := (Option.some.inj ho).symm
      subst e
      exact gpaL_s37 hF gP bG oG gX N cP cG np cX r T T0 Q df w0 hi hN h1 h2 h3 hnp h0 hless x w hB hdef u7 u8 u10 (hdeps { on := 35, ground := Ground.data } (by simp) rfl) (hdeps { on := 36, ground := Ground.data } (by simp) rfl) (hdeps { on := 34, ground := Ground.guard } (by simp) rfl)
    | 38, ho, _ =>
      have e : o = gpa_o38 := (Option.some.inj ho).symm
      subst e
      exact gpaL_s38 hF gP bG oG gX N cP cG np cX r T T0 Q df w0 hi hN h1 h2 h3 hnp h0 hless x w hB hdef u7 u8 u10 (hdeps { on := 37, ground := Ground.data } (by simp) rfl) (hdeps { on := 34, ground := Ground.guard } (by simp) rfl)
    | 39, ho, _ =>
      have e : o = gpa_o39 := (Option.some.inj ho).symm
      subst e
      exact gpaL_s39 hF gP bG oG gX N cP cG np cX r T T0 Q df w0 hi hN h1 h2 h3 hnp h0 hless x w hB hdef u7 u8 u10 (hdeps { on := 38, ground := Ground.data } (by simp) rfl) (hdeps { on := 34, ground := Ground.guard } (by simp) rfl)
    | 40, ho, _ =>
      have e : o = gpa_o40 := (Option.some.inj ho).symm
      subst e
      exact gpaL_s40 hF gP bG oG gX N cP cG np cX r T T0 Q df w0 hi hN h1 h2 h3 hnp h0 hless x w hB hdef u7 u8 u10 (hdeps { on := 39, ground := Ground.data } (by simp) rfl) (hdeps { on := 34, ground := Ground.guard } (by simp) rfl)
    | 41, ho, _ =>
      have e : o = gpa_o41 := (Option.some.inj ho).symm
      subst e
      exact gpaL_s41 hF gP bG oG gX N cP cG np cX r T T0 Q df w0 hi hN h1 h2 h3 hnp h0 hless x w hB hdef u7 u8 u10 (hdeps { on := 40, ground := Ground.data } (by simp) rfl) (hdeps { on := 34, ground := Ground.guard } (by simp) rfl)
    | 42, ho, _ =>
      have e : o = gpa_o42 := (Option.some.inj ho).symm
      subst e
      exact gpaL_s42 hF gP bG oG gX N cP cG np cX r T T0 Q df w0 hi hN h1 h2 h3 hnp h0 hless x w hB hdef u7 u8 u10 (hdeps { on := 34, ground := Ground.data } (by simp) rfl) (hdeps { on := 41, ground := Ground.data } (by simp) rfl)
    | k + 43, _, hj => omega
  · intro x w hB hdef hsz hs hv
    have hx := frame_sets x.tmps t0 hsz [37, 38, 39, 40, 41, 42, 43, 44, 45, 46, 47, 48, 49, 50, 51, 52, 53, 54, 55, 56, 57, 58, 59, 60, 61, 62, 63, 64, 65, 66, 67, 68, 69, 70, 71, 72, 73, 74, 75, 76, 77, 78, 79] (fun s hn => hs s (fun j hj e => hn (by rw [e]; exact gpa_slots j hj)))
    have hq := hQ (fun d => x.tmps.getD d undef) w hB (hv 42 (by decide))
    obtain ⟨T, Df⟩ := x
    dsimp only at hx hdef hq
    subst hdef
    rw [← hx] at hq
    exact hq

end Go.Proofs.Ytpdlapnliiengaa
