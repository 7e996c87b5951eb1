/-
  GramPlaces' drawn region 16 (written by tools/gen-gplw.py).
-/
import Derived.Test.YtpdlapnliiengaaGPlacesM
import Derived.Test.YtpdlapnliiengaaRegT
namespace Go.Proofs.Ytpdlapnliiengaa
open Go.RowKit Go.Shelf
set_option linter.unusedVariables false
set_option linter.unusedSimpArgs false

abbrev gpb_o0 : Oper := { dst := some 98, op := Op.fieldAddr 39 (Operand.tmp 12) 0, type := 0, pos := "outright.go:56", after := #[], guard := none }
abbrev gpb_o1 : Oper := { dst := some 99, op := Op.load 3 (Operand.tmp 98), type := 3, pos := "outright.go:56", after := #[{ on := 0, ground := Ground.data }], guard := none }
abbrev gpb_o2 : Oper := { dst := some 100, op := Op.binOp BinOp.neq 3 (Operand.tmp 99) (Operand.const (Value.int IntKind.i64 0)) 3, type := 4, pos := "outright.go:56", after := #[{ on := 1, ground := Ground.data }], guard := none }
abbrev gpb_o3 : Oper := { dst := some 101, op := Op.move (Operand.tmp 100), type := 4, pos := "outright.go:56", after := #[{ on := 2, ground := Ground.data }], guard := none }
abbrev gpb_o4 : Oper := { dst := some 102, op := Op.fieldAddr 39 (Operand.tmp 12) 1, type := 0, pos := "outright.go:56", after := #[{ on := 3, ground := Ground.guard }], guard := some (3, false) }
abbrev gpb_o5 : Oper := { dst := some 103, op := Op.load 3 (Operand.tmp 102), type := 3, pos := "outright.go:56", after := #[{ on := 4, ground := Ground.data }, { on := 3, ground := Ground.guard }], guard := some (3, false) }
abbrev gpb_o6 : Oper := { dst := some 104, op := Op.binOp BinOp.lss 3 (Operand.tmp 103) (Operand.const (Value.int IntKind.i64 0)) 3, type := 4, pos := "outright.go:56", after := #[{ on := 5, ground := Ground.data }, { on := 3, ground := Ground.guard }], guard := some (3, false) }
abbrev gpb_o7 : Oper := { dst := some 105, op := Op.pick (Operand.tmp 101) (Operand.const (Value.bool true)) (Operand.tmp 104), type := 4, pos := "outright.go:56", after := #[{ on := 3, ground := Ground.data }, { on := 6, ground := Ground.data }], guard := none }
abbrev gpb_o8 : Oper := { dst := some 106, op := Op.move (Operand.tmp 105), type := 4, pos := "outright.go:56", after := #[{ on := 7, ground := Ground.data }, { on := 3, ground := Ground.chain }], guard := none }
abbrev gpb_o9 : Oper := { dst := some 107, op := Op.fieldAddr 39 (Operand.tmp 12) 1, type := 0, pos := "outright.go:56", after := #[{ on := 8, ground := Ground.guard }], guard := some (8, false) }
abbrev gpb_o10 : Oper := { dst := some 108, op := Op.load 3 (Operand.tmp 107), type := 3, pos := "outright.go:56", after := #[{ on := 9, ground := Ground.data }, { on := 8, ground := Ground.guard }], guard := some (8, false) }
abbrev gpb_o11 : Oper := { dst := some 109, op := Op.move (Operand.tmp 9), type := 34, pos := "outright.go:56", after := #[{ on := 8, ground := Ground.guard }], guard := some (8, false) }
abbrev gpb_o12 : Oper := { dst := some 110, op := Op.call { callee := Callee.builtin Builtin.len, args := #[Operand.tmp 109], argTypes := #[34] }, type := 3, pos := "outright.go:56", after := #[{ on := 11, ground := Ground.data }, { on := 8, ground := Ground.guard }], guard := some (8, false) }
abbrev gpb_o13 : Oper := { dst := some 111, op := Op.binOp BinOp.geq 3 (Operand.tmp 108) (Operand.tmp 110) 3, type := 4, pos := "outright.go:56", after := #[{ on := 10, ground := Ground.data }, { on := 12, ground := Ground.data }, { on := 8, ground := Ground.guard }], guard := some (8, false) }
abbrev gpb_o14 : Oper := { dst := some 112, op := Op.pick (Operand.tmp 106) (Operand.const (Value.bool true)) (Operand.tmp 111), type := 4, pos := "outright.go:56", after := #[{ on := 8, ground := Ground.data }, { on := 13, ground := Ground.data }], guard := none }
abbrev gpb_o15 : Oper := { dst := some 113, op := Op.move (Operand.tmp 112), type := 4, pos := "outright.go:56", after := #[{ on := 14, ground := Ground.data }, { on := 8, ground := Ground.chain }], guard := none }
abbrev gpb_o16 : Oper := { dst := some 114, op := Op.move (Operand.tmp 9), type := 34, pos := "outright.go:56", after := #[{ on := 15, ground := Ground.guard }], guard := some (15, false) }
abbrev gpb_o17 : Oper := { dst := some 115, op := Op.fieldAddr 39 (Operand.tmp 12) 1, type := 0, pos := "outright.go:56", after := #[{ on := 15, ground := Ground.guard }], guard := some (15, false) }
abbrev gpb_o18 : Oper := { dst := some 116, op := Op.load 3 (Operand.tmp 115), type := 3, pos := "outright.go:56", after := #[{ on := 17, ground := Ground.data }, { on := 15, ground := Ground.guard }], guard := some (15, false) }
abbrev gpb_o19 : Oper := { dst := some 117, op := Op.indexAddr 34 (Operand.tmp 114) (Operand.tmp 116), type := 0, pos := "outright.go:56", after := #[{ on := 16, ground := Ground.data }, { on := 18, ground := Ground.data }, { on := 15, ground := Ground.guard }], guard := some (15, false) }
abbrev gpb_o20 : Oper := { dst := some 118, op := Op.load 4 (Operand.tmp 117), type := 4, pos := "outright.go:56", after := #[{ on := 19, ground := Ground.data }, { on := 15, ground := Ground.guard }], guard := some (15, false) }
abbrev gpb_o21 : Oper := { dst := some 119, op := Op.pick (Operand.tmp 113) (Operand.const (Value.bool true)) (Operand.tmp 118), type := 4, pos := "outright.go:56", after := #[{ on := 15, ground := Ground.data }, { on := 20, ground := Ground.data }], guard := none }
abbrev gpb_o22 : Oper := { dst := some 120, op := Op.move (Operand.tmp 119), type := 4, pos := "outright.go:56", after := #[{ on := 21, ground := Ground.data }, { on := 15, ground := Ground.chain }], guard := none }
abbrev gpb_o23 : Oper := { dst := some 121, op := Op.move (Operand.tmp 11), type := 3, pos := "outright.go:56", after := #[{ on := 22, ground := Ground.guard }], guard := some (22, false) }
abbrev gpb_o24 : Oper := { dst := some 122, op := Op.binOp BinOp.gtr 3 (Operand.tmp 121) (Operand.const (Value.int IntKind.i64 0)) 3, type := 4, pos := "outright.go:56", after := #[{ on := 23, ground := Ground.data }, { on := 22, ground := Ground.guard }], guard := some (22, false) }
abbrev gpb_o25 : Oper := { dst := some 123, op := Op.move (Operand.tmp 122), type := 4, pos := "outright.go:56", after := #[{ on := 24, ground := Ground.data }, { on := 22, ground := Ground.chain }, { on := 22, ground := Ground.guard }], guard := some (22, false) }
abbrev gpb_o26 : Oper := { dst := some 124, op := Op.move (Operand.tmp 7), type := 32, pos := "outright.go:56", after := #[{ on := 25, ground := Ground.guard }], guard := some (25, true) }
abbrev gpb_o27 : Oper := { dst := some 125, op := Op.move (Operand.tmp 10), type := 3, pos := "outright.go:56", after := #[{ on := 25, ground := Ground.guard }], guard := some (25, true) }
abbrev gpb_o28 : Oper := { dst := some 126, op := Op.indexAddr 32 (Operand.tmp 124) (Operand.tmp 125), type := 0, pos := "outright.go:56", after := #[{ on := 26, ground := Ground.data }, { on := 27, ground := Ground.data }, { on := 25, ground := Ground.guard }], guard := some (25, true) }
abbrev gpb_o29 : Oper := { dst := some 127, op := Op.fieldAddr 37 (Operand.tmp 126) 1, type := 0, pos := "outright.go:56", after := #[{ on := 28, ground := Ground.data }, { on := 25, ground := Ground.guard }], guard := some (25, true) }
abbrev gpb_o30 : Oper := { dst := some 128, op := Op.load 35 (Operand.tmp 127), type := 35, pos := "outright.go:56", after := #[{ on := 29, ground := Ground.data }, { on := 25, ground := Ground.guard }], guard := some (25, true) }
abbrev gpb_o31 : Oper := { dst := some 129, op := Op.move (Operand.tmp 11), type := 3, pos := "outright.go:56", after := #[{ on := 25, ground := Ground.guard }], guard := some (25, true) }
abbrev gpb_o32 : Oper := { dst := some 130, op := Op.binOp BinOp.sub 3 (Operand.tmp 129) (Operand.const (Value.int IntKind.i64 1)) 3, type := 3, pos := "outright.go:56", after := #[{ on := 31, ground := Ground.data }, { on := 25, ground := Ground.guard }], guard := some (25, true) }
abbrev gpb_o33 : Oper := { dst := some 131, op := Op.indexAddr 35 (Operand.tmp 128) (Operand.tmp 130), type := 0, pos := "outright.go:56", after := #[{ on := 30, ground := Ground.data }, { on := 32, ground := Ground.data }, { on := 25, ground := Ground.guard }], guard := some (25, true) }
abbrev gpb_o34 : Oper := { dst := some 132, op := Op.fieldAddr 39 (Operand.tmp 131) 1, type := 0, pos := "outright.go:56", after := #[{ on := 33, ground := Ground.data }, { on := 25, ground := Ground.guard }], guard := some (25, true) }
abbrev gpb_o35 : Oper := { dst := some 133, op := Op.load 3 (Operand.tmp 132), type := 3, pos := "outright.go:56", after := #[{ on := 34, ground := Ground.data }, { on := 25, ground := Ground.guard }], guard := some (25, true) }
abbrev gpb_o36 : Oper := { dst := some 134, op := Op.fieldAddr 39 (Operand.tmp 12) 1, type := 0, pos := "outright.go:56", after := #[{ on := 25, ground := Ground.guard }], guard := some (25, true) }
abbrev gpb_o37 : Oper := { dst := some 135, op := Op.load 3 (Operand.tmp 134), type := 3, pos := "outright.go:56", after := #[{ on := 36, ground := Ground.data }, { on := 25, ground := Ground.guard }], guard := some (25, true) }
abbrev gpb_o38 : Oper := { dst := some 136, op := Op.binOp BinOp.geq 3 (Operand.tmp 133) (Operand.tmp 135) 3, type := 4, pos := "outright.go:56", after := #[{ on := 35, ground := Ground.data }, { on := 37, ground := Ground.data }, { on := 25, ground := Ground.guard }], guard := some (25, true) }
abbrev gpb_o39 : Oper := { dst := some 137, op := Op.pick (Operand.tmp 123) (Operand.tmp 136) (Operand.const (Value.bool false)), type := 4, pos := "outright.go:56", after := #[{ on := 25, ground := Ground.data }, { on := 38, ground := Ground.data }, { on := 22, ground := Ground.guard }], guard := some (22, false) }
abbrev gpb_o40 : Oper := { dst := some 138, op := Op.pick (Operand.tmp 120) (Operand.const (Value.bool true)) (Operand.tmp 137), type := 4, pos := "outright.go:56", after := #[{ on := 22, ground := Ground.data }, { on := 39, ground := Ground.data }], guard := none }
def gpb_ops : Array Oper := #[gpb_o0, gpb_o1, gpb_o2, gpb_o3, gpb_o4, gpb_o5, gpb_o6, gpb_o7, gpb_o8, gpb_o9, gpb_o10, gpb_o11, gpb_o12, gpb_o13, gpb_o14, gpb_o15, gpb_o16, gpb_o17, gpb_o18, gpb_o19, gpb_o20, gpb_o21, gpb_o22, gpb_o23, gpb_o24, gpb_o25, gpb_o26, gpb_o27, gpb_o28, gpb_o29, gpb_o30, gpb_o31, gpb_o32, gpb_o33, gpb_o34, gpb_o35, gpb_o36, gpb_o37, gpb_o38, gpb_o39, gpb_o40]
abbrev gpb_mem (s : Nat) : Prop := s ∈ [98, 99, 100, 101, 102, 103, 104, 105, 106, 107, 108, 109, 110, 111, 112, 113, 114, 115, 116, 117, 118, 119, 120, 121, 122, 123, 124, 125, 126, 127, 128, 129, 130, 131, 132, 133, 134, 135, 136, 137, 138]
set_option maxRecDepth 100000 in
theorem gpb_slots : ∀ j, j < 41 → gpb_mem (slotOf gpb_ops j) := by
  intro j hj
  match j, hj with
  | 0, _ => exact (by decide : gpb_mem 98)
  | 1, _ => exact (by decide : gpb_mem 99)
  | 2, _ => exact (by decide : gpb_mem 100)
  | 3, _ => exact (by decide : gpb_mem 101)
  | 4, _ => exact (by decide : gpb_mem 102)
  | 5, _ => exact (by decide : gpb_mem 103)
  | 6, _ => exact (by decide : gpb_mem 104)
  | 7, _ => exact (by decide : gpb_mem 105)
  | 8, _ => exact (by decide : gpb_mem 106)
  | 9, _ => exact (by decide : gpb_mem 107)
  | 10, _ => exact (by decide : gpb_mem 108)
  | 11, _ => exact (by decide : gpb_mem 109)
  | 12, _ => exact (by decide : gpb_mem 110)
  | 13, _ => exact (by decide : gpb_mem 111)
  | 14, _ => exact (by decide : gpb_mem 112)
  | 15, _ => exact (by decide : gpb_mem 113)
  | 16, _ => exact (by decide : gpb_mem 114)
  | 17, _ => exact (by decide : gpb_mem 115)
  | 18, _ => exact (by decide : gpb_mem 116)
  | 19, _ => exact (by decide : gpb_mem 117)
  | 20, _ => exact (by decide : gpb_mem 118)
  | 21, _ => exact (by decide : gpb_mem 119)
  | 22, _ => exact (by decide : gpb_mem 120)
  | 23, _ => exact (by decide : gpb_mem 121)
  | 24, _ => exact (by decide : gpb_mem 122)
  | 25, _ => exact (by decide : gpb_mem 123)
  | 26, _ => exact (by decide : gpb_mem 124)
  | 27, _ => exact (by decide : gpb_mem 125)
  | 28, _ => exact (by decide : gpb_mem 126)
  | 29, _ => exact (by decide : gpb_mem 127)
  | 30, _ => exact (by decide : gpb_mem 128)
  | 31, _ => exact (by decide : gpb_mem 129)
  | 32, _ => exact (by decide : gpb_mem 130)
  | 33, _ => exact (by decide : gpb_mem 131)
  | 34, _ => exact (by decide : gpb_mem 132)
  | 35, _ => exact (by decide : gpb_mem 133)
  | 36, _ => exact (by decide : gpb_mem 134)
  | 37, _ => exact (by decide : gpb_mem 135)
  | 38, _ => exact (by decide : gpb_mem 136)
  | 39, _ => exact (by decide : gpb_mem 137)
  | 40, _ => exact (by decide : gpb_mem 138)
  | k + 41, hj => omega
def gpbF_val (gP gX N cP np cX sb m b12 i q : Nat) : Nat → Value → World → Prop
  | 0, v, w => v = .pointer (some ⟨b12, 0, none⟩)
  | 1, v, w => v = .int .i64 0
  | 2, v, w => v = .bool false
  | 3, v, w => v = .bool false
  | 4, v, w => v = .pointer (some ⟨b12, 1, none⟩)
  | 5, v, w => v = .int .i64 (q : Nat)
  | 6, v, w => v = .bool false
  | 7, v, w => v = .bool false
  | 8, v, w => v = .bool false
  | 9, v, w => v = .pointer (some ⟨b12, 1, none⟩)
  | 10, v, w => v = .int .i64 (q : Nat)
  | 11, v, w => v = .slice (some ⟨sb, 0, none⟩) m m
  | 12, v, w => v = .int .i64 (m : Nat)
  | 13, v, w => v = .bool false
  | 14, v, w => v = .bool false
  | 15, v, w => v = .bool false
  | 16, v, w => v = .slice (some ⟨sb, 0, none⟩) m m
  | 17, v, w => v = .pointer (some ⟨b12, 1, none⟩)
  | 18, v, w => v = .int .i64 (q : Nat)
  | 19, v, w => v = .pointer (some ⟨sb, q, none⟩)
  | 20, v, w => v = .bool false
  | 21, v, w => v = .bool false
  | 22, v, w => v = .bool false
  | 23, v, w => v = .int .i64 0
  | 24, v, w => v = .bool false
  | 25, v, w => v = .bool false
  | 26, v, w => v = undef
  | 27, v, w => v = undef
  | 28, v, w => v = undef
  | 29, v, w => v = undef
  | 30, v, w => v = undef
  | 31, v, w => v = undef
  | 32, v, w => v = undef
  | 33, v, w => v = undef
  | 34, v, w => v = undef
  | 35, v, w => v = undef
  | 36, v, w => v = undef
  | 37, v, w => v = undef
  | 38, v, w => v = undef
  | 39, v, w => v = .bool false
  | 40, v, w => v = .bool false
  | _, _, _ => True
theorem gpbF_below (gP gX N cP np cX sb m b12 i q : Nat) (w w' : World) (hb : Below w.heap.size w w') : ∀ j v, gpbF_val gP gX N cP np cX sb m b12 i q j v w → gpbF_val gP gX N cP np cX sb m b12 i q j v w' := by
  intro j v h
  match j, h with
  | 0, h => exact h
  | 1, h => exact h
  | 2, h => exact h
  | 3, h => exact h
  | 4, h => exact h
  | 5, h => exact h
  | 6, h => exact h
  | 7, h => exact h
  | 8, h => exact h
  | 9, h => exact h
  | 10, h => exact h
  | 11, h => exact h
  | 12, h => exact h
  | 13, h => exact h
  | 14, h => exact h
  | 15, h => exact h
  | 16, h => exact h
  | 17, h => exact h
  | 18, h => exact h
  | 19, h => exact h
  | 20, h => exact h
  | 21, h => exact h
  | 22, h => exact h
  | 23, h => exact h
  | 24, h => exact h
  | 25, h => exact h
  | 26, h => exact h
  | 27, h => exact h
  | 28, h => exact h
  | 29, h => exact h
  | 30, h => exact h
  | 31, h => exact h
  | 32, h => exact h
  | 33, h => exact h
  | 34, h => exact h
  | 35, h => exact h
  | 36, h => exact h
  | 37, h => exact h
  | 38, h => exact h
  | 39, h => exact h
  | 40, h => exact h
  | _ + 41, h => exact h
set_option maxRecDepth 100000 in
set_option maxHeartbeats 2000000 in
theorem gpbF_s0 {Fc : Fence} (hF : Wide Fc) {nC : Nat} (gP gX N cP np cX sb m b12 i q : Nat) (Q : Exit → Act → World → Prop) (df : List Deferred) (w0 : World)
    (hq : q < m) (hm : m ≤ 4000) (h0 : w0.cell? ⟨b12, 0, none⟩ = some (.int .i64 0)) (h1 : w0.cell? ⟨b12, 1, none⟩ = some (.int .i64 (q : Nat))) (h2 : w0.cell? ⟨sb, q, none⟩ = some (.bool false))
    (x : Act) (w : World) (hB : Below w0.heap.size w0 w) (hdef : x.defers = df) (u7 : x.tmps.getD 7 undef = .slice (some ⟨gP, 0, none⟩) N cP) (u9 : x.tmps.getD 9 undef = .slice (some ⟨sb, 0, none⟩) m m) (u10 : x.tmps.getD 10 undef = .int .i64 (i : Nat)) (u11 : x.tmps.getD 11 undef = .int .i64 0) (u12 : x.tmps.getD 12 undef = .pointer (some ⟨b12, 0, none⟩))
    : wpOpIn Fc nC Try.prog gpb_ops Q 0 (fun a' w' => ∃ v, a' = x.put (some 98) v ∧ (v = .pointer (some ⟨b12, 0, none⟩)) ∧ Below w.heap.size w w') x w := by
  have ho : gpb_ops[0]? = some gpb_o0 := rfl
  simp only [Array.getD_eq_getD_getElem?] at u7 u9 u10 u11 u12
  refine wpOpIn_plain ho rfl (oper_inK hF.fn (fun K hK => ?_))
  clear ho
  rw [Oper.semAt_plain Fc _ _ (by intro c h; cases h)]
  simp only [gpb_o0]
  go_simp
  exact hK _ _ ⟨_, act_putD x hdef _ _, rfl, Below.refl _ _⟩
set_option maxRecDepth 100000 in
set_option maxHeartbeats 2000000 in
theorem gpbF_s1 {Fc : Fence} (hF : Wide Fc) {nC : Nat} (gP gX N cP np cX sb m b12 i q : Nat) (Q : Exit → Act → World → Prop) (df : List Deferred) (w0 : World)
    (hq : q < m) (hm : m ≤ 4000) (h0 : w0.cell? ⟨b12, 0, none⟩ = some (.int .i64 0)) (h1 : w0.cell? ⟨b12, 1, none⟩ = some (.int .i64 (q : Nat))) (h2 : w0.cell? ⟨sb, q, none⟩ = some (.bool false))
    (x : Act) (w : World) (hB : Below w0.heap.size w0 w) (hdef : x.defers = df) (u7 : x.tmps.getD 7 undef = .slice (some ⟨gP, 0, none⟩) N cP) (u9 : x.tmps.getD 9 undef = .slice (some ⟨sb, 0, none⟩) m m) (u10 : x.tmps.getD 10 undef = .int .i64 (i : Nat)) (u11 : x.tmps.getD 11 undef = .int .i64 0) (u12 : x.tmps.getD 12 undef = .pointer (some ⟨b12, 0, none⟩))
    (p0 : gpbF_val gP gX N cP np cX sb m b12 i q 0 (x.tmps.getD 98 undef) w)
    : wpOpIn Fc nC Try.prog gpb_ops Q 1 (fun a' w' => ∃ v, a' = x.put (some 99) v ∧ (v = .int .i64 0) ∧ Below w.heap.size w w') x w := by
  have ho : gpb_ops[1]? = some gpb_o1 := rfl
  simp only [Array.getD_eq_getD_getElem?] at u7 u9 u10 u11 u12
  have q0 : x.tmps.getD 98 undef = .pointer (some ⟨b12, 0, none⟩) := p0
  simp only [Array.getD_eq_getD_getElem?] at q0
  have u := cell_thru h0 hB
  refine wpOpIn_plain ho rfl (oper_inK hF.fn (fun K hK => ?_))
  clear ho
  rw [Oper.semAt_plain Fc _ _ (by intro c h; cases h)]
  simp only [gpb_o1]
  go_simp
  exact hK _ _ ⟨_, act_putD x hdef _ _, rfl, Below.refl _ _⟩
set_option maxRecDepth 100000 in
set_option maxHeartbeats 2000000 in
theorem gpbF_s2 {Fc : Fence} (hF : Wide Fc) {nC : Nat} (gP gX N cP np cX sb m b12 i q : Nat) (Q : Exit → Act → World → Prop) (df : List Deferred) (w0 : World)
    (hq : q < m) (hm : m ≤ 4000) (h0 : w0.cell? ⟨b12, 0, none⟩ = some (.int .i64 0)) (h1 : w0.cell? ⟨b12, 1, none⟩ = some (.int .i64 (q : Nat))) (h2 : w0.cell? ⟨sb, q, none⟩ = some (.bool false))
    (x : Act) (w : World) (hB : Below w0.heap.size w0 w) (hdef : x.defers = df) (u7 : x.tmps.getD 7 undef = .slice (some ⟨gP, 0, none⟩) N cP) (u9 : x.tmps.getD 9 undef = .slice (some ⟨sb, 0, none⟩) m m) (u10 : x.tmps.getD 10 undef = .int .i64 (i : Nat)) (u11 : x.tmps.getD 11 undef = .int .i64 0) (u12 : x.tmps.getD 12 undef = .pointer (some ⟨b12, 0, none⟩))
    (p1 : gpbF_val gP gX N cP np cX sb m b12 i q 1 (x.tmps.getD 99 undef) w)
    : wpOpIn Fc nC Try.prog gpb_ops Q 2 (fun a' w' => ∃ v, a' = x.put (some 100) v ∧ (v = .bool false) ∧ Below w.heap.size w w') x w := by
  have ho : gpb_ops[2]? = some gpb_o2 := rfl
  simp only [Array.getD_eq_getD_getElem?] at u7 u9 u10 u11 u12
  have q1 : x.tmps.getD 99 undef = .int .i64 0 := p1
  simp only [Array.getD_eq_getD_getElem?] at q1
  refine wpOpIn_plain ho rfl (oper_inK hF.fn (fun K hK => ?_))
  clear ho
  rw [Oper.semAt_plain Fc _ _ (by intro c h; cases h)]
  simp only [gpb_o2]
  go_simp
  exact hK _ _ ⟨_, act_putD x hdef _ _, rfl, Below.refl _ _⟩
set_option maxRecDepth 100000 in
set_option maxHeartbeats 2000000 in
theorem gpbF_s3 {Fc : Fence} (hF : Wide Fc) {nC : Nat} (gP gX N cP np cX sb m b12 i q : Nat) (Q : Exit → Act → World → Prop) (df : List Deferred) (w0 : World)
    (hq : q < m) (hm : m ≤ 4000) (h0 : w0.cell? ⟨b12, 0, none⟩ = some (.int .i64 0)) (h1 : w0.cell? ⟨b12, 1, none⟩ = some (.int .i64 (q : Nat))) (h2 : w0.cell? ⟨sb, q, none⟩ = some (.bool false))
    (x : Act) (w : World) (hB : Below w0.heap.size w0 w) (hdef : x.defers = df) (u7 : x.tmps.getD 7 undef = .slice (some ⟨gP, 0, none⟩) N cP) (u9 : x.tmps.getD 9 undef = .slice (some ⟨sb, 0, none⟩) m m) (u10 : x.tmps.getD 10 undef = .int .i64 (i : Nat)) (u11 : x.tmps.getD 11 undef = .int .i64 0) (u12 : x.tmps.getD 12 undef = .pointer (some ⟨b12, 0, none⟩))
    (p2 : gpbF_val gP gX N cP np cX sb m b12 i q 2 (x.tmps.getD 100 undef) w)
    : wpOpIn Fc nC Try.prog gpb_ops Q 3 (fun a' w' => ∃ v, a' = x.put (some 101) v ∧ (v = .bool false) ∧ Below w.heap.size w w') x w := by
  have ho : gpb_ops[3]? = some gpb_o3 := rfl
  simp only [Array.getD_eq_getD_getElem?] at u7 u9 u10 u11 u12
  have q2 : x.tmps.getD 100 undef = .bool false := p2
  simp only [Array.getD_eq_getD_getElem?] at q2
  refine wpOpIn_plain ho rfl (oper_inK hF.fn (fun K hK => ?_))
  clear ho
  rw [Oper.semAt_plain Fc _ _ (by intro c h; cases h)]
  simp only [gpb_o3]
  go_simp
  exact hK _ _ ⟨_, act_putD x hdef _ _, rfl, Below.refl _ _⟩
set_option maxRecDepth 100000 in
set_option maxHeartbeats 2000000 in
theorem gpbF_s4 {Fc : Fence} (hF : Wide Fc) {nC : Nat} (gP gX N cP np cX sb m b12 i q : Nat) (Q : Exit → Act → World → Prop) (df : List Deferred) (w0 : World)
    (hq : q < m) (hm : m ≤ 4000) (h0 : w0.cell? ⟨b12, 0, none⟩ = some (.int .i64 0)) (h1 : w0.cell? ⟨b12, 1, none⟩ = some (.int .i64 (q : Nat))) (h2 : w0.cell? ⟨sb, q, none⟩ = some (.bool false))
    (x : Act) (w : World) (hB : Below w0.heap.size w0 w) (hdef : x.defers = df) (u7 : x.tmps.getD 7 undef = .slice (some ⟨gP, 0, none⟩) N cP) (u9 : x.tmps.getD 9 undef = .slice (some ⟨sb, 0, none⟩) m m) (u10 : x.tmps.getD 10 undef = .int .i64 (i : Nat)) (u11 : x.tmps.getD 11 undef = .int .i64 0) (u12 : x.tmps.getD 12 undef = .pointer (some ⟨b12, 0, none⟩))
    (p3 : gpbF_val gP gX N cP np cX sb m b12 i q 3 (x.tmps.getD 101 undef) w)
    : wpOpIn Fc nC Try.prog gpb_ops Q 4 (fun a' w' => ∃ v, a' = x.put (some 102) v ∧ (v = .pointer (some ⟨b12, 1, none⟩)) ∧ Below w.heap.size w w') x w := by
  have ho : gpb_ops[4]? = some gpb_o4 := rfl
  simp only [Array.getD_eq_getD_getElem?] at u7 u9 u10 u11 u12
  have q3 : x.tmps.getD 101 undef = .bool false := p3
  simp only [Array.getD_eq_getD_getElem?] at q3
  have e3 : (gpb_ops[3]?.bind fun x => x.dst) = some 101 := rfl
  have g3 := get_someT q3 (fun h => by cases h)
  refine wpOpIn_stepT hF ho (fun K hK => ?_)
  clear ho
  rw [Oper.semAt_plain Fc _ _ (by intro c h; cases h)]
  simp only [gpb_o4]
  go_simp
  exact hK _ _ ⟨_, act_putD x hdef _ _, rfl, Below.refl _ _⟩
set_option maxRecDepth 100000 in
set_option maxHeartbeats 2000000 in
theorem gpbF_s5 {Fc : Fence} (hF : Wide Fc) {nC : Nat} (gP gX N cP np cX sb m b12 i q : Nat) (Q : Exit → Act → World → Prop) (df : List Deferred) (w0 : World)
    (hq : q < m) (hm : m ≤ 4000) (h0 : w0.cell? ⟨b12, 0, none⟩ = some (.int .i64 0)) (h1 : w0.cell? ⟨b12, 1, none⟩ = some (.int .i64 (q : Nat))) (h2 : w0.cell? ⟨sb, q, none⟩ = some (.bool false))
    (x : Act) (w : World) (hB : Below w0.heap.size w0 w) (hdef : x.defers = df) (u7 : x.tmps.getD 7 undef = .slice (some ⟨gP, 0, none⟩) N cP) (u9 : x.tmps.getD 9 undef = .slice (some ⟨sb, 0, none⟩) m m) (u10 : x.tmps.getD 10 undef = .int .i64 (i : Nat)) (u11 : x.tmps.getD 11 undef = .int .i64 0) (u12 : x.tmps.getD 12 undef = .pointer (some ⟨b12, 0, none⟩))
    (p4 : gpbF_val gP gX N cP np cX sb m b12 i q 4 (x.tmps.getD 102 undef) w)
    (p3 : gpbF_val gP gX N cP np cX sb m b12 i q 3 (x.tmps.getD 101 undef) w)
    : wpOpIn Fc nC Try.prog gpb_ops Q 5 (fun a' w' => ∃ v, a' = x.put (some 103) v ∧ (v = .int .i64 (q : Nat)) ∧ Below w.heap.size w w') x w := by
  have ho : gpb_ops[5]? = some gpb_o5 := rfl
  simp only [Array.getD_eq_getD_getElem?] at u7 u9 u10 u11 u12
  have q4 : x.tmps.getD 102 undef = .pointer (some ⟨b12, 1, none⟩) := p4
  have q3 : x.tmps.getD 101 undef = .bool false := p3
  simp only [Array.getD_eq_getD_getElem?] at q4 q3
  have e3 : (gpb_ops[3]?.bind fun x => x.dst) = some 101 := rfl
  have g3 := get_someT q3 (fun h => by cases h)
  have u := cell_thru h1 hB
  refine wpOpIn_stepT hF ho (fun K hK => ?_)
  clear ho
  rw [Oper.semAt_plain Fc _ _ (by intro c h; cases h)]
  simp only [gpb_o5]
  go_simp
  exact hK _ _ ⟨_, act_putD x hdef _ _, rfl, Below.refl _ _⟩
set_option maxRecDepth 100000 in
set_option maxHeartbeats 2000000 in
theorem gpbF_s6 {Fc : Fence} (hF : Wide Fc) {nC : Nat} (gP gX N cP np cX sb m b12 i q : Nat) (Q : Exit → Act → World → Prop) (df : List Deferred) (w0 : World)
    (hq : q < m) (hm : m ≤ 4000) (h0 : w0.cell? ⟨b12, 0, none⟩ = some (.int .i64 0)) (h1 : w0.cell? ⟨b12, 1, none⟩ = some (.int .i64 (q : Nat))) (h2 : w0.cell? ⟨sb, q, none⟩ = some (.bool false))
    (x : Act) (w : World) (hB : Below w0.heap.size w0 w) (hdef : x.defers = df) (u7 : x.tmps.getD 7 undef = .slice (some ⟨gP, 0, none⟩) N cP) (u9 : x.tmps.getD 9 undef = .slice (some ⟨sb, 0, none⟩) m m) (u10 : x.tmps.getD 10 undef = .int .i64 (i : Nat)) (u11 : x.tmps.getD 11 undef = .int .i64 0) (u12 : x.tmps.getD 12 undef = .pointer (some ⟨b12, 0, none⟩))
    (p5 : gpbF_val gP gX N cP np cX sb m b12 i q 5 (x.tmps.getD 103 undef) w)
    (p3 : gpbF_val gP gX N cP np cX sb m b12 i q 3 (x.tmps.getD 101 undef) w)
    : wpOpIn Fc nC Try.prog gpb_ops Q 6 (fun a' w' => ∃ v, a' = x.put (some 104) v ∧ (v = .bool false) ∧ Below w.heap.size w w') x w := by
  have ho : gpb_ops[6]? = some gpb_o6 := rfl
  simp only [Array.getD_eq_getD_getElem?] at u7 u9 u10 u11 u12
  have q5 : x.tmps.getD 103 undef = .int .i64 (q : Nat) := p5
  have q3 : x.tmps.getD 101 undef = .bool false := p3
  simp only [Array.getD_eq_getD_getElem?] at q5 q3
  have e3 : (gpb_ops[3]?.bind fun x => x.dst) = some 101 := rfl
  have g3 := get_someT q3 (fun h => by cases h)
  have u : ¬ ((q : Int) < 0) := by omega
  refine wpOpIn_stepT hF ho (fun K hK => ?_)
  clear ho
  rw [Oper.semAt_plain Fc _ _ (by intro c h; cases h)]
  simp only [gpb_o6]
  go_simp
  exact hK _ _ ⟨_, act_putD x hdef _ _, rfl, Below.refl _ _⟩
set_option maxRecDepth 100000 in
set_option maxHeartbeats 2000000 in
theorem gpbF_s7 {Fc : Fence} (hF : Wide Fc) {nC : Nat} (gP gX N cP np cX sb m b12 i q : Nat) (Q : Exit → Act → World → Prop) (df : List Deferred) (w0 : World)
    (hq : q < m) (hm : m ≤ 4000) (h0 : w0.cell? ⟨b12, 0, none⟩ = some (.int .i64 0)) (h1 : w0.cell? ⟨b12, 1, none⟩ = some (.int .i64 (q : Nat))) (h2 : w0.cell? ⟨sb, q, none⟩ = some (.bool false))
    (x : Act) (w : World) (hB : Below w0.heap.size w0 w) (hdef : x.defers = df) (u7 : x.tmps.getD 7 undef = .slice (some ⟨gP, 0, none⟩) N cP) (u9 : x.tmps.getD 9 undef = .slice (some ⟨sb, 0, none⟩) m m) (u10 : x.tmps.getD 10 undef = .int .i64 (i : Nat)) (u11 : x.tmps.getD 11 undef = .int .i64 0) (u12 : x.tmps.getD 12 undef = .pointer (some ⟨b12, 0, none⟩))
    (p3 : gpbF_val gP gX N cP np cX sb m b12 i q 3 (x.tmps.getD 101 undef) w)
    (p6 : gpbF_val gP gX N cP np cX sb m b12 i q 6 (x.tmps.getD 104 undef) w)
    : wpOpIn Fc nC Try.prog gpb_ops Q 7 (fun a' w' => ∃ v, a' = x.put (some 105) v ∧ (v = .bool false) ∧ Below w.heap.size w w') x w := by
  have ho : gpb_ops[7]? = some gpb_o7 := rfl
  simp only [Array.getD_eq_getD_getElem?] at u7 u9 u10 u11 u12
  have q3 : x.tmps.getD 101 undef = .bool false := p3
  have q6 : x.tmps.getD 104 undef = .bool false := p6
  simp only [Array.getD_eq_getD_getElem?] at q3 q6
  refine wpOpIn_plain ho rfl (oper_inK hF.fn (fun K hK => ?_))
  clear ho
  rw [Oper.semAt_plain Fc _ _ (by intro c h; cases h)]
  simp only [gpb_o7]
  go_simp
  exact hK _ _ ⟨_, act_putD x hdef _ _, rfl, Below.refl _ _⟩
set_option maxRecDepth 100000 in
set_option maxHeartbeats 2000000 in
theorem gpbF_s8 {Fc : Fence} (hF : Wide Fc) {nC : Nat} (gP gX N cP np cX sb m b12 i q : Nat) (Q : Exit → Act → World → Prop) (df : List Deferred) (w0 : World)
    (hq : q < m) (hm : m ≤ 4000) (h0 : w0.cell? ⟨b12, 0, none⟩ = some (.int .i64 0)) (h1 : w0.cell? ⟨b12, 1, none⟩ = some (.int .i64 (q : Nat))) (h2 : w0.cell? ⟨sb, q, none⟩ = some (.bool false))
    (x : Act) (w : World) (hB : Below w0.heap.size w0 w) (hdef : x.defers = df) (u7 : x.tmps.getD 7 undef = .slice (some ⟨gP, 0, none⟩) N cP) (u9 : x.tmps.getD 9 undef = .slice (some ⟨sb, 0, none⟩) m m) (u10 : x.tmps.getD 10 undef = .int .i64 (i : Nat)) (u11 : x.tmps.getD 11 undef = .int .i64 0) (u12 : x.tmps.getD 12 undef = .pointer (some ⟨b12, 0, none⟩))
    (p7 : gpbF_val gP gX N cP np cX sb m b12 i q 7 (x.tmps.getD 105 undef) w)
    : wpOpIn Fc nC Try.prog gpb_ops Q 8 (fun a' w' => ∃ v, a' = x.put (some 106) v ∧ (v = .bool false) ∧ Below w.heap.size w w') x w := by
  have ho : gpb_ops[8]? = some gpb_o8 := rfl
  simp only [Array.getD_eq_getD_getElem?] at u7 u9 u10 u11 u12
  have q7 : x.tmps.getD 105 undef = .bool false := p7
  simp only [Array.getD_eq_getD_getElem?] at q7
  refine wpOpIn_plain ho rfl (oper_inK hF.fn (fun K hK => ?_))
  clear ho
  rw [Oper.semAt_plain Fc _ _ (by intro c h; cases h)]
  simp only [gpb_o8]
  go_simp
  exact hK _ _ ⟨_, act_putD x hdef _ _, rfl, Below.refl _ _⟩
set_option maxRecDepth 100000 in
set_option maxHeartbeats 2000000 in
theorem gpbF_s9 {Fc : Fence} (hF : Wide Fc) {nC : Nat} (gP gX N cP np cX sb m b12 i q : Nat) (Q : Exit → Act → World → Prop) (df : List Deferred) (w0 : World)
    (hq : q < m) (hm : m ≤ 4000) (h0 : w0.cell? ⟨b12, 0, none⟩ = some (.int .i64 0)) (h1 : w0.cell? ⟨b12, 1, none⟩ = some (.int .i64 (q : Nat))) (h2 : w0.cell? ⟨sb, q, none⟩ = some (.bool false))
    (x : Act) (w : World) (hB : Below w0.heap.size w0 w) (hdef : x.defers = df) (u7 : x.tmps.getD 7 undef = .slice (some ⟨gP, 0, none⟩) N cP) (u9 : x.tmps.getD 9 undef = .slice (some ⟨sb, 0, none⟩) m m) (u10 : x.tmps.getD 10 undef = .int .i64 (i : Nat)) (u11 : x.tmps.getD 11 undef = .int .i64 0) (u12 : x.tmps.getD 12 undef = .pointer (some ⟨b12, 0, none⟩))
    (p8 : gpbF_val gP gX N cP np cX sb m b12 i q 8 (x.tmps.getD 106 undef) w)
    : wpOpIn Fc nC Try.prog gpb_ops Q 9 (fun a' w' => ∃ v, a' = x.put (some 107) v ∧ (v = .pointer (some ⟨b12, 1, none⟩)) ∧ Below w.heap.size w w') x w := by
  have ho : gpb_ops[9]? = some gpb_o9 := rfl
  simp only [Array.getD_eq_getD_getElem?] at u7 u9 u10 u11 u12
  have q8 : x.tmps.getD 106 undef = .bool false := p8
  simp only [Array.getD_eq_getD_getElem?] at q8
  have e8 : (gpb_ops[8]?.bind fun x => x.dst) = some 106 := rfl
  have g8 := get_someT q8 (fun h => by cases h)
  refine wpOpIn_stepT hF ho (fun K hK => ?_)
  clear ho
  rw [Oper.semAt_plain Fc _ _ (by intro c h; cases h)]
  simp only [gpb_o9]
  go_simp
  exact hK _ _ ⟨_, act_putD x hdef _ _, rfl, Below.refl _ _⟩
set_option maxRecDepth 100000 in
set_option maxHeartbeats 2000000 in
theorem gpbF_s10 {Fc : Fence} (hF : Wide Fc) {nC : Nat} (gP gX N cP np cX sb m b12 i q : Nat) (Q : Exit → Act → World → Prop) (df : List Deferred) (w0 : World)
    (hq : q < m) (hm : m ≤ 4000) (h0 : w0.cell? ⟨b12, 0, none⟩ = some (.int .i64 0)) (h1 : w0.cell? ⟨b12, 1, none⟩ = some (.int .i64 (q : Nat))) (h2 : w0.cell? ⟨sb, q, none⟩ = some (.bool false))
    (x : Act) (w : World) (hB : Below w0.heap.size w0 w) (hdef : x.defers = df) (u7 : x.tmps.getD 7 undef = .slice (some ⟨gP, 0, none⟩) N cP) (u9 : x.tmps.getD 9 undef = .slice (some ⟨sb, 0, none⟩) m m) (u10 : x.tmps.getD 10 undef = .int .i64 (i : Nat)) (u11 : x.tmps.getD 11 undef = .int .i64 0) (u12 : x.tmps.getD 12 undef = .pointer (some ⟨b12, 0, none⟩))
    (p9 : gpbF_val gP gX N cP np cX sb m b12 i q 9 (x.tmps.getD 107 undef) w)
    (p8 : gpbF_val gP gX N cP np cX sb m b12 i q 8 (x.tmps.getD 106 undef) w)
    : wpOpIn Fc nC Try.prog gpb_ops Q 10 (fun a' w' => ∃ v, a' = x.put (some 108) v ∧ (v = .int .i64 (q : Nat)) ∧ Below w.heap.size w w') x w := by
  have ho : gpb_ops[10]? = some gpb_o10 := rfl
  simp only [Array.getD_eq_getD_getElem?] at u7 u9 u10 u11 u12
  have q9 : x.tmps.getD 107 undef = .pointer (some ⟨b12, 1, none⟩) := p9
  have q8 : x.tmps.getD 106 undef = .bool false := p8
  simp only [Array.getD_eq_getD_getElem?] at q9 q8
  have e8 : (gpb_ops[8]?.bind fun x => x.dst) = some 106 := rfl
  have g8 := get_someT q8 (fun h => by cases h)
  have u := cell_thru h1 hB
  refine wpOpIn_stepT hF ho (fun K hK => ?_)
  clear ho
  rw [Oper.semAt_plain Fc _ _ (by intro c h; cases h)]
  simp only [gpb_o10]
  go_simp
  exact hK _ _ ⟨_, act_putD x hdef _ _, rfl, Below.refl _ _⟩
set_option maxRecDepth 100000 in
set_option maxHeartbeats 2000000 in
theorem gpbF_s11 {Fc : Fence} (hF : Wide Fc) {nC : Nat} (gP gX N cP np cX sb m b12 i q : Nat) (Q : Exit → Act → World → Prop) (df : List Deferred) (w0 : World)
    (hq : q < m) (hm : m ≤ 4000) (h0 : w0.cell? ⟨b12, 0, none⟩ = some (.int .i64 0)) (h1 : w0.cell? ⟨b12, 1, none⟩ = some (.int .i64 (q : Nat))) (h2 : w0.cell? ⟨sb, q, none⟩ = some (.bool false))
    (x : Act) (w : World) (hB : Below w0.heap.size w0 w) (hdef : x.defers = df) (u7 : x.tmps.getD 7 undef = .slice (some ⟨gP, 0, none⟩) N cP) (u9 : x.tmps.getD 9 undef = .slice (some ⟨sb, 0, none⟩) m m) (u10 : x.tmps.getD 10 undef = .int .i64 (i : Nat)) (u11 : x.tmps.getD 11 undef = .int .i64 0) (u12 : x.tmps.getD 12 undef = .pointer (some ⟨b12, 0, none⟩))
    (p8 : gpbF_val gP gX N cP np cX sb m b12 i q 8 (x.tmps.getD 106 undef) w)
    : wpOpIn Fc nC Try.prog gpb_ops Q 11 (fun a' w' => ∃ v, a' = x.put (some 109) v ∧ (v = .slice (some ⟨sb, 0, none⟩) m m) ∧ Below w.heap.size w w') x w := by
  have ho : gpb_ops[11]? = some gpb_o11 := rfl
  simp only [Array.getD_eq_getD_getElem?] at u7 u9 u10 u11 u12
  have q8 : x.tmps.getD 106 undef = .bool false := p8
  simp only [Array.getD_eq_getD_getElem?] at q8
  have e8 : (gpb_ops[8]?.bind fun x => x.dst) = some 106 := rfl
  have g8 := get_someT q8 (fun h => by cases h)
  refine wpOpIn_stepT hF ho (fun K hK => ?_)
  clear ho
  rw [Oper.semAt_plain Fc _ _ (by intro c h; cases h)]
  simp only [gpb_o11]
  go_simp
  exact hK _ _ ⟨_, act_putD x hdef _ _, rfl, Below.refl _ _⟩
set_option maxRecDepth 100000 in
set_option maxHeartbeats 2000000 in
theorem gpbF_s12 {Fc : Fence} (hF : Wide Fc) {nC : Nat} (gP gX N cP np cX sb m b12 i q : Nat) (Q : Exit → Act → World → Prop) (df : List Deferred) (w0 : World)
    (hq : q < m) (hm : m ≤ 4000) (h0 : w0.cell? ⟨b12, 0, none⟩ = some (.int .i64 0)) (h1 : w0.cell? ⟨b12, 1, none⟩ = some (.int .i64 (q : Nat))) (h2 : w0.cell? ⟨sb, q, none⟩ = some (.bool false))
    (x : Act) (w : World) (hB : Below w0.heap.size w0 w) (hdef : x.defers = df) (u7 : x.tmps.getD 7 undef = .slice (some ⟨gP, 0, none⟩) N cP) (u9 : x.tmps.getD 9 undef = .slice (some ⟨sb, 0, none⟩) m m) (u10 : x.tmps.getD 10 undef = .int .i64 (i : Nat)) (u11 : x.tmps.getD 11 undef = .int .i64 0) (u12 : x.tmps.getD 12 undef = .pointer (some ⟨b12, 0, none⟩))
    (p11 : gpbF_val gP gX N cP np cX sb m b12 i q 11 (x.tmps.getD 109 undef) w)
    (p8 : gpbF_val gP gX N cP np cX sb m b12 i q 8 (x.tmps.getD 106 undef) w)
    : wpOpIn Fc nC Try.prog gpb_ops Q 12 (fun a' w' => ∃ v, a' = x.put (some 110) v ∧ (v = .int .i64 (m : Nat)) ∧ Below w.heap.size w w') x w := by
  have ho : gpb_ops[12]? = some gpb_o12 := rfl
  simp only [Array.getD_eq_getD_getElem?] at u7 u9 u10 u11 u12
  have q11 : x.tmps.getD 109 undef = .slice (some ⟨sb, 0, none⟩) m m := p11
  have q8 : x.tmps.getD 106 undef = .bool false := p8
  simp only [Array.getD_eq_getD_getElem?] at q11 q8
  have e8 : (gpb_ops[8]?.bind fun x => x.dst) = some 106 := rfl
  have g8 := get_someT q8 (fun h => by cases h)
  refine wpOpIn_stepT hF ho (fun K hK => ?_)
  clear ho
  rw [Oper.semAt_plain Fc _ _ (by intro c h; cases h)]
  simp only [gpb_o12]
  go_simp
  exact hK _ _ ⟨_, act_putD x hdef _ _, rfl, Below.refl _ _⟩
set_option maxRecDepth 100000 in
set_option maxHeartbeats 2000000 in
theorem gpbF_s13 {Fc : Fence} (hF : Wide Fc) {nC : Nat} (gP gX N cP np cX sb m b12 i q : Nat) (Q : Exit → Act → World → Prop) (df : List Deferred) (w0 : World)
    (hq : q < m) (hm : m ≤ 4000) (h0 : w0.cell? ⟨b12, 0, none⟩ = some (.int .i64 0)) (h1 : w0.cell? ⟨b12, 1, none⟩ = some (.int .i64 (q : Nat))) (h2 : w0.cell? ⟨sb, q, none⟩ = some (.bool false))
    (x : Act) (w : World) (hB : Below w0.heap.size w0 w) (hdef : x.defers = df) (u7 : x.tmps.getD 7 undef = .slice (some ⟨gP, 0, none⟩) N cP) (u9 : x.tmps.getD 9 undef = .slice (some ⟨sb, 0, none⟩) m m) (u10 : x.tmps.getD 10 undef = .int .i64 (i : Nat)) (u11 : x.tmps.getD 11 undef = .int .i64 0) (u12 : x.tmps.getD 12 undef = .pointer (some ⟨b12, 0, none⟩))
    (p10 : gpbF_val gP gX N cP np cX sb m b12 i q 10 (x.tmps.getD 108 undef) w)
    (p12 : gpbF_val gP gX N cP np cX sb m b12 i q 12 (x.tmps.getD 110 undef) w)
    (p8 : gpbF_val gP gX N cP np cX sb m b12 i q 8 (x.tmps.getD 106 undef) w)
    : wpOpIn Fc nC Try.prog gpb_ops Q 13 (fun a' w' => ∃ v, a' = x.put (some 111) v ∧ (v = .bool false) ∧ Below w.heap.size w w') x w := by
  have ho : gpb_ops[13]? = some gpb_o13 := rfl
  simp only [Array.getD_eq_getD_getElem?] at u7 u9 u10 u11 u12
  have q10 : x.tmps.getD 108 undef = .int .i64 (q : Nat) := p10
  have q12 : x.tmps.getD 110 undef = .int .i64 (m : Nat) := p12
  have q8 : x.tmps.getD 106 undef = .bool false := p8
  simp only [Array.getD_eq_getD_getElem?] at q10 q12 q8
  have e8 : (gpb_ops[8]?.bind fun x => x.dst) = some 106 := rfl
  have g8 := get_someT q8 (fun h => by cases h)
  have u : ¬ ((m : Int) ≤ (q : Int)) := by omega
  refine wpOpIn_stepT hF ho (fun K hK => ?_)
  clear ho
  rw [Oper.semAt_plain Fc _ _ (by intro c h; cases h)]
  simp only [gpb_o13]
  go_simp
  exact hK _ _ ⟨_, act_putD x hdef _ _, rfl, Below.refl _ _⟩
set_option maxRecDepth 100000 in
set_option maxHeartbeats 2000000 in
theorem gpbF_s14 {Fc : Fence} (hF : Wide Fc) {nC : Nat} (gP gX N cP np cX sb m b12 i q : Nat) (Q : Exit → Act → World → Prop) (df : List Deferred) (w0 : World)
    (hq : q < m) (hm : m ≤ 4000) (h0 : w0.cell? ⟨b12, 0, none⟩ = some (.int .i64 0)) (h1 : w0.cell? ⟨b12, 1, none⟩ = some (.int .i64 (q : Nat))) (h2 : w0.cell? ⟨sb, q, none⟩ = some (.bool false))
    (x : Act) (w : World) (hB : Below w0.heap.size w0 w) (hdef : x.defers = df) (u7 : x.tmps.getD 7 undef = .slice (some ⟨gP, 0, none⟩) N cP) (u9 : x.tmps.getD 9 undef = .slice (some ⟨sb, 0, none⟩) m m) (u10 : x.tmps.getD 10 undef = .int .i64 (i : Nat)) (u11 : x.tmps.getD 11 undef = .int .i64 0) (u12 : x.tmps.getD 12 undef = .pointer (some ⟨b12, 0, none⟩))
    (p8 : gpbF_val gP gX N cP np cX sb m b12 i q 8 (x.tmps.getD 106 undef) w)
    (p13 : gpbF_val gP gX N cP np cX sb m b12 i q 13 (x.tmps.getD 111 undef) w)
    : wpOpIn Fc nC Try.prog gpb_ops Q 14 (fun a' w' => ∃ v, a' = x.put (some 112) v ∧ (v = .bool false) ∧ Below w.heap.size w w') x w := by
  have ho : gpb_ops[14]? = some gpb_o14 := rfl
  simp only [Array.getD_eq_getD_getElem?] at u7 u9 u10 u11 u12
  have q8 : x.tmps.getD 106 undef = .bool false := p8
  have q13 : x.tmps.getD 111 undef = .bool false := p13
  simp only [Array.getD_eq_getD_getElem?] at q8 q13
  refine wpOpIn_plain ho rfl (oper_inK hF.fn (fun K hK => ?_))
  clear ho
  rw [Oper.semAt_plain Fc _ _ (by intro c h; cases h)]
  simp only [gpb_o14]
  go_simp
  exact hK _ _ ⟨_, act_putD x hdef _ _, rfl, Below.refl _ _⟩
set_option maxRecDepth 100000 in
set_option maxHeartbeats 2000000 in
theorem gpbF_s15 {Fc : Fence} (hF : Wide Fc) {nC : Nat} (gP gX N cP np cX sb m b12 i q : Nat) (Q : Exit → Act → World → Prop) (df : List Deferred) (w0 : World)
    (hq : q < m) (hm : m ≤ 4000) (h0 : w0.cell? ⟨b12, 0, none⟩ = some (.int .i64 0)) (h1 : w0.cell? ⟨b12, 1, none⟩ = some (.int .i64 (q : Nat))) (h2 : w0.cell? ⟨sb, q, none⟩ = some (.bool false))
    (x : Act) (w : World) (hB : Below w0.heap.size w0 w) (hdef : x.defers = df) (u7 : x.tmps.getD 7 undef = .slice (some ⟨gP, 0, none⟩) N cP) (u9 : x.tmps.getD 9 undef = .slice (some ⟨sb, 0, none⟩) m m) (u10 : x.tmps.getD 10 undef = .int .i64 (i : Nat)) (u11 : x.tmps.getD 11 undef = .int .i64 0) (u12 : x.tmps.getD 12 undef = .pointer (some ⟨b12, 0, none⟩))
    (p14 : gpbF_val gP gX N cP np cX sb m b12 i q 14 (x.tmps.getD 112 undef) w)
    : wpOpIn Fc nC Try.prog gpb_ops Q 15 (fun a' w' => ∃ v, a' = x.put (some 113) v ∧ (v = .bool false) ∧ Below w.heap.size w w') x w := by
  have ho : gpb_ops[15]? = some gpb_o15 := rfl
  simp only [Array.getD_eq_getD_getElem?] at u7 u9 u10 u11 u12
  have q14 : x.tmps.getD 112 undef = .bool false := p14
  simp only [Array.getD_eq_getD_getElem?] at q14
  refine wpOpIn_plain ho rfl (oper_inK hF.fn (fun K hK => ?_))
  clear ho
  rw [Oper.semAt_plain Fc _ _ (by intro c h; cases h)]
  simp only [gpb_o15]
  go_simp
  exact hK _ _ ⟨_, act_putD x hdef _ _, rfl, Below.refl _ _⟩
set_option maxRecDepth 100000 in
set_option maxHeartbeats 2000000 in
theorem gpbF_s16 {Fc : Fence} (hF : Wide Fc) {nC : Nat} (gP gX N cP np cX sb m b12 i q : Nat) (Q : Exit → Act → World → Prop) (df : List Deferred) (w0 : World)
    (hq : q < m) (hm : m ≤ 4000) (h0 : w0.cell? ⟨b12, 0, none⟩ = some (.int .i64 0)) (h1 : w0.cell? ⟨b12, 1, none⟩ = some (.int .i64 (q : Nat))) (h2 : w0.cell? ⟨sb, q, none⟩ = some (.bool false))
    (x : Act) (w : World) (hB : Below w0.heap.size w0 w) (hdef : x.defers = df) (u7 : x.tmps.getD 7 undef = .slice (some ⟨gP, 0, none⟩) N cP) (u9 : x.tmps.getD 9 undef = .slice (some ⟨sb, 0, none⟩) m m) (u10 : x.tmps.getD 10 undef = .int .i64 (i : Nat)) (u11 : x.tmps.getD 11 undef = .int .i64 0) (u12 : x.tmps.getD 12 undef = .pointer (some ⟨b12, 0, none⟩))
    (p15 : gpbF_val gP gX N cP np cX sb m b12 i q 15 (x.tmps.getD 113 undef) w)
    : wpOpIn Fc nC Try.prog gpb_ops Q 16 (fun a' w' => ∃ v, a' = x.put (some 114) v ∧ (v = .slice (some ⟨sb, 0, none⟩) m m) ∧ Below w.heap.size w w') x w := by
  have ho : gpb_ops[16]? = some gpb_o16 := rfl
  simp only [Array.getD_eq_getD_getElem?] at u7 u9 u10 u11 u12
  have q15 : x.tmps.getD 113 undef = .bool false := p15
  simp only [Array.getD_eq_getD_getElem?] at q15
  have e15 : (gpb_ops[15]?.bind fun x => x.dst) = some 113 := rfl
  have g15 := get_someT q15 (fun h => by cases h)
  refine wpOpIn_stepT hF ho (fun K hK => ?_)
  clear ho
  rw [Oper.semAt_plain Fc _ _ (by intro c h; cases h)]
  simp only [gpb_o16]
  go_simp
  exact hK _ _ ⟨_, act_putD x hdef _ _, rfl, Below.refl _ _⟩
set_option maxRecDepth 100000 in
set_option maxHeartbeats 2000000 in
theorem gpbF_s17 {Fc : Fence} (hF : Wide Fc) {nC : Nat} (gP gX N cP np cX sb m b12 i q : Nat) (Q : Exit → Act → World → Prop) (df : List Deferred) (w0 : World)
    (hq : q < m) (hm : m ≤ 4000) (h0 : w0.cell? ⟨b12, 0, none⟩ = some (.int .i64 0)) (h1 : w0.cell? ⟨b12, 1, none⟩ = some (.int .i64 (q : Nat))) (h2 : w0.cell? ⟨sb, q, none⟩ = some (.bool false))
    (x : Act) (w : World) (hB : Below w0.heap.size w0 w) (hdef : x.defers = df) (u7 : x.tmps.getD 7 undef = .slice (some ⟨gP, 0, none⟩) N cP) (u9 : x.tmps.getD 9 undef = .slice (some ⟨sb, 0, none⟩) m m) (u10 : x.tmps.getD 10 undef = .int .i64 (i : Nat)) (u11 : x.tmps.getD 11 undef = .int .i64 0) (u12 : x.tmps.getD 12 undef = .pointer (some ⟨b12, 0, none⟩))
    (p15 : gpbF_val gP gX N cP np cX sb m b12 i q 15 (x.tmps.getD 113 undef) w)
    : wpOpIn Fc nC Try.prog gpb_ops Q 17 (fun a' w' => ∃ v, a' = x.put (some 115) v ∧ (v = .pointer (some ⟨b12, 1, none⟩)) ∧ Below w.heap.size w w') x w := by
  have ho : gpb_ops[17]? = some gpb_o17 := rfl
  simp only [Array.getD_eq_getD_getElem?] at u7 u9 u10 u11 u12
  have q15 : x.tmps.getD 113 undef = .bool false := p15
  simp only [Array.getD_eq_getD_getElem?] at q15
  have e15 : (gpb_ops[15]?.bind fun x => x.dst) = some 113 := rfl
  have g15 := get_someT q15 (fun h => by cases h)
  refine wpOpIn_stepT hF ho (fun K hK => ?_)
  clear ho
  rw [Oper.semAt_plain Fc _ _ (by intro c h; cases h)]
  simp only [gpb_o17]
  go_simp
  exact hK _ _ ⟨_, act_putD x hdef _ _, rfl, Below.refl _ _⟩
set_option maxRecDepth 100000 in
set_option maxHeartbeats 2000000 in
theorem gpbF_s18 {Fc : Fence} (hF : Wide Fc) {nC : Nat} (gP gX N cP np cX sb m b12 i q : Nat) (Q : Exit → Act → World → Prop) (df : List Deferred) (w0 : World)
    (hq : q < m) (hm : m ≤ 4000) (h0 : w0.cell? ⟨b12, 0, none⟩ = some (.int .i64 0)) (h1 : w0.cell? ⟨b12, 1, none⟩ = some (.int .i64 (q : Nat))) (h2 : w0.cell? ⟨sb, q, none⟩ = some (.bool false))
    (x : Act) (w : World) (hB : Below w0.heap.size w0 w) (hdef : x.defers = df) (u7 : x.tmps.getD 7 undef = .slice (some ⟨gP, 0, none⟩) N cP) (u9 : x.tmps.getD 9 undef = .slice (some ⟨sb, 0, none⟩) m m) (u10 : x.tmps.getD 10 undef = .int .i64 (i : Nat)) (u11 : x.tmps.getD 11 undef = .int .i64 0) (u12 : x.tmps.getD 12 undef = .pointer (some ⟨b12, 0, none⟩))
    (p17 : gpbF_val gP gX N cP np cX sb m b12 i q 17 (x.tmps.getD 115 undef) w)
    (p15 : gpbF_val gP gX N cP np cX sb m b12 i q 15 (x.tmps.getD 113 undef) w)
    : wpOpIn Fc nC Try.prog gpb_ops Q 18 (fun a' w' => ∃ v, a' = x.put (some 116) v ∧ (v = .int .i64 (q : Nat)) ∧ Below w.heap.size w w') x w := by
  have ho : gpb_ops[18]? = some gpb_o18 := rfl
  simp only [Array.getD_eq_getD_getElem?] at u7 u9 u10 u11 u12
  have q17 : x.tmps.getD 115 undef = .pointer (some ⟨b12, 1, none⟩) := p17
  have q15 : x.tmps.getD 113 undef = .bool false := p15
  simp only [Array.getD_eq_getD_getElem?] at q17 q15
  have e15 : (gpb_ops[15]?.bind fun x => x.dst) = some 113 := rfl
  have g15 := get_someT q15 (fun h => by cases h)
  have u := cell_thru h1 hB
  refine wpOpIn_stepT hF ho (fun K hK => ?_)
  clear ho
  rw [Oper.semAt_plain Fc _ _ (by intro c h; cases h)]
  simp only [gpb_o18]
  go_simp
  exact hK _ _ ⟨_, act_putD x hdef _ _, rfl, Below.refl _ _⟩
set_option maxRecDepth 100000 in
set_option maxHeartbeats 2000000 in
theorem gpbF_s19 {Fc : Fence} (hF : Wide Fc) {nC : Nat} (gP gX N cP np cX sb m b12 i q : Nat) (Q : Exit → Act → World → Prop) (df : List Deferred) (w0 : World)
    (hq : q < m) (hm : m ≤ 4000) (h0 : w0.cell? ⟨b12, 0, none⟩ = some (.int .i64 0)) (h1 : w0.cell? ⟨b12, 1, none⟩ = some (.int .i64 (q : Nat))) (h2 : w0.cell? ⟨sb, q, none⟩ = some (.bool false))
    (x : Act) (w : World) (hB : Below w0.heap.size w0 w) (hdef : x.defers = df) (u7 : x.tmps.getD 7 undef = .slice (some ⟨gP, 0, none⟩) N cP) (u9 : x.tmps.getD 9 undef = .slice (some ⟨sb, 0, none⟩) m m) (u10 : x.tmps.getD 10 undef = .int .i64 (i : Nat)) (u11 : x.tmps.getD 11 undef = .int .i64 0) (u12 : x.tmps.getD 12 undef = .pointer (some ⟨b12, 0, none⟩))
    (p16 : gpbF_val gP gX N cP np cX sb m b12 i q 16 (x.tmps.getD 114 undef) w)
    (p18 : gpbF_val gP gX N cP np cX sb m b12 i q 18 (x.tmps.getD 116 undef) w)
    (p15 : gpbF_val gP gX N cP np cX sb m b12 i q 15 (x.tmps.getD 113 undef) w)
    : wpOpIn Fc nC Try.prog gpb_ops Q 19 (fun a' w' => ∃ v, a' = x.put (some 117) v ∧ (v = .pointer (some ⟨sb, q, none⟩)) ∧ Below w.heap.size w w') x w := by
  have ho : gpb_ops[19]? = some gpb_o19 := rfl
  simp only [Array.getD_eq_getD_getElem?] at u7 u9 u10 u11 u12
  have q16 : x.tmps.getD 114 undef = .slice (some ⟨sb, 0, none⟩) m m := p16
  have q18 : x.tmps.getD 116 undef = .int .i64 (q : Nat) := p18
  have q15 : x.tmps.getD 113 undef = .bool false := p15
  simp only [Array.getD_eq_getD_getElem?] at q16 q18 q15
  have e15 : (gpb_ops[15]?.bind fun x => x.dst) = some 113 := rfl
  have g15 := get_someT q15 (fun h => by cases h)
  have i0 : (0 : Int) ≤ (q : Int) := by omega
  have i1 : (q : Int) < (m : Int) := by omega
  refine wpOpIn_stepT hF ho (fun K hK => ?_)
  clear ho
  rw [Oper.semAt_plain Fc _ _ (by intro c h; cases h)]
  simp only [gpb_o19]
  go_simp
  exact hK _ _ ⟨_, act_putD x hdef _ _, rfl, Below.refl _ _⟩
set_option maxRecDepth 100000 in
set_option maxHeartbeats 2000000 in
theorem gpbF_s20 {Fc : Fence} (hF : Wide Fc) {nC : Nat} (gP gX N cP np cX sb m b12 i q : Nat) (Q : Exit → Act → World → Prop) (df : List Deferred) (w0 : World)
    (hq : q < m) (hm : m ≤ 4000) (h0 : w0.cell? ⟨b12, 0, none⟩ = some (.int .i64 0)) (h1 : w0.cell? ⟨b12, 1, none⟩ = some (.int .i64 (q : Nat))) (h2 : w0.cell? ⟨sb, q, none⟩ = some (.bool false))
    (x : Act) (w : World) (hB : Below w0.heap.size w0 w) (hdef : x.defers = df) (u7 : x.tmps.getD 7 undef = .slice (some ⟨gP, 0, none⟩) N cP) (u9 : x.tmps.getD 9 undef = .slice (some ⟨sb, 0, none⟩) m m) (u10 : x.tmps.getD 10 undef = .int .i64 (i : Nat)) (u11 : x.tmps.getD 11 undef = .int .i64 0) (u12 : x.tmps.getD 12 undef = .pointer (some ⟨b12, 0, none⟩))
    (p19 : gpbF_val gP gX N cP np cX sb m b12 i q 19 (x.tmps.getD 117 undef) w)
    (p15 : gpbF_val gP gX N cP np cX sb m b12 i q 15 (x.tmps.getD 113 undef) w)
    : wpOpIn Fc nC Try.prog gpb_ops Q 20 (fun a' w' => ∃ v, a' = x.put (some 118) v ∧ (v = .bool false) ∧ Below w.heap.size w w') x w := by
  have ho : gpb_ops[20]? = some gpb_o20 := rfl
  simp only [Array.getD_eq_getD_getElem?] at u7 u9 u10 u11 u12
  have q19 : x.tmps.getD 117 undef = .pointer (some ⟨sb, q, none⟩) := p19
  have q15 : x.tmps.getD 113 undef = .bool false := p15
  simp only [Array.getD_eq_getD_getElem?] at q19 q15
  have e15 : (gpb_ops[15]?.bind fun x => x.dst) = some 113 := rfl
  have g15 := get_someT q15 (fun h => by cases h)
  have u := cell_thru h2 hB
  refine wpOpIn_stepT hF ho (fun K hK => ?_)
  clear ho
  rw [Oper.semAt_plain Fc _ _ (by intro c h; cases h)]
  simp only [gpb_o20]
  go_simp
  exact hK _ _ ⟨_, act_putD x hdef _ _, rfl, Below.refl _ _⟩
set_option maxRecDepth 100000 in
set_option maxHeartbeats 2000000 in
theorem gpbF_s21 {Fc : Fence} (hF : Wide Fc) {nC : Nat} (gP gX N cP np cX sb m b12 i q : Nat) (Q : Exit → Act → World → Prop) (df : List Deferred) (w0 : World)
    (hq : q < m) (hm : m ≤ 4000) (h0 : w0.cell? ⟨b12, 0, none⟩ = some (.int .i64 0)) (h1 : w0.cell? ⟨b12, 1, none⟩ = some (.int .i64 (q : Nat))) (h2 : w0.cell? ⟨sb, q, none⟩ = some (.bool false))
    (x : Act) (w : World) (hB : Below w0.heap.size w0 w) (hdef : x.defers = df) (u7 : x.tmps.getD 7 undef = .slice (some ⟨gP, 0, none⟩) N cP) (u9 : x.tmps.getD 9 undef = .slice (some ⟨sb, 0, none⟩) m m) (u10 : x.tmps.getD 10 undef = .int .i64 (i : Nat)) (u11 : x.tmps.getD 11 undef = .int .i64 0) (u12 : x.tmps.getD 12 undef = .pointer (some ⟨b12, 0, none⟩))
    (p15 : gpbF_val gP gX N cP np cX sb m b12 i q 15 (x.tmps.getD 113 undef) w)
    (p20 : gpbF_val gP gX N cP np cX sb m b12 i q 20 (x.tmps.getD 118 undef) w)
    : wpOpIn Fc nC Try.prog gpb_ops Q 21 (fun a' w' => ∃ v, a' = x.put (some 119) v ∧ (v = .bool false) ∧ Below w.heap.size w w') x w := by
  have ho : gpb_ops[21]? = some gpb_o21 := rfl
  simp only [Array.getD_eq_getD_getElem?] at u7 u9 u10 u11 u12
  have q15 : x.tmps.getD 113 undef = .bool false := p15
  have q20 : x.tmps.getD 118 undef = .bool false := p20
  simp only [Array.getD_eq_getD_getElem?] at q15 q20
  refine wpOpIn_plain ho rfl (oper_inK hF.fn (fun K hK => ?_))
  clear ho
  rw [Oper.semAt_plain Fc _ _ (by intro c h; cases h)]
  simp only [gpb_o21]
  go_simp
  exact hK _ _ ⟨_, act_putD x hdef _ _, rfl, Below.refl _ _⟩
set_option maxRecDepth 100000 in
set_option maxHeartbeats 2000000 in
theorem gpbF_s22 {Fc : Fence} (hF : Wide Fc) {nC : Nat} (gP gX N cP np cX sb m b12 i q : Nat) (Q : Exit → Act → World → Prop) (df : List Deferred) (w0 : World)
    (hq : q < m) (hm : m ≤ 4000) (h0 : w0.cell? ⟨b12, 0, none⟩ = some (.int .i64 0)) (h1 : w0.cell? ⟨b12, 1, none⟩ = some (.int .i64 (q : Nat))) (h2 : w0.cell? ⟨sb, q, none⟩ = some (.bool false))
    (x : Act) (w : World) (hB : Below w0.heap.size w0 w) (hdef : x.defers = df) (u7 : x.tmps.getD 7 undef = .slice (some ⟨gP, 0, none⟩) N cP) (u9 : x.tmps.getD 9 undef = .slice (some ⟨sb, 0, none⟩) m m) (u10 : x.tmps.getD 10 undef = .int .i64 (i : Nat)) (u11 : x.tmps.getD 11 undef = .int .i64 0) (u12 : x.tmps.getD 12 undef = .pointer (some ⟨b12, 0, none⟩))
    (p21 : gpbF_val gP gX N cP np cX sb m b12 i q 21 (x.tmps.getD 119 undef) w)
    : wpOpIn Fc nC Try.prog gpb_ops Q 22 (fun a' w' => ∃ v, a' = x.put (some 120) v ∧ (v = .bool false) ∧ Below w.heap.size w w') x w := by
  have ho : gpb_ops[22]? = some gpb_o22 := rfl
  simp only [Array.getD_eq_getD_getElem?] at u7 u9 u10 u11 u12
  have q21 : x.tmps.getD 119 undef = .bool false := p21
  simp only [Array.getD_eq_getD_getElem?] at q21
  refine wpOpIn_plain ho rfl (oper_inK hF.fn (fun K hK => ?_))
  clear ho
  rw [Oper.semAt_plain Fc _ _ (by intro c h; cases h)]
  simp only [gpb_o22]
  go_simp
  exact hK _ _ ⟨_, act_putD x hdef _ _, rfl, Below.refl _ _⟩
set_option maxRecDepth 100000 in
set_option maxHeartbeats 2000000 in
theorem gpbF_s23 {Fc : Fence} (hF : Wide Fc) {nC : Nat} (gP gX N cP np cX sb m b12 i q : Nat) (Q : Exit → Act → World → Prop) (df : List Deferred) (w0 : World)
    (hq : q < m) (hm : m ≤ 4000) (h0 : w0.cell? ⟨b12, 0, none⟩ = some (.int .i64 0)) (h1 : w0.cell? ⟨b12, 1, none⟩ = some (.int .i64 (q : Nat))) (h2 : w0.cell? ⟨sb, q, none⟩ = some (.bool false))
    (x : Act) (w : World) (hB : Below w0.heap.size w0 w) (hdef : x.defers = df) (u7 : x.tmps.getD 7 undef = .slice (some ⟨gP, 0, none⟩) N cP) (u9 : x.tmps.getD 9 undef = .slice (some ⟨sb, 0, none⟩) m m) (u10 : x.tmps.getD 10 undef = .int .i64 (i : Nat)) (u11 : x.tmps.getD 11 undef = .int .i64 0) (u12 : x.tmps.getD 12 undef = .pointer (some ⟨b12, 0, none⟩))
    (p22 : gpbF_val gP gX N cP np cX sb m b12 i q 22 (x.tmps.getD 120 undef) w)
    : wpOpIn Fc nC Try.prog gpb_ops Q 23 (fun a' w' => ∃ v, a' = x.put (some 121) v ∧ (v = .int .i64 0) ∧ Below w.heap.size w w') x w := by
  have ho : gpb_ops[23]? = some gpb_o23 := rfl
  simp only [Array.getD_eq_getD_getElem?] at u7 u9 u10 u11 u12
  have q22 : x.tmps.getD 120 undef = .bool false := p22
  simp only [Array.getD_eq_getD_getElem?] at q22
  have e22 : (gpb_ops[22]?.bind fun x => x.dst) = some 120 := rfl
  have g22 := get_someT q22 (fun h => by cases h)
  refine wpOpIn_stepT hF ho (fun K hK => ?_)
  clear ho
  rw [Oper.semAt_plain Fc _ _ (by intro c h; cases h)]
  simp only [gpb_o23]
  go_simp
  exact hK _ _ ⟨_, act_putD x hdef _ _, rfl, Below.refl _ _⟩
set_option maxRecDepth 100000 in
set_option maxHeartbeats 2000000 in
theorem gpbF_s24 {Fc : Fence} (hF : Wide Fc) {nC : Nat} (gP gX N cP np cX sb m b12 i q : Nat) (Q : Exit → Act → World → Prop) (df : List Deferred) (w0 : World)
    (hq : q < m) (hm : m ≤ 4000) (h0 : w0.cell? ⟨b12, 0, none⟩ = some (.int .i64 0)) (h1 : w0.cell? ⟨b12, 1, none⟩ = some (.int .i64 (q : Nat))) (h2 : w0.cell? ⟨sb, q, none⟩ = some (.bool false))
    (x : Act) (w : World) (hB : Below w0.heap.size w0 w) (hdef : x.defers = df) (u7 : x.tmps.getD 7 undef = .slice (some ⟨gP, 0, none⟩) N cP) (u9 : x.tmps.getD 9 undef = .slice (some ⟨sb, 0, none⟩) m m) (u10 : x.tmps.getD 10 undef = .int .i64 (i : Nat)) (u11 : x.tmps.getD 11 undef = .int .i64 0) (u12 : x.tmps.getD 12 undef = .pointer (some ⟨b12, 0, none⟩))
    (p23 : gpbF_val gP gX N cP np cX sb m b12 i q 23 (x.tmps.getD 121 undef) w)
    (p22 : gpbF_val gP gX N cP np cX sb m b12 i q 22 (x.tmps.getD 120 undef) w)
    : wpOpIn Fc nC Try.prog gpb_ops Q 24 (fun a' w' => ∃ v, a' = x.put (some 122) v ∧ (v = .bool false) ∧ Below w.heap.size w w') x w := by
  have ho : gpb_ops[24]? = some gpb_o24 := rfl
  simp only [Array.getD_eq_getD_getElem?] at u7 u9 u10 u11 u12
  have q23 : x.tmps.getD 121 undef = .int .i64 0 := p23
  have q22 : x.tmps.getD 120 undef = .bool false := p22
  simp only [Array.getD_eq_getD_getElem?] at q23 q22
  have e22 : (gpb_ops[22]?.bind fun x => x.dst) = some 120 := rfl
  have g22 := get_someT q22 (fun h => by cases h)
  refine wpOpIn_stepT hF ho (fun K hK => ?_)
  clear ho
  rw [Oper.semAt_plain Fc _ _ (by intro c h; cases h)]
  simp only [gpb_o24]
  go_simp
  exact hK _ _ ⟨_, act_putD x hdef _ _, rfl, Below.refl _ _⟩
set_option maxRecDepth 100000 in
set_option maxHeartbeats 2000000 in
theorem gpbF_s25 {Fc : Fence} (hF : Wide Fc) {nC : Nat} (gP gX N cP np cX sb m b12 i q : Nat) (Q : Exit → Act → World → Prop) (df : List Deferred) (w0 : World)
    (hq : q < m) (hm : m ≤ 4000) (h0 : w0.cell? ⟨b12, 0, none⟩ = some (.int .i64 0)) (h1 : w0.cell? ⟨b12, 1, none⟩ = some (.int .i64 (q : Nat))) (h2 : w0.cell? ⟨sb, q, none⟩ = some (.bool false))
    (x : Act) (w : World) (hB : Below w0.heap.size w0 w) (hdef : x.defers = df) (u7 : x.tmps.getD 7 undef = .slice (some ⟨gP, 0, none⟩) N cP) (u9 : x.tmps.getD 9 undef = .slice (some ⟨sb, 0, none⟩) m m) (u10 : x.tmps.getD 10 undef = .int .i64 (i : Nat)) (u11 : x.tmps.getD 11 undef = .int .i64 0) (u12 : x.tmps.getD 12 undef = .pointer (some ⟨b12, 0, none⟩))
    (p24 : gpbF_val gP gX N cP np cX sb m b12 i q 24 (x.tmps.getD 122 undef) w)
    (p22 : gpbF_val gP gX N cP np cX sb m b12 i q 22 (x.tmps.getD 120 undef) w)
    : wpOpIn Fc nC Try.prog gpb_ops Q 25 (fun a' w' => ∃ v, a' = x.put (some 123) v ∧ (v = .bool false) ∧ Below w.heap.size w w') x w := by
  have ho : gpb_ops[25]? = some gpb_o25 := rfl
  simp only [Array.getD_eq_getD_getElem?] at u7 u9 u10 u11 u12
  have q24 : x.tmps.getD 122 undef = .bool false := p24
  have q22 : x.tmps.getD 120 undef = .bool false := p22
  simp only [Array.getD_eq_getD_getElem?] at q24 q22
  have e22 : (gpb_ops[22]?.bind fun x => x.dst) = some 120 := rfl
  have g22 := get_someT q22 (fun h => by cases h)
  refine wpOpIn_stepT hF ho (fun K hK => ?_)
  clear ho
  rw [Oper.semAt_plain Fc _ _ (by intro c h; cases h)]
  simp only [gpb_o25]
  go_simp
  exact hK _ _ ⟨_, act_putD x hdef _ _, rfl, Below.refl _ _⟩
set_option maxRecDepth 100000 in
set_option maxHeartbeats 2000000 in
theorem gpbF_s26 {Fc : Fence} (hF : Wide Fc) {nC : Nat} (gP gX N cP np cX sb m b12 i q : Nat) (Q : Exit → Act → World → Prop) (df : List Deferred) (w0 : World)
    (hq : q < m) (hm : m ≤ 4000) (h0 : w0.cell? ⟨b12, 0, none⟩ = some (.int .i64 0)) (h1 : w0.cell? ⟨b12, 1, none⟩ = some (.int .i64 (q : Nat))) (h2 : w0.cell? ⟨sb, q, none⟩ = some (.bool false))
    (x : Act) (w : World) (hB : Below w0.heap.size w0 w) (hdef : x.defers = df) (u7 : x.tmps.getD 7 undef = .slice (some ⟨gP, 0, none⟩) N cP) (u9 : x.tmps.getD 9 undef = .slice (some ⟨sb, 0, none⟩) m m) (u10 : x.tmps.getD 10 undef = .int .i64 (i : Nat)) (u11 : x.tmps.getD 11 undef = .int .i64 0) (u12 : x.tmps.getD 12 undef = .pointer (some ⟨b12, 0, none⟩))
    (p25 : gpbF_val gP gX N cP np cX sb m b12 i q 25 (x.tmps.getD 123 undef) w)
    : wpOpIn Fc nC Try.prog gpb_ops Q 26 (fun a' w' => ∃ v, a' = x.put (some 124) v ∧ (v = undef) ∧ Below w.heap.size w w') x w := by
  have ho : gpb_ops[26]? = some gpb_o26 := rfl
  simp only [Array.getD_eq_getD_getElem?] at u7 u9 u10 u11 u12
  have q25 : x.tmps.getD 123 undef = .bool false := p25
  simp only [Array.getD_eq_getD_getElem?] at q25
  have e25 : (gpb_ops[25]?.bind fun x => x.dst) = some 123 := rfl
  have g25 := get_someT q25 (fun h => by cases h)
  refine wpOpIn_stepT hF ho (fun K hK => ?_)
  clear ho
  rw [Oper.semAt_plain Fc _ _ (by intro c h; cases h)]
  simp only [gpb_o26]
  go_simp
  exact hK _ _ ⟨_, act_putD x hdef _ _, rfl, Below.refl _ _⟩
set_option maxRecDepth 100000 in
set_option maxHeartbeats 2000000 in
theorem gpbF_s27 {Fc : Fence} (hF : Wide Fc) {nC : Nat} (gP gX N cP np cX sb m b12 i q : Nat) (Q : Exit → Act → World → Prop) (df : List Deferred) (w0 : World)
    (hq : q < m) (hm : m ≤ 4000) (h0 : w0.cell? ⟨b12, 0, none⟩ = some (.int .i64 0)) (h1 : w0.cell? ⟨b12, 1, none⟩ = some (.int .i64 (q : Nat))) (h2 : w0.cell? ⟨sb, q, none⟩ = some (.bool false))
    (x : Act) (w : World) (hB : Below w0.heap.size w0 w) (hdef : x.defers = df) (u7 : x.tmps.getD 7 undef = .slice (some ⟨gP, 0, none⟩) N cP) (u9 : x.tmps.getD 9 undef = .slice (some ⟨sb, 0, none⟩) m m) (u10 : x.tmps.getD 10 undef = .int .i64 (i : Nat)) (u11 : x.tmps.getD 11 undef = .int .i64 0) (u12 : x.tmps.getD 12 undef = .pointer (some ⟨b12, 0, none⟩))
    (p25 : gpbF_val gP gX N cP np cX sb m b12 i q 25 (x.tmps.getD 123 undef) w)
    : wpOpIn Fc nC Try.prog gpb_ops Q 27 (fun a' w' => ∃ v, a' = x.put (some 125) v ∧ (v = undef) ∧ Below w.heap.size w w') x w := by
  have ho : gpb_ops[27]? = some gpb_o27 := rfl
  simp only [Array.getD_eq_getD_getElem?] at u7 u9 u10 u11 u12
  have q25 : x.tmps.getD 123 undef = .bool false := p25
  simp only [Array.getD_eq_getD_getElem?] at q25
  have e25 : (gpb_ops[25]?.bind fun x => x.dst) = some 123 := rfl
  have g25 := get_someT q25 (fun h => by cases h)
  refine wpOpIn_stepT hF ho (fun K hK => ?_)
  clear ho
  rw [Oper.semAt_plain Fc _ _ (by intro c h; cases h)]
  simp only [gpb_o27]
  go_simp
  exact hK _ _ ⟨_, act_putD x hdef _ _, rfl, Below.refl _ _⟩
set_option maxRecDepth 100000 in
set_option maxHeartbeats 2000000 in
theorem gpbF_s28 {Fc : Fence} (hF : Wide Fc) {nC : Nat} (gP gX N cP np cX sb m b12 i q : Nat) (Q : Exit → Act → World → Prop) (df : List Deferred) (w0 : World)
    (hq : q < m) (hm : m ≤ 4000) (h0 : w0.cell? ⟨b12, 0, none⟩ = some (.int .i64 0)) (h1 : w0.cell? ⟨b12, 1, none⟩ = some (.int .i64 (q : Nat))) (h2 : w0.cell? ⟨sb, q, none⟩ = some (.bool false))
    (x : Act) (w : World) (hB : Below w0.heap.size w0 w) (hdef : x.defers = df) (u7 : x.tmps.getD 7 undef = .slice (some ⟨gP, 0, none⟩) N cP) (u9 : x.tmps.getD 9 undef = .slice (some ⟨sb, 0, none⟩) m m) (u10 : x.tmps.getD 10 undef = .int .i64 (i : Nat)) (u11 : x.tmps.getD 11 undef = .int .i64 0) (u12 : x.tmps.getD 12 undef = .pointer (some ⟨b12, 0, none⟩))
    (p26 : gpbF_val gP gX N cP np cX sb m b12 i q 26 (x.tmps.getD 124 undef) w)
    (p27 : gpbF_val gP gX N cP np cX sb m b12 i q 27 (x.tmps.getD 125 undef) w)
    (p25 : gpbF_val gP gX N cP np cX sb m b12 i q 25 (x.tmps.getD 123 undef) w)
    : wpOpIn Fc nC Try.prog gpb_ops Q 28 (fun a' w' => ∃ v, a' = x.put (some 126) v ∧ (v = undef) ∧ Below w.heap.size w w') x w := by
  have ho : gpb_ops[28]? = some gpb_o28 := rfl
  simp only [Array.getD_eq_getD_getElem?] at u7 u9 u10 u11 u12
  have q26 : x.tmps.getD 124 undef = undef := p26
  have q27 : x.tmps.getD 125 undef = undef := p27
  have q25 : x.tmps.getD 123 undef = .bool false := p25
  simp only [Array.getD_eq_getD_getElem?] at q26 q27 q25
  have e25 : (gpb_ops[25]?.bind fun x => x.dst) = some 123 := rfl
  have g25 := get_someT q25 (fun h => by cases h)
  refine wpOpIn_stepT hF ho (fun K hK => ?_)
  clear ho
  rw [Oper.semAt_plain Fc _ _ (by intro c h; cases h)]
  simp only [gpb_o28]
  go_simp
  exact hK _ _ ⟨_, act_putD x hdef _ _, rfl, Below.refl _ _⟩
set_option maxRecDepth 100000 in
set_option maxHeartbeats 2000000 in
theorem gpbF_s29 {Fc : Fence} (hF : Wide Fc) {nC : Nat} (gP gX N cP np cX sb m b12 i q : Nat) (Q : Exit → Act → World → Prop) (df : List Deferred) (w0 : World)
    (hq : q < m) (hm : m ≤ 4000) (h0 : w0.cell? ⟨b12, 0, none⟩ = some (.int .i64 0)) (h1 : w0.cell? ⟨b12, 1, none⟩ = some (.int .i64 (q : Nat))) (h2 : w0.cell? ⟨sb, q, none⟩ = some (.bool false))
    (x : Act) (w : World) (hB : Below w0.heap.size w0 w) (hdef : x.defers = df) (u7 : x.tmps.getD 7 undef = .slice (some ⟨gP, 0, none⟩) N cP) (u9 : x.tmps.getD 9 undef = .slice (some ⟨sb, 0, none⟩) m m) (u10 : x.tmps.getD 10 undef = .int .i64 (i : Nat)) (u11 : x.tmps.getD 11 undef = .int .i64 0) (u12 : x.tmps.getD 12 undef = .pointer (some ⟨b12, 0, none⟩))
    (p28 : gpbF_val gP gX N cP np cX sb m b12 i q 28 (x.tmps.getD 126 undef) w)
    (p25 : gpbF_val gP gX N cP np cX sb m b12 i q 25 (x.tmps.getD 123 undef) w)
    : wpOpIn Fc nC Try.prog gpb_ops Q 29 (fun a' w' => ∃ v, a' = x.put (some 127) v ∧ (v = undef) ∧ Below w.heap.size w w') x w := by
  have ho : gpb_ops[29]? = some gpb_o29 := rfl
  simp only [Array.getD_eq_getD_getElem?] at u7 u9 u10 u11 u12
  have q28 : x.tmps.getD 126 undef = undef := p28
  have q25 : x.tmps.getD 123 undef = .bool false := p25
  simp only [Array.getD_eq_getD_getElem?] at q28 q25
  have e25 : (gpb_ops[25]?.bind fun x => x.dst) = some 123 := rfl
  have g25 := get_someT q25 (fun h => by cases h)
  refine wpOpIn_stepT hF ho (fun K hK => ?_)
  clear ho
  rw [Oper.semAt_plain Fc _ _ (by intro c h; cases h)]
  simp only [gpb_o29]
  go_simp
  exact hK _ _ ⟨_, act_putD x hdef _ _, rfl, Below.refl _ _⟩
set_option maxRecDepth 100000 in
set_option maxHeartbeats 2000000 in
theorem gpbF_s30 {Fc : Fence} (hF : Wide Fc) {nC : Nat} (gP gX N cP np cX sb m b12 i q : Nat) (Q : Exit → Act → World → Prop) (df : List Deferred) (w0 : World)
    (hq : q < m) (hm : m ≤ 4000) (h0 : w0.cell? ⟨b12, 0, none⟩ = some (.int .i64 0)) (h1 : w0.cell? ⟨b12, 1, none⟩ = some (.int .i64 (q : Nat))) (h2 : w0.cell? ⟨sb, q, none⟩ = some (.bool false))
    (x : Act) (w : World) (hB : Below w0.heap.size w0 w) (hdef : x.defers = df) (u7 : x.tmps.getD 7 undef = .slice (some ⟨gP, 0, none⟩) N cP) (u9 : x.tmps.getD 9 undef = .slice (some ⟨sb, 0, none⟩) m m) (u10 : x.tmps.getD 10 undef = .int .i64 (i : Nat)) (u11 : x.tmps.getD 11 undef = .int .i64 0) (u12 : x.tmps.getD 12 undef = .pointer (some ⟨b12, 0, none⟩))
    (p29 : gpbF_val gP gX N cP np cX sb m b12 i q 29 (x.tmps.getD 127 undef) w)
    (p25 : gpbF_val gP gX N cP np cX sb m b12 i q 25 (x.tmps.getD 123 undef) w)
    : wpOpIn Fc nC Try.prog gpb_ops Q 30 (fun a' w' => ∃ v, a' = x.put (some 128) v ∧ (v = undef) ∧ Below w.heap.size w w') x w := by
  have ho : gpb_ops[30]? = some gpb_o30 := rfl
  simp only [Array.getD_eq_getD_getElem?] at u7 u9 u10 u11 u12
  have q29 : x.tmps.getD 127 undef = undef := p29
  have q25 : x.tmps.getD 123 undef = .bool false := p25
  simp only [Array.getD_eq_getD_getElem?] at q29 q25
  have e25 : (gpb_ops[25]?.bind fun x => x.dst) = some 123 := rfl
  have g25 := get_someT q25 (fun h => by cases h)
  refine wpOpIn_stepT hF ho (fun K hK => ?_)
  clear ho
  rw [Oper.semAt_plain Fc _ _ (by intro c h; cases h)]
  simp only [gpb_o30]
  go_simp
  exact hK _ _ ⟨_, act_putD x hdef _ _, rfl, Below.refl _ _⟩
set_option maxRecDepth 100000 in
set_option maxHeartbeats 2000000 in
theorem gpbF_s31 {Fc : Fence} (hF : Wide Fc) {nC : Nat} (gP gX N cP np cX sb m b12 i q : Nat) (Q : Exit → Act → World → Prop) (df : List Deferred) (w0 : World)
    (hq : q < m) (hm : m ≤ 4000) (h0 : w0.cell? ⟨b12, 0, none⟩ = some (.int .i64 0)) (h1 : w0.cell? ⟨b12, 1, none⟩ = some (.int .i64 (q : Nat))) (h2 : w0.cell? ⟨sb, q, none⟩ = some (.bool false))
    (x : Act) (w : World) (hB : Below w0.heap.size w0 w) (hdef : x.defers = df) (u7 : x.tmps.getD 7 undef = .slice (some ⟨gP, 0, none⟩) N cP) (u9 : x.tmps.getD 9 undef = .slice (some ⟨sb, 0, none⟩) m m) (u10 : x.tmps.getD 10 undef = .int .i64 (i : Nat)) (u11 : x.tmps.getD 11 undef = .int .i64 0) (u12 : x.tmps.getD 12 undef = .pointer (some ⟨b12, 0, none⟩))
    (p25 : gpbF_val gP gX N cP np cX sb m b12 i q 25 (x.tmps.getD 123 undef) w)
    : wpOpIn Fc nC Try.prog gpb_ops Q 31 (fun a' w' => ∃ v, a' = x.put (some 129) v ∧ (v = undef) ∧ Below w.heap.size w w') x w := by
  have ho : gpb_ops[31]? = some gpb_o31 := rfl
  simp only [Array.getD_eq_getD_getElem?] at u7 u9 u10 u11 u12
  have q25 : x.tmps.getD 123 undef = .bool false := p25
  simp only [Array.getD_eq_getD_getElem?] at q25
  have e25 : (gpb_ops[25]?.bind fun x => x.dst) = some 123 := rfl
  have g25 := get_someT q25 (fun h => by cases h)
  refine wpOpIn_stepT hF ho (fun K hK => ?_)
  clear ho
  rw [Oper.semAt_plain Fc _ _ (by intro c h; cases h)]
  simp only [gpb_o31]
  go_simp
  exact hK _ _ ⟨_, act_putD x hdef _ _, rfl, Below.refl _ _⟩
set_option maxRecDepth 100000 in
set_option maxHeartbeats 2000000 in
theorem gpbF_s32 {Fc : Fence} (hF : Wide Fc) {nC : Nat} (gP gX N cP np cX sb m b12 i q : Nat) (Q : Exit → Act → World → Prop) (df : List Deferred) (w0 : World)
    (hq : q < m) (hm : m ≤ 4000) (h0 : w0.cell? ⟨b12, 0, none⟩ = some (.int .i64 0)) (h1 : w0.cell? ⟨b12, 1, none⟩ = some (.int .i64 (q : Nat))) (h2 : w0.cell? ⟨sb, q, none⟩ = some (.bool false))
    (x : Act) (w : World) (hB : Below w0.heap.size w0 w) (hdef : x.defers = df) (u7 : x.tmps.getD 7 undef = .slice (some ⟨gP, 0, none⟩) N cP) (u9 : x.tmps.getD 9 undef = .slice (some ⟨sb, 0, none⟩) m m) (u10 : x.tmps.getD 10 undef = .int .i64 (i : Nat)) (u11 : x.tmps.getD 11 undef = .int .i64 0) (u12 : x.tmps.getD 12 undef = .pointer (some ⟨b12, 0, none⟩))
    (p31 : gpbF_val gP gX N cP np cX sb m b12 i q 31 (x.tmps.getD 129 undef) w)
    (p25 : gpbF_val gP gX N cP np cX sb m b12 i q 25 (x.tmps.getD 123 undef) w)
    : wpOpIn Fc nC Try.prog gpb_ops Q 32 (fun a' w' => ∃ v, a' = x.put (some 130) v ∧ (v = undef) ∧ Below w.heap.size w w') x w := by
  have ho : gpb_ops[32]? = some gpb_o32 := rfl
  simp only [Array.getD_eq_getD_getElem?] at u7 u9 u10 u11 u12
  have q31 : x.tmps.getD 129 undef = undef := p31
  have q25 : x.tmps.getD 123 undef = .bool false := p25
  simp only [Array.getD_eq_getD_getElem?] at q31 q25
  have e25 : (gpb_ops[25]?.bind fun x => x.dst) = some 123 := rfl
  have g25 := get_someT q25 (fun h => by cases h)
  refine wpOpIn_stepT hF ho (fun K hK => ?_)
  clear ho
  rw [Oper.semAt_plain Fc _ _ (by intro c h; cases h)]
  simp only [gpb_o32]
  go_simp
  exact hK _ _ ⟨_, act_putD x hdef _ _, rfl, Below.refl _ _⟩
set_option maxRecDepth 100000 in
set_option maxHeartbeats 2000000 in
theorem gpbF_s33 {Fc : Fence} (hF : Wide Fc) {nC : Nat} (gP gX N cP np cX sb m b12 i q : Nat) (Q : Exit → Act → World → Prop) (df : List Deferred) (w0 : World)
    (hq : q < m) (hm : m ≤ 4000) (h0 : w0.cell? ⟨b12, 0, none⟩ = some (.int .i64 0)) (h1 : w0.cell? ⟨b12, 1, none⟩ = some (.int .i64 (q : Nat))) (h2 : w0.cell? ⟨sb, q, none⟩ = some (.bool false))
    (x : Act) (w : World) (hB : Below w0.heap.size w0 w) (hdef : x.defers = df) (u7 : x.tmps.getD 7 undef = .slice (some ⟨gP, 0, none⟩) N cP) (u9 : x.tmps.getD 9 undef = .slice (some ⟨sb, 0, none⟩) m m) (u10 : x.tmps.getD 10 undef = .int .i64 (i : Nat)) (u11 : x.tmps.getD 11 undef = .int .i64 0) (u12 : x.tmps.getD 12 undef = .pointer (some ⟨b12, 0, none⟩))
    (p30 : gpbF_val gP gX N cP np cX sb m b12 i q 30 (x.tmps.getD 128 undef) w)
    (p32 : gpbF_val gP gX N cP np cX sb m b12 i q 32 (x.tmps.getD 130 undef) w)
    (p25 : gpbF_val gP gX N cP np cX sb m b12 i q 25 (x.tmps.getD 123 undef) w)
    : wpOpIn Fc nC Try.prog gpb_ops Q 33 (fun a' w' => ∃ v, a' = x.put (some 131) v ∧ (v = undef) ∧ Below w.heap.size w w') x w := by
  have ho : gpb_ops[33]? = some gpb_o33 := rfl
  simp only [Array.getD_eq_getD_getElem?] at u7 u9 u10 u11 u12
  have q30 : x.tmps.getD 128 undef = undef := p30
  have q32 : x.tmps.getD 130 undef = undef := p32
  have q25 : x.tmps.getD 123 undef = .bool false := p25
  simp only [Array.getD_eq_getD_getElem?] at q30 q32 q25
  have e25 : (gpb_ops[25]?.bind fun x => x.dst) = some 123 := rfl
  have g25 := get_someT q25 (fun h => by cases h)
  refine wpOpIn_stepT hF ho (fun K hK => ?_)
  clear ho
  rw [Oper.semAt_plain Fc _ _ (by intro c h; cases h)]
  simp only [gpb_o33]
  go_simp
  exact hK _ _ ⟨_, act_putD x hdef _ _, rfl, Below.refl _ _⟩
set_option maxRecDepth 100000 in
set_option maxHeartbeats 2000000 in
theorem gpbF_s34 {Fc : Fence} (hF : Wide Fc) {nC : Nat} (gP gX N cP np cX sb m b12 i q : Nat) (Q : Exit → Act → World → Prop) (df : List Deferred) (w0 : World)
    (hq : q < m) (hm : m ≤ 4000) (h0 : w0.cell? ⟨b12, 0, none⟩ = some (.int .i64 0)) (h1 : w0.cell? ⟨b12, 1, none⟩ = some (.int .i64 (q : Nat))) (h2 : w0.cell? ⟨sb, q, none⟩ = some (.bool false))
    (x : Act) (w : World) (hB : Below w0.heap.size w0 w) (hdef : x.defers = df) (u7 : x.tmps.getD 7 undef = .slice (some ⟨gP, 0, none⟩) N cP) (u9 : x.tmps.getD 9 undef = .slice (some ⟨sb, 0, none⟩) m m) (u10 : x.tmps.getD 10 undef = .int .i64 (i : Nat)) (u11 : x.tmps.getD 11 undef = .int .i64 0) (u12 : x.tmps.getD 12 undef = .pointer (some ⟨b12, 0, none⟩))
    (p33 : gpbF_val gP gX N cP np cX sb m b12 i q 33 (x.tmps.getD 131 undef) w)
    (p25 : gpbF_val gP gX N cP np cX sb m b12 i q 25 (x.tmps.getD 123 undef) w)
    : wpOpIn Fc nC Try.prog gpb_ops Q 34 (fun a' w' => ∃ v, a' = x.put (some 132) v ∧ (v = undef) ∧ Below w.heap.size w w') x w := by
  have ho : gpb_ops[34]? = some gpb_o34 := rfl
  simp only [Array.getD_eq_getD_getElem?] at u7 u9 u10 u11 u12
  have q33 : x.tmps.getD 131 undef = undef := p33
  have q25 : x.tmps.getD 123 undef = .bool false := p25
  simp only [Array.getD_eq_getD_getElem?] at q33 q25
  have e25 : (gpb_ops[25]?.bind fun x => x.dst) = some 123 := rfl
  have g25 := get_someT q25 (fun h => by cases h)
  refine wpOpIn_stepT hF ho (fun K hK => ?_)
  clear ho
  rw [Oper.semAt_plain Fc _ _ (by intro c h; cases h)]
  simp only [gpb_o34]
  go_simp
  exact hK _ _ ⟨_, act_putD x hdef _ _, rfl, Below.refl _ _⟩
set_option maxRecDepth 100000 in
set_option maxHeartbeats 2000000 in
theorem gpbF_s35 {Fc : Fence} (hF : Wide Fc) {nC : Nat} (gP gX N cP np cX sb m b12 i q : Nat) (Q : Exit → Act → World → Prop) (df : List Deferred) (w0 : World)
    (hq : q < m) (hm : m ≤ 4000) (h0 : w0.cell? ⟨b12, 0, none⟩ = some (.int .i64 0)) (h1 : w0.cell? ⟨b12, 1, none⟩ = some (.int .i64 (q : Nat))) (h2 : w0.cell? ⟨sb, q, none⟩ = some (.bool false))
    (x : Act) (w : World) (hB : Below w0.heap.size w0 w) (hdef : x.defers = df) (u7 : x.tmps.getD 7 undef = .slice (some ⟨gP, 0, none⟩) N cP) (u9 : x.tmps.getD 9 undef = .slice (some ⟨sb, 0, none⟩) m m) (u10 : x.tmps.getD 10 undef = .int .i64 (i : Nat)) (u11 : x.tmps.getD 11 undef = .int .i64 0) (u12 : x.tmps.getD 12 undef = .pointer (some ⟨b12, 0, none⟩))
    (p34 : gpbF_val gP gX N cP np cX sb m b12 i q 34 (x.tmps.getD 132 undef) w)
    (p25 : gpbF_val gP gX N cP np cX sb m b12 i q 25 (x.tmps.getD 123 undef) w)
    : wpOpIn Fc nC Try.prog gpb_ops Q 35 (fun a' w' => ∃ v, a' = x.put (some 133) v ∧ (v = undef) ∧ Below w.heap.size w w') x w := by
  have ho : gpb_ops[35]? = some gpb_o35 := rfl
  simp only [Array.getD_eq_getD_getElem?] at u7 u9 u10 u11 u12
  have q34 : x.tmps.getD 132 undef = undef := p34
  have q25 : x.tmps.getD 123 undef = .bool false := p25
  simp only [Array.getD_eq_getD_getElem?] at q34 q25
  have e25 : (gpb_ops[25]?.bind fun x => x.dst) = some 123 := rfl
  have g25 := get_someT q25 (fun h => by cases h)
  refine wpOpIn_stepT hF ho (fun K hK => ?_)
  clear ho
  rw [Oper.semAt_plain Fc _ _ (by intro c h; cases h)]
  simp only [gpb_o35]
  go_simp
  exact hK _ _ ⟨_, act_putD x hdef _ _, rfl, Below.refl _ _⟩
set_option maxRecDepth 100000 in
set_option maxHeartbeats 2000000 in
theorem gpbF_s36 {Fc : Fence} (hF : Wide Fc) {nC : Nat} (gP gX N cP np cX sb m b12 i q : Nat) (Q : Exit → Act → World → Prop) (df : List Deferred) (w0 : World)
    (hq : q < m) (hm : m ≤ 4000) (h0 : w0.cell? ⟨b12, 0, none⟩ = some (.int .i64 0)) (h1 : w0.cell? ⟨b12, 1, none⟩ = some (.int .i64 (q : Nat))) (h2 : w0.cell? ⟨sb, q, none⟩ = some (.bool false))
    (x : Act) (w : World) (hB : Below w0.heap.size w0 w) (hdef : x.defers = df) (u7 : x.tmps.getD 7 undef = .slice (some ⟨gP, 0, none⟩) N cP) (u9 : x.tmps.getD 9 undef = .slice (some ⟨sb, 0, none⟩) m m) (u10 : x.tmps.getD 10 undef = .int .i64 (i : Nat)) (u11 : x.tmps.getD 11 undef = .int .i64 0) (u12 : x.tmps.getD 12 undef = .pointer (some ⟨b12, 0, none⟩))
    (p25 : gpbF_val gP gX N cP np cX sb m b12 i q 25 (x.tmps.getD 123 undef) w)
    : wpOpIn Fc nC Try.prog gpb_ops Q 36 (fun a' w' => ∃ v, a' = x.put (some 134) v ∧ (v = undef) ∧ Below w.heap.size w w') x w := by
  have ho : gpb_ops[36]? = some gpb_o36 := rfl
  simp only [Array.getD_eq_getD_getElem?] at u7 u9 u10 u11 u12
  have q25 : x.tmps.getD 123 undef = .bool false := p25
  simp only [Array.getD_eq_getD_getElem?] at q25
  have e25 : (gpb_ops[25]?.bind fun x => x.dst) = some 123 := rfl
  have g25 := get_someT q25 (fun h => by cases h)
  refine wpOpIn_stepT hF ho (fun K hK => ?_)
  clear ho
  rw [Oper.semAt_plain Fc _ _ (by intro c h; cases h)]
  simp only [gpb_o36]
  go_simp
  exact hK _ _ ⟨_, act_putD x hdef _ _, rfl, Below.refl _ _⟩
set_option maxRecDepth 100000 in
set_option maxHeartbeats 2000000 in
theorem gpbF_s37 {Fc : Fence} (hF : Wide Fc) {nC : Nat} (gP gX N cP np cX sb m b12 i q : Nat) (Q : Exit → Act → World → Prop) (df : List Deferred) (w0 : World)
    (hq : q < m) (hm : m ≤ 4000) (h0 : w0.cell? ⟨b12, 0, none⟩ = some (.int .i64 0)) (h1 : w0.cell? ⟨b12, 1, none⟩ = some (.int .i64 (q : Nat))) (h2 : w0.cell? ⟨sb, q, none⟩ = some (.bool false))
    (x : Act) (w : World) (hB : Below w0.heap.size w0 w) (hdef : x.defers = df) (u7 : x.tmps.getD 7 undef = .slice (some ⟨gP, 0, none⟩) N cP) (u9 : x.tmps.getD 9 undef = .slice (some ⟨sb, 0, none⟩) m m) (u10 : x.tmps.getD 10 undef = .int .i64 (i : Nat)) (u11 : x.tmps.getD 11 undef = .int .i64 0) (u12 : x.tmps.getD 12 undef = .pointer (some ⟨b12, 0, none⟩))
    (p36 : gpbF_val gP gX N cP np cX sb m b12 i q 36 (x.tmps.getD 134 undef) w)
    (p25 : gpbF_val gP gX N cP np cX sb m b12 i q 25 (x.tmps.getD 123 undef) w)
    : wpOpIn Fc nC Try.prog gpb_ops Q 37 (fun a' w' => ∃ v, a' = x.put (some 135) v ∧ (v = undef) ∧ Below w.heap.size w w') x w := by
  have ho : gpb_ops[37]? = some gpb_o37 := rfl
  simp only [Array.getD_eq_getD_getElem?] at u7 u9 u10 u11 u12
  have q36 : x.tmps.getD 134 undef = undef := p36
  have q25 : x.tmps.getD 123 undef = .bool false := p25
  simp only [Array.getD_eq_getD_getElem?] at q36 q25
  have e25 : (gpb_ops[25]?.bind fun x => x.dst) = some 123 := rfl
  have g25 := get_someT q25 (fun h => by cases h)
  refine wpOpIn_stepT hF ho (fun K hK => ?_)
  clear ho
  rw [Oper.semAt_plain Fc _ _ (by intro c h; cases h)]
  simp only [gpb_o37]
  go_simp
  exact hK _ _ ⟨_, act_putD x hdef _ _, rfl, Below.refl _ _⟩
set_option maxRecDepth 100000 in
set_option maxHeartbeats 2000000 in
theorem gpbF_s38 {Fc : Fence} (hF : Wide Fc) {nC : Nat} (gP gX N cP np cX sb m b12 i q : Nat) (Q : Exit → Act → World → Prop) (df : List Deferred) (w0 : World)
    (hq : q < m) (hm : m ≤ 4000) (h0 : w0.cell? ⟨b12, 0, none⟩ = some (.int .i64 0)) (h1 : w0.cell? ⟨b12, 1, none⟩ = some (.int .i64 (q : Nat))) (h2 : w0.cell? ⟨sb, q, none⟩ = some (.bool false))
    (x : Act) (w : World) (hB : Below w0.heap.size w0 w) (hdef : x.defers = df) (u7 : x.tmps.getD 7 undef = .slice (some ⟨gP, 0, none⟩) N cP) (u9 : x.tmps.getD 9 undef = .slice (some ⟨sb, 0, none⟩) m m) (u10 : x.tmps.getD 10 undef = .int .i64 (i : Nat)) (u11 : x.tmps.getD 11 undef = .int .i64 0) (u12 : x.tmps.getD 12 undef = .pointer (some ⟨b12, 0, none⟩))
    (p35 : gpbF_val gP gX N cP np cX sb m b12 i q 35 (x.tmps.getD 133 undef) w)
    (p37 : gpbF_val gP gX N cP np cX sb m b12 i q 37 (x.tmps.getD 135 undef) w)
    (p25 : gpbF_val gP gX N cP np cX sb m b12 i q 25 (x.tmps.getD 123 undef) w)
    : wpOpIn Fc nC Try.prog gpb_ops Q 38 (fun a' w' => ∃ v, a' = x.put (some 136) v ∧ (v = undef) ∧ Below w.heap.size w w') x w := by
  have ho : gpb_ops[38]? = some gpb_o38 := rfl
  simp only [Array.getD_eq_getD_getElem?] at u7 u9 u10 u11 u12
  have q35 : x.tmps.getD 133 undef = undef := p35
  have q37 : x.tmps.getD 135 undef = undef := p37
  have q25 : x.tmps.getD 123 undef = .bool false := p25
  simp only [Array.getD_eq_getD_getElem?] at q35 q37 q25
  have e25 : (gpb_ops[25]?.bind fun x => x.dst) = some 123 := rfl
  have g25 := get_someT q25 (fun h => by cases h)
  refine wpOpIn_stepT hF ho (fun K hK => ?_)
  clear ho
  rw [Oper.semAt_plain Fc _ _ (by intro c h; cases h)]
  simp only [gpb_o38]
  go_simp
  exact hK _ _ ⟨_, act_putD x hdef _ _, rfl, Below.refl _ _⟩
set_option maxRecDepth 100000 in
set_option maxHeartbeats 2000000 in
theorem gpbF_s39 {Fc : Fence} (hF : Wide Fc) {nC : Nat} (gP gX N cP np cX sb m b12 i q : Nat) (Q : Exit → Act → World → Prop) (df : List Deferred) (w0 : World)
    (hq : q < m) (hm : m ≤ 4000) (h0 : w0.cell? ⟨b12, 0, none⟩ = some (.int .i64 0)) (h1 : w0.cell? ⟨b12, 1, none⟩ = some (.int .i64 (q : Nat))) (h2 : w0.cell? ⟨sb, q, none⟩ = some (.bool false))
    (x : Act) (w : World) (hB : Below w0.heap.size w0 w) (hdef : x.defers = df) (u7 : x.tmps.getD 7 undef = .slice (some ⟨gP, 0, none⟩) N cP) (u9 : x.tmps.getD 9 undef = .slice (some ⟨sb, 0, none⟩) m m) (u10 : x.tmps.getD 10 undef = .int .i64 (i : Nat)) (u11 : x.tmps.getD 11 undef = .int .i64 0) (u12 : x.tmps.getD 12 undef = .pointer (some ⟨b12, 0, none⟩))
    (p25 : gpbF_val gP gX N cP np cX sb m b12 i q 25 (x.tmps.getD 123 undef) w)
    (p38 : gpbF_val gP gX N cP np cX sb m b12 i q 38 (x.tmps.getD 136 undef) w)
    (p22 : gpbF_val gP gX N cP np cX sb m b12 i q 22 (x.tmps.getD 120 undef) w)
    : wpOpIn Fc nC Try.prog gpb_ops Q 39 (fun a' w' => ∃ v, a' = x.put (some 137) v ∧ (v = .bool false) ∧ Below w.heap.size w w') x w := by
  have ho : gpb_ops[39]? = some gpb_o39 := rfl
  simp only [Array.getD_eq_getD_getElem?] at u7 u9 u10 u11 u12
  have q25 : x.tmps.getD 123 undef = .bool false := p25
  have q38 : x.tmps.getD 136 undef = undef := p38
  have q22 : x.tmps.getD 120 undef = .bool false := p22
  simp only [Array.getD_eq_getD_getElem?] at q25 q38 q22
  have e22 : (gpb_ops[22]?.bind fun x => x.dst) = some 120 := rfl
  have g22 := get_someT q22 (fun h => by cases h)
  refine wpOpIn_stepT hF ho (fun K hK => ?_)
  clear ho
  rw [Oper.semAt_plain Fc _ _ (by intro c h; cases h)]
  simp only [gpb_o39]
  go_simp
  exact hK _ _ ⟨_, act_putD x hdef _ _, rfl, Below.refl _ _⟩
set_option maxRecDepth 100000 in
set_option maxHeartbeats 2000000 in
theorem gpbF_s40 {Fc : Fence} (hF : Wide Fc) {nC : Nat} (gP gX N cP np cX sb m b12 i q : Nat) (Q : Exit → Act → World → Prop) (df : List Deferred) (w0 : World)
    (hq : q < m) (hm : m ≤ 4000) (h0 : w0.cell? ⟨b12, 0, none⟩ = some (.int .i64 0)) (h1 : w0.cell? ⟨b12, 1, none⟩ = some (.int .i64 (q : Nat))) (h2 : w0.cell? ⟨sb, q, none⟩ = some (.bool false))
    (x : Act) (w : World) (hB : Below w0.heap.size w0 w) (hdef : x.defers = df) (u7 : x.tmps.getD 7 undef = .slice (some ⟨gP, 0, none⟩) N cP) (u9 : x.tmps.getD 9 undef = .slice (some ⟨sb, 0, none⟩) m m) (u10 : x.tmps.getD 10 undef = .int .i64 (i : Nat)) (u11 : x.tmps.getD 11 undef = .int .i64 0) (u12 : x.tmps.getD 12 undef = .pointer (some ⟨b12, 0, none⟩))
    (p22 : gpbF_val gP gX N cP np cX sb m b12 i q 22 (x.tmps.getD 120 undef) w)
    (p39 : gpbF_val gP gX N cP np cX sb m b12 i q 39 (x.tmps.getD 137 undef) w)
    : wpOpIn Fc nC Try.prog gpb_ops Q 40 (fun a' w' => ∃ v, a' = x.put (some 138) v ∧ (v = .bool false) ∧ Below w.heap.size w w') x w := by
  have ho : gpb_ops[40]? = some gpb_o40 := rfl
  simp only [Array.getD_eq_getD_getElem?] at u7 u9 u10 u11 u12
  have q22 : x.tmps.getD 120 undef = .bool false := p22
  have q39 : x.tmps.getD 137 undef = .bool false := p39
  simp only [Array.getD_eq_getD_getElem?] at q22 q39
  refine wpOpIn_plain ho rfl (oper_inK hF.fn (fun K hK => ?_))
  clear ho
  rw [Oper.semAt_plain Fc _ _ (by intro c h; cases h)]
  simp only [gpb_o40]
  go_simp
  exact hK _ _ ⟨_, act_putD x hdef _ _, rfl, Below.refl _ _⟩

set_option maxRecDepth 100000 in
set_option maxHeartbeats 4000000 in
theorem gpbF {Fc : Fence} (hF : Wide Fc) {nC : Nat} (gP gX N cP np cX sb m b12 i q : Nat) (Q : Exit → Act → World → Prop) (t0 : Array Value) (df : List Deferred) (w0 : World) (ht : t0.size = 201)
    (hs7 : t0.getD 7 undef = .slice (some ⟨gP, 0, none⟩) N cP) (hs9 : t0.getD 9 undef = .slice (some ⟨sb, 0, none⟩) m m) (hs10 : t0.getD 10 undef = .int .i64 (i : Nat)) (hs11 : t0.getD 11 undef = .int .i64 0) (hs12 : t0.getD 12 undef = .pointer (some ⟨b12, 0, none⟩))
    (hq : q < m) (hm : m ≤ 4000) (h0 : w0.cell? ⟨b12, 0, none⟩ = some (.int .i64 0)) (h1 : w0.cell? ⟨b12, 1, none⟩ = some (.int .i64 (q : Nat))) (h2 : w0.cell? ⟨sb, q, none⟩ = some (.bool false))
    (hQ : ∀ (vs : Nat → Value) (w : World), Below w0.heap.size w0 w → (vs 138 = .bool false) → Q .normal { tmps := [98, 99, 100, 101, 102, 103, 104, 105, 106, 107, 108, 109, 110, 111, 112, 113, 114, 115, 116, 117, 118, 119, 120, 121, 122, 123, 124, 125, 126, 127, 128, 129, 130, 131, 132, 133, 134, 135, 136, 137, 138].foldl (fun y d => y.setIfInBounds d (vs d)) t0, defers := df } w) :
    (Code.region 16 gpb_ops true).wpIn Fc nC Try.prog Q { tmps := t0, defers := df } w0 := by
  refine wpIn_region_tail 41 (by decide) (by kernel_rfl) (fun a b => Below a.heap.size a b) (gpbF_val gP gX N cP np cX sb m b12 i q) t0 df w0 (by rw [ht]; kernel_rfl) (by kernel_rfl) (by kernel_rfl) (by kernel_rfl) ((Below.refl _ _).drew) (fun _ _ _ h k => h.trans (k.mono h.size)) (gpbF_below gP gX N cP np cX sb m b12 i q) ?_ ?_
  · intro j o ho hj x w hB hdef hsz hs hdeps
    have hs' : ∀ s, ¬ gpb_mem s → x.tmps.getD s undef = t0.getD s undef := fun s hn => hs s (fun j hj e => hn (by rw [e]; exact gpb_slots j hj))
    have u7 := (hs' 7 (by decide)).trans hs7
    have u9 := (hs' 9 (by decide)).trans hs9
    have u10 := (hs' 10 (by decide)).trans hs10
    have u11 := (hs' 11 (by decide)).trans hs11
    have u12 := (hs' 12 (by decide)).trans hs12
    match j, ho, hj with
    | 0, ho, _ =>
      have e : o = gpb_o0 := (Option.some.inj ho).symm
      subst e
      exact gpbF_s0 hF gP gX N cP np cX sb m b12 i q Q df w0 hq hm h0 h1 h2 x w hB hdef u7 u9 u10 u11 u12 
    | 1, ho, _ =>
      have e : o = gpb_o1 := (Option.some.inj ho).symm
      subst e
      exact gpbF_s1 hF gP gX N cP np cX sb m b12 i q Q df w0 hq hm h0 h1 h2 x w hB hdef u7 u9 u10 u11 u12 (hdeps { on := 0, ground := Ground.data } (by simp) rfl)
    | 2, ho, _ =>
      have e : o = gpb_o2 := (Option.some.inj ho).symm
      subst e
      exact gpbF_s2 hF gP gX N cP np cX sb m b12 i q Q df w0 hq hm h0 h1 h2 x w hB hdef u7 u9 u10 u11 u12 (hdeps { on := 1, ground := Ground.data } (by simp) rfl)
    | 3, ho, _ =>
      have e : o = gpb_o3 := (Option.some.inj ho).symm
      subst e
      exact gpbF_s3 hF gP gX N cP np cX sb m b12 i q Q df w0 hq hm h0 h1 h2 x w hB hdef u7 u9 u10 u11 u12 (hdeps { on := 2, ground := Ground.data } (by simp) rfl)
    | 4, ho, _ =>
      have e : o = gpb_o4 := (Option.some.inj ho).symm
      subst e
      exact gpbF_s4 hF gP gX N cP np cX sb m b12 i q Q df w0 hq hm h0 h1 h2 x w hB hdef u7 u9 u10 u11 u12 (hdeps { on := 3, ground := Ground.guard } (by simp) rfl)
    | 5, ho, _ =>
      have e : o = gpb_o5 := (Option.some.inj ho).symm
      subst e
      exact gpbF_s5 hF gP gX N cP np cX sb m b12 i q Q df w0 hq hm h0 h1 h2 x w hB hdef u7 u9 u10 u11 u12 (hdeps { on := 4, ground := Ground.data } (by simp) rfl) (hdeps { on := 3, ground := Ground.guard } (by simp) rfl)
    | 6, ho, _ =>
      have e : o = gpb_o6 := (Option.some.inj ho).symm
      subst e
      exact gpbF_s6 hF gP gX N cP np cX sb m b12 i q Q df w0 hq hm h0 h1 h2 x w hB hdef u7 u9 u10 u11 u12 (hdeps { on := 5, ground := Ground.data } (by simp) rfl) (hdeps { on := 3, ground := Ground.guard } (by simp) rfl)
    | 7, ho, _ =>
      have e : o = gpb_o7 := (Option.some.inj ho).symm
      subst e
      exact gpbF_s7 hF gP gX N cP np cX sb m b12 i q Q df w0 hq hm h0 h1 h2 x w hB hdef u7 u9 u10 u11 u12 (hdeps { on := 3, ground := Ground.data } (by simp) rfl) (hdeps { on := 6, ground := Ground.data } (by simp) rfl)
    | 8, ho, _ =>
      have e : o = gpb_o8 := (Option.some.inj ho).symm
      subst e
      exact gpbF_s8 hF gP gX N cP np cX sb m b12 i q Q df w0 hq hm h0 h1 h2 x w hB hdef u7 u9 u10 u11 u12 (hdeps { on := 7, ground := Ground.data } (by simp) rfl)
    | 9, ho, _ =>
      have e : o = gpb_o9 := (Option.some.inj ho).symm
      subst e
      exact gpbF_s9 hF gP gX N cP np cX sb m b12 i q Q df w0 hq hm h0 h1 h2 x w hB hdef u7 u9 u10 u11 u12 (hdeps { on := 8, ground := Ground.guard } (by simp) rfl)
    | 10, ho, _ =>
      have e : o = gpb_o10 := (Option.some.inj ho).symm
      subst e
      exact gpbF_s10 hF gP gX N cP np cX sb m b12 i q Q df w0 hq hm h0 h1 h2 x w hB hdef u7 u9 u10 u11 u12 (hdeps { on := 9, ground := Ground.data } (by simp) rfl) (hdeps { on := 8, ground := Ground.guard } (by simp) rfl)
    | 11, ho, _ =>
      have e : o = gpb_o11 := (Option.some.inj ho).symm
      subst e
      exact gpbF_s11 hF gP gX N cP np cX sb m b12 i q Q df w0 hq hm h0 h1 h2 x w hB hdef u7 u9 u10 u11 u12 (hdeps { on := 8, ground := Ground.guard } (by simp) rfl)
    | 12, ho, _ =>
      have e : o = gpb_o12 := (Option.some.inj ho).symm
      subst e
      exact gpbF_s12 hF gP gX N cP np cX sb m b12 i q Q df w0 hq hm h0 h1 h2 x w hB hdef u7 u9 u10 u11 u12 (hdeps { on := 11, ground := Ground.data } (by simp) rfl) (hdeps { on := 8, ground := Ground.guard } (by simp) rfl)
    | 13, ho, _ =>
      have e : o = gpb_o13 := (Option.some.inj ho).symm
      subst e
      exact gpbF_s13 hF gP gX N cP np cX sb m b12 i q Q df w0 hq hm h0 h1 h2 x w hB hdef u7 u9 u10 u11 u12 (hdeps { on := 10, ground := Ground.data } (by simp) rfl) (hdeps { on := 12, ground := Ground.data } (by simp) rfl) (hdeps { on := 8, ground := Ground.guard } (by simp) rfl)
    | 14, ho, _ =>
      have e : o = gpb_o14 := (Option.some.inj ho).symm
      subst e
      exact gpbF_s14 hF gP gX N cP np cX sb m b12 i q Q df w0 hq hm h0 h1 h2 x w hB hdef u7 u9 u10 u11 u12 (hdeps { on := 8, ground := Ground.data } (by simp) rfl) (hdeps { on := 13, ground := Ground.data } (by simp) rfl)
    | 15, ho, _ =>
      have e : o = gpb_o15 := (Option.some.inj ho).symm
      subst e
      exact gpbF_s15 hF gP gX N cP np cX sb m b12 i q Q df w0 hq hm h0 h1 h2 x w hB hdef u7 u9 u10 u11 u12 (hdeps { on := 14, ground := Ground.data } (by simp) rfl)
    | 16, ho, _ =>
      have e : o = gpb_o16 := (Option.some.inj ho).symm
      subst e
      exact gpbF_s16 hF gP gX N cP np cX sb m b12 i q Q df w0 hq hm h0 h1 h2 x w hB hdef u7 u9 u10 u11 u12 (hdeps { on := 15, ground := Ground.guard } (by simp) rfl)
    | 17, ho, _ =>
      have e : o = gpb_o17 := (Option.some.inj ho).symm
      subst e
      exact gpbF_s17 hF gP gX N cP np cX sb m b12 i q Q df w0 hq hm h0 h1 h2 x w hB hdef u7 u9 u10 u11 u12 (hdeps { on := 15, ground := Ground.guard } (by simp) rfl)
    | 18, ho, _ =>
      have e : o = gpb_o18 := (Option.some.inj ho).symm
      subst e
      exact gpbF_s18 hF gP gX N cP np cX sb m b12 i q Q df w0 hq hm h0 h1 h2 x w hB hdef u7 u9 u10 u11 u12 (hdeps { on := 17, ground := Ground.data } (by simp) rfl) (hdeps { on := 15, ground := Ground.guard } (by simp) rfl)
    | 19, ho, _ =>
      have e : o = gpb_o19 := (Option.some.inj ho).symm
      subst e
      exact gpbF_s19 hF gP gX N cP np cX sb m b12 i q Q df w0 hq hm h0 h1 h2 x w hB hdef u7 u9 u10 u11 u12 (hdeps { on := 16, ground := Ground.data } (by simp) rfl) (hdeps { on := 18, ground := Ground.data } (by simp) rfl) (hdeps { on := 15, ground := Ground.guard } (by simp) rfl)
    | 20, ho, _ =>
      have e : o = gpb_o20 := (Option.some.inj ho).symm
      subst e
      exact gpbF_s20 hF gP gX N cP np cX sb m b12 i q Q df w0 hq hm h0 h1 h2 x w hB hdef u7 u9 u10 u11 u12 (hdeps { on := 19, ground := Ground.data } (by simp) rfl) (hdeps { on := 15, ground := Ground.guard } (by simp) rfl)
    | 21, ho, _ =>
      have e : o = gpb_o21 := (Option.some.inj ho).symm
      subst e
      exact gpbF_s21 hF gP gX N cP np cX sb m b12 i q Q df w0 hq hm h0 h1 h2 x w hB hdef u7 u9 u10 u11 u12 (hdeps { on := 15, ground := Ground.data } (by simp) rfl) (hdeps { on := 20, ground := Ground.data } (by simp) rfl)
    | 22, ho, _ =>
      have e : o = gpb_o22 := (Option.some.inj ho).symm
      subst e
      exact gpbF_s22 hF gP gX N cP np cX sb m b12 i q Q df w0 hq hm h0 h1 h2 x w hB hdef u7 u9 u10 u11 u12 (hdeps { on := 21, ground := Ground.data } (by simp) rfl)
    | 23, ho, _ =>
      have e : o = gpb_o23 := (Option.some.inj ho).symm
      subst e
      exact gpbF_s23 hF gP gX N cP np cX sb m b12 i q Q df w0 hq hm h0 h1 h2 x w hB hdef u7 u9 u10 u11 u12 (hdeps { on := 22, ground := Ground.guard } (by simp) rfl)
    | 24, ho, _ =>
      have e : o = gpb_o24 := (Option.some.inj ho).symm
      subst e
      exact gpbF_s24 hF gP gX N cP np cX sb m b12 i q Q df w0 hq hm h0 h1 h2 x w hB hdef u7 u9 u10 u11 u12 (hdeps { on := 23, ground := Ground.data } (by simp) rfl) (hdeps { on := 22, ground := Ground.guard } (by simp) rfl)
    | 25, ho, _ =>
      have e : o = gpb_o25 := (Option.some.inj ho).symm
      subst e
      exact gpbF_s25 hF gP gX N cP np cX sb m b12 i q Q df w0 hq hm h0 h1 h2 x w hB hdef u7 u9 u10 u11 u12 (hdeps { on := 24, ground := Ground.data } (by simp) rfl) (hdeps { on := 22, ground := Ground.guard } (by simp) rfl)
    | 26, ho, _ =>
      have e : o = gpb_o26 := (Option.some.inj ho).symm
      subst e
      exact gpbF_s26 hF gP gX N cP np cX sb m b12 i q Q df w0 hq hm h0 h1 h2 x w hB hdef u7 u9 u10 u11 u12 (hdeps { on := 25, ground := Ground.guard } (by simp) rfl)
    | 27, ho, _ =>
      have e : o = gpb_o27 := (Option.some.inj ho).symm
      subst e
      exact gpbF_s27 hF gP gX N cP np cX sb m b12 i q Q df w0 hq hm h0 h1 h2 x w hB hdef u7 u9 u10 u11 u12 (hdeps { on := 25, ground := Ground.guard } (by simp) rfl)
    | 28, ho, _ =>
      have e : o = gpb_o28 := (Option.some.inj ho).symm
      subst e
      exact gpbF_s28 hF gP gX N cP np cX sb m b12 i q Q df w0 hq hm h0 h1 h2 x w hB hdef u7 u9 u10 u11 u12 (hdeps { on := 26, ground := Ground.data } (by simp) rfl) (hdeps { on := 27, ground := Ground.data } (by simp) rfl) (hdeps { on := 25, ground := Ground.guard } (by simp) rfl)
    | 29, ho, _ =>
      have e : o = gpb_o29 := (Option.some.inj ho).symm
      subst e
      exact gpbF_s29 hF gP gX N cP np cX sb m b12 i q Q df w0 hq hm h0 h1 h2 x w hB hdef u7 u9 u10 u11 u12 (hdeps { on := 28, ground := Ground.data } (by simp) rfl) (hdeps { on := 25, ground := Ground.guard } (by simp) rfl)
    | 30, ho, _ =>
      have e : o = gpb_o30 := (Option.some.inj ho).symm
      subst e
      exact gpbF_s30 hF gP gX N cP np cX sb m b12 i q Q df w0 hq hm h0 h1 h2 x w hB hdef u7 u9 u10 u11 u12 (hdeps { on := 29, ground := Ground.data } (by simp) rfl) (hdeps { on := 25, ground := Ground.guard } (by simp) rfl)
    | 31, ho, _ =>
      have e : o = gpb_o31 := (Option.some.inj ho).symm
      subst e
      exact gpbF_s31 hF gP gX N cP np cX sb m b12 i q Q df w0 hq hm h0 h1 h2 x w hB hdef u7 u9 u10 u11 u12 (hdeps { on := 25, ground := Ground.guard } (by simp) rfl)
    | 32, ho, _ =>
      have e : o = gpb_o32 := (Option.some.inj ho).symm
      subst e
      exact gpbF_s32 hF gP gX N cP np cX sb m b12 i q Q df w0 hq hm h0 h1 h2 x w hB hdef u7 u9 u10 u11 u12 (hdeps { on := 31, ground := Ground.data } (by simp) rfl) (hdeps { on := 25, ground := Ground.guard } (by simp) rfl)
    | 33, ho, _ =>
      have e : o = gpb_o33 := (Option.some.inj ho).symm
      subst e
      exact gpbF_s33 hF gP gX N cP np cX sb m b12 i q Q df w0 hq hm h0 h1 h2 x w hB hdef u7 u9 u10 u11 u12 (hdeps { on := 30, ground := Ground.data } (by simp) rfl) (hdeps { on := 32, ground := Ground.data } (by simp) rfl) (hdeps { on := 25, ground := Ground.guard } (by simp) rfl)
    | 34, ho, _ =>
      have e : o = gpb_o34 := (Option.some.inj ho).symm
      subst e
      exact gpbF_s34 hF gP gX N cP np cX sb m b12 i q Q df w0 hq hm h0 h1 h2 x w hB hdef u7 u9 u10 u11 u12 (hdeps { on := 33, ground := Ground.data } (by simp) rfl) (hdeps { on := 25, ground := Ground.guard } (by simp) rfl)
    | 35, ho, _ =>
      have e : o = gpb_o35 := (Option.some.inj ho).symm
      subst e
      exact gpbF_s35 hF gP gX N cP np cX sb m b12 i q Q df w0 hq hm h0 h1 h2 x w hB hdef u7 u9 u10 u11 u12 (hdeps { on := 34, ground := Ground.data } (by simp) rfl) (hdeps { on := 25, ground := Ground.guard } (by simp) rfl)
    | 36, ho, _ =>
      have e : o = gpb_o36 := (Option.some.inj ho).symm
      subst e
      exact gpbF_s36 hF gP gX N cP np cX sb m b12 i q Q df w0 hq hm h0 h1 h2 x w hB hdef u7 u9 u10 u11 u12 (hdeps { on := 25, ground := Ground.guard } (by simp) rfl)
    | 37, ho, _ =>
      have e : o = gpb_o37 := (Option.some.inj ho).symm
      subst e
      exact gpbF_s37 hF gP gX N cP np cX sb m b12 i q Q df w0 hq hm h0 h1 h2 x w hB hdef u7 u9 u10 u11 u12 (hdeps { on := 36, ground := Ground.data } (by simp) rfl) (hdeps { on := 25, ground := Ground.guard } (by simp) rfl)
    | 38, ho, _ =>
      have e : o = gpb_o38 := (Option.some.inj ho).symm
      subst e
      exact gpbF_s38 hF gP gX N cP np cX sb m b12 i q Q df w0 hq hm h0 h1 h2 x w hB hdef u7 u9 u10 u11 u12 (hdeps { on := 35, ground := Ground.data } (by simp) rfl) (hdeps { on := 37, ground := Ground.data } (by simp) rfl) (hdeps { on := 25, ground := Ground.guard } (by simp) rfl)
    | 39, ho, _ =>
      have e : o = gpb_o39 := (Option.some.inj ho).symm
      subst e
      exact gpbF_s39 hF gP gX N cP np cX sb m b12 i q Q df w0 hq hm h0 h1 h2 x w hB hdef u7 u9 u10 u11 u12 (hdeps { on := 25, ground := Ground.data } (by simp) rfl) (hdeps { on := 38, ground := Ground.data } (by simp) rfl) (hdeps { on := 22, ground := Ground.guard } (by simp) rfl)
    | 40, ho, _ =>
      have e : o = gpb_o40 := (Option.some.inj ho).symm
      subst e
      exact gpbF_s40 hF gP gX N cP np cX sb m b12 i q Q df w0 hq hm h0 h1 h2 x w hB hdef u7 u9 u10 u11 u12 (hdeps { on := 22, ground := Ground.data } (by simp) rfl) (hdeps { on := 39, ground := Ground.data } (by simp) rfl)
    | k + 41, _, hj => omega
  · intro x w hB hdef hsz hs hv
    have hx := frame_sets x.tmps t0 hsz [98, 99, 100, 101, 102, 103, 104, 105, 106, 107, 108, 109, 110, 111, 112, 113, 114, 115, 116, 117, 118, 119, 120, 121, 122, 123, 124, 125, 126, 127, 128, 129, 130, 131, 132, 133, 134, 135, 136, 137, 138] (fun s hn => hs s (fun j hj e => hn (by rw [e]; exact gpb_slots j hj)))
    have hq := hQ (fun d => x.tmps.getD d undef) w hB (hv 40 (by decide))
    obtain ⟨T, Df⟩ := x
    dsimp only at hx hdef hq
    subst hdef
    rw [← hx] at hq
    exact hq

def gpbL_val (gP gX N cP np cX sb m b12 i k q q0 : Nat) : Nat → Value → World → Prop
  | 0, v, w => v = .pointer (some ⟨b12, 0, none⟩)
  | 1, v, w => v = .int .i64 0
  | 2, v, w => v = .bool false
  | 3, v, w => v = .bool false
  | 4, v, w => v = .pointer (some ⟨b12, 1, none⟩)
  | 5, v, w => v = .int .i64 (q : Nat)
  | 6, v, w => v = .bool false
  | 7, v, w => v = .bool false
  | 8, v, w => v = .bool false
  | 9, v, w => v = .pointer (some ⟨b12, 1, none⟩)
  | 10, v, w => v = .int .i64 (q : Nat)
  | 11, v, w => v = .slice (some ⟨sb, 0, none⟩) m m
  | 12, v, w => v = .int .i64 (m : Nat)
  | 13, v, w => v = .bool false
  | 14, v, w => v = .bool false
  | 15, v, w => v = .bool false
  | 16, v, w => v = .slice (some ⟨sb, 0, none⟩) m m
  | 17, v, w => v = .pointer (some ⟨b12, 1, none⟩)
  | 18, v, w => v = .int .i64 (q : Nat)
  | 19, v, w => v = .pointer (some ⟨sb, q, none⟩)
  | 20, v, w => v = .bool false
  | 21, v, w => v = .bool false
  | 22, v, w => v = .bool false
  | 23, v, w => v = .int .i64 ((k : Int) + 1)
  | 24, v, w => v = .bool true
  | 25, v, w => v = .bool true
  | 26, v, w => v = .slice (some ⟨gP, 0, none⟩) N cP
  | 27, v, w => v = .int .i64 (i : Nat)
  | 28, v, w => v = .pointer (some ⟨gP, i * 2, none⟩)
  | 29, v, w => v = .pointer (some ⟨gP, i * 2 + 1, none⟩)
  | 30, v, w => v = .slice (some ⟨gX, 0, none⟩) np cX
  | 31, v, w => v = .int .i64 ((k : Int) + 1)
  | 32, v, w => v = .int .i64 (k : Nat)
  | 33, v, w => v = .pointer (some ⟨gX, k * 2, none⟩)
  | 34, v, w => v = .pointer (some ⟨gX, k * 2 + 1, none⟩)
  | 35, v, w => v = .int .i64 (q0 : Nat)
  | 36, v, w => v = .pointer (some ⟨b12, 1, none⟩)
  | 37, v, w => v = .int .i64 (q : Nat)
  | 38, v, w => v = .bool false
  | 39, v, w => v = .bool false
  | 40, v, w => v = .bool false
  | _, _, _ => True
theorem gpbL_below (gP gX N cP np cX sb m b12 i k q q0 : Nat) (w w' : World) (hb : Below w.heap.size w w') : ∀ j v, gpbL_val gP gX N cP np cX sb m b12 i k q q0 j v w → gpbL_val gP gX N cP np cX sb m b12 i k q q0 j v w' := by
  intro j v h
  match j, h with
  | 0, h => exact h
  | 1, h => exact h
  | 2, h => exact h
  | 3, h => exact h
  | 4, h => exact h
  | 5, h => exact h
  | 6, h => exact h
  | 7, h => exact h
  | 8, h => exact h
  | 9, h => exact h
  | 10, h => exact h
  | 11, h => exact h
  | 12, h => exact h
  | 13, h => exact h
  | 14, h => exact h
  | 15, h => exact h
  | 16, h => exact h
  | 17, h => exact h
  | 18, h => exact h
  | 19, h => exact h
  | 20, h => exact h
  | 21, h => exact h
  | 22, h => exact h
  | 23, h => exact h
  | 24, h => exact h
  | 25, h => exact h
  | 26, h => exact h
  | 27, h => exact h
  | 28, h => exact h
  | 29, h => exact h
  | 30, h => exact h
  | 31, h => exact h
  | 32, h => exact h
  | 33, h => exact h
  | 34, h => exact h
  | 35, h => exact h
  | 36, h => exact h
  | 37, h => exact h
  | 38, h => exact h
  | 39, h => exact h
  | 40, h => exact h
  | _ + 41, h => exact h
set_option maxRecDepth 100000 in
set_option maxHeartbeats 2000000 in
theorem gpbL_s0 {Fc : Fence} (hF : Wide Fc) {nC : Nat} (gP gX N cP np cX sb m b12 i k q q0 : Nat) (Q : Exit → Act → World → Prop) (df : List Deferred) (w0 : World)
    (hq : q < m) (hm : m ≤ 4000) (h0 : w0.cell? ⟨b12, 0, none⟩ = some (.int .i64 0)) (h1 : w0.cell? ⟨b12, 1, none⟩ = some (.int .i64 (q : Nat))) (h2 : w0.cell? ⟨sb, q, none⟩ = some (.bool false)) (hi : i < N) (hN : N ≤ 4000) (hk : k + 1 < np) (hnp : np ≤ 4000) (h3 : w0.cell? ⟨gP, i * 2 + 1, none⟩ = some (.slice (some ⟨gX, 0, none⟩) np cX)) (h4 : w0.cell? ⟨gX, k * 2 + 1, none⟩ = some (.int .i64 (q0 : Nat))) (hq0 : q0 < q)
    (x : Act) (w : World) (hB : Below w0.heap.size w0 w) (hdef : x.defers = df) (u7 : x.tmps.getD 7 undef = .slice (some ⟨gP, 0, none⟩) N cP) (u9 : x.tmps.getD 9 undef = .slice (some ⟨sb, 0, none⟩) m m) (u10 : x.tmps.getD 10 undef = .int .i64 (i : Nat)) (u11 : x.tmps.getD 11 undef = .int .i64 ((k : Int) + 1)) (u12 : x.tmps.getD 12 undef = .pointer (some ⟨b12, 0, none⟩))
    : wpOpIn Fc nC Try.prog gpb_ops Q 0 (fun a' w' => ∃ v, a' = x.put (some 98) v ∧ (v = .pointer (some ⟨b12, 0, none⟩)) ∧ Below w.heap.size w w') x w := by
  have ho : gpb_ops[0]? = some gpb_o0 := rfl
  simp only [Array.getD_eq_getD_getElem?] at u7 u9 u10 u11 u12
  refine wpOpIn_plain ho rfl (oper_inK hF.fn (fun K hK => ?_))
  clear ho
  rw [Oper.semAt_plain Fc _ _ (by intro c h; cases h)]
  simp only [gpb_o0]
  go_simp
  exact hK _ _ ⟨_, act_putD x hdef _ _, rfl, Below.refl _ _⟩
set_option maxRecDepth 100000 in
set_option maxHeartbeats 2000000 in
theorem gpbL_s1 {Fc : Fence} (hF : Wide Fc) {nC : Nat} (gP gX N cP np cX sb m b12 i k q q0 : Nat) (Q : Exit → Act → World → Prop) (df : List Deferred) (w0 : World)
    (hq : q < m) (hm : m ≤ 4000) (h0 : w0.cell? ⟨b12, 0, none⟩ = some (.int .i64 0)) (h1 : w0.cell? ⟨b12, 1, none⟩ = some (.int .i64 (q : Nat))) (h2 : w0.cell? ⟨sb, q, none⟩ = some (.bool false)) (hi : i < N) (hN : N ≤ 4000) (hk : k + 1 < np) (hnp : np ≤ 4000) (h3 : w0.cell? ⟨gP, i * 2 + 1, none⟩ = some (.slice (some ⟨gX, 0, none⟩) np cX)) (h4 : w0.cell? ⟨gX, k * 2 + 1, none⟩ = some (.int .i64 (q0 : Nat))) (hq0 : q0 < q)
    (x : Act) (w : World) (hB : Below w0.heap.size w0 w) (hdef : x.defers = df) (u7 : x.tmps.getD 7 undef = .slice (some ⟨gP, 0, none⟩) N cP) (u9 : x.tmps.getD 9 undef = .slice (some ⟨sb, 0, none⟩) m m) (u10 : x.tmps.getD 10 undef = .int .i64 (i : Nat)) (u11 : x.tmps.getD 11 undef = .int .i64 ((k : Int) + 1)) (u12 : x.tmps.getD 12 undef = .pointer (some ⟨b12, 0, none⟩))
    (p0 : gpbL_val gP gX N cP np cX sb m b12 i k q q0 0 (x.tmps.getD 98 undef) w)
    : wpOpIn Fc nC Try.prog gpb_ops Q 1 (fun a' w' => ∃ v, a' = x.put (some 99) v ∧ (v = .int .i64 0) ∧ Below w.heap.size w w') x w := by
  have ho : gpb_ops[1]? = some gpb_o1 := rfl
  simp only [Array.getD_eq_getD_getElem?] at u7 u9 u10 u11 u12
  have q0 : x.tmps.getD 98 undef = .pointer (some ⟨b12, 0, none⟩) := p0
  simp only [Array.getD_eq_getD_getElem?] at q0
  have u := cell_thru h0 hB
  refine wpOpIn_plain ho rfl (oper_inK hF.fn (fun K hK => ?_))
  clear ho
  rw [Oper.semAt_plain Fc _ _ (by intro c h; cases h)]
  simp only [gpb_o1]
  go_simp
  exact hK _ _ ⟨_, act_putD x hdef _ _, rfl, Below.refl _ _⟩
set_option maxRecDepth 100000 in
set_option maxHeartbeats 2000000 in
theorem gpbL_s2 {Fc : Fence} (hF : Wide Fc) {nC : Nat} (gP gX N cP np cX sb m b12 i k q q0 : Nat) (Q : Exit → Act → World → Prop) (df : List Deferred) (w0 : World)
    (hq : q < m) (hm : m ≤ 4000) (h0 : w0.cell? ⟨b12, 0, none⟩ = some (.int .i64 0)) (h1 : w0.cell? ⟨b12, 1, none⟩ = some (.int .i64 (q : Nat))) (h2 : w0.cell? ⟨sb, q, none⟩ = some (.bool false)) (hi : i < N) (hN : N ≤ 4000) (hk : k + 1 < np) (hnp : np ≤ 4000) (h3 : w0.cell? ⟨gP, i * 2 + 1, none⟩ = some (.slice (some ⟨gX, 0, none⟩) np cX)) (h4 : w0.cell? ⟨gX, k * 2 + 1, none⟩ = some (.int .i64 (q0 : Nat))) (hq0 : q0 < q)
    (x : Act) (w : World) (hB : Below w0.heap.size w0 w) (hdef : x.defers = df) (u7 : x.tmps.getD 7 undef = .slice (some ⟨gP, 0, none⟩) N cP) (u9 : x.tmps.getD 9 undef = .slice (some ⟨sb, 0, none⟩) m m) (u10 : x.tmps.getD 10 undef = .int .i64 (i : Nat)) (u11 : x.tmps.getD 11 undef = .int .i64 ((k : Int) + 1)) (u12 : x.tmps.getD 12 undef = .pointer (some ⟨b12, 0, none⟩))
    (p1 : gpbL_val gP gX N cP np cX sb m b12 i k q q0 1 (x.tmps.getD 99 undef) w)
    : wpOpIn Fc nC Try.prog gpb_ops Q 2 (fun a' w' => ∃ v, a' = x.put (some 100) v ∧ (v = .bool false) ∧ Below w.heap.size w w') x w := by
  have ho : gpb_ops[2]? = some gpb_o2 := rfl
  simp only [Array.getD_eq_getD_getElem?] at u7 u9 u10 u11 u12
  have q1 : x.tmps.getD 99 undef = .int .i64 0 := p1
  simp only [Array.getD_eq_getD_getElem?] at q1
  refine wpOpIn_plain ho rfl (oper_inK hF.fn (fun K hK => ?_))
  clear ho
  rw [Oper.semAt_plain Fc _ _ (by intro c h; cases h)]
  simp only [gpb_o2]
  go_simp
  exact hK _ _ ⟨_, act_putD x hdef _ _, rfl, Below.refl _ _⟩
set_option maxRecDepth 100000 in
set_option maxHeartbeats 2000000 in
theorem gpbL_s3 {Fc : Fence} (hF : Wide Fc) {nC : Nat} (gP gX N cP np cX sb m b12 i k q q0 : Nat) (Q : Exit → Act → World → Prop) (df : List Deferred) (w0 : World)
    (hq : q < m) (hm : m ≤ 4000) (h0 : w0.cell? ⟨b12, 0, none⟩ = some (.int .i64 0)) (h1 : w0.cell? ⟨b12, 1, none⟩ = some (.int .i64 (q : Nat))) (h2 : w0.cell? ⟨sb, q, none⟩ = some (.bool false)) (hi : i < N) (hN : N ≤ 4000) (hk : k + 1 < np) (hnp : np ≤ 4000) (h3 : w0.cell? ⟨gP, i * 2 + 1, none⟩ = some (.slice (some ⟨gX, 0, none⟩) np cX)) (h4 : w0.cell? ⟨gX, k * 2 + 1, none⟩ = some (.int .i64 (q0 : Nat))) (hq0 : q0 < q)
    (x : Act) (w : World) (hB : Below w0.heap.size w0 w) (hdef : x.defers = df) (u7 : x.tmps.getD 7 undef = .slice (some ⟨gP, 0, none⟩) N cP) (u9 : x.tmps.getD 9 undef = .slice (some ⟨sb, 0, none⟩) m m) (u10 : x.tmps.getD 10 undef = .int .i64 (i : Nat)) (u11 : x.tmps.getD 11 undef = .int .i64 ((k : Int) + 1)) (u12 : x.tmps.getD 12 undef = .pointer (some ⟨b12, 0, none⟩))
    (p2 : gpbL_val gP gX N cP np cX sb m b12 i k q q0 2 (x.tmps.getD 100 undef) w)
    : wpOpIn Fc nC Try.prog gpb_ops Q 3 (fun a' w' => ∃ v, a' = x.put (some 101) v ∧ (v = .bool false) ∧ Below w.heap.size w w') x w := by
  have ho : gpb_ops[3]? = some gpb_o3 := rfl
  simp only [Array.getD_eq_getD_getElem?] at u7 u9 u10 u11 u12
  have q2 : x.tmps.getD 100 undef = .bool false := p2
  simp only [Array.getD_eq_getD_getElem?] at q2
  refine wpOpIn_plain ho rfl (oper_inK hF.fn (fun K hK => ?_))
  clear ho
  rw [Oper.semAt_plain Fc _ _ (by intro c h; cases h)]
  simp only [gpb_o3]
  go_simp
  exact hK _ _ ⟨_, act_putD x hdef _ _, rfl, Below.refl _ _⟩
set_option maxRecDepth 100000 in
set_option maxHeartbeats 2000000 in
theorem gpbL_s4 {Fc : Fence} (hF : Wide Fc) {nC : Nat} (gP gX N cP np cX sb m b12 i k q q0 : Nat) (Q : Exit → Act → World → Prop) (df : List Deferred) (w0 : World)
    (hq : q < m) (hm : m ≤ 4000) (h0 : w0.cell? ⟨b12, 0, none⟩ = some (.int .i64 0)) (h1 : w0.cell? ⟨b12, 1, none⟩ = some (.int .i64 (q : Nat))) (h2 : w0.cell? ⟨sb, q, none⟩ = some (.bool false)) (hi : i < N) (hN : N ≤ 4000) (hk : k + 1 < np) (hnp : np ≤ 4000) (h3 : w0.cell? ⟨gP, i * 2 + 1, none⟩ = some (.slice (some ⟨gX, 0, none⟩) np cX)) (h4 : w0.cell? ⟨gX, k * 2 + 1, none⟩ = some (.int .i64 (q0 : Nat))) (hq0 : q0 < q)
    (x : Act) (w : World) (hB : Below w0.heap.size w0 w) (hdef : x.defers = df) (u7 : x.tmps.getD 7 undef = .slice (some ⟨gP, 0, none⟩) N cP) (u9 : x.tmps.getD 9 undef = .slice (some ⟨sb, 0, none⟩) m m) (u10 : x.tmps.getD 10 undef = .int .i64 (i : Nat)) (u11 : x.tmps.getD 11 undef = .int .i64 ((k : Int) + 1)) (u12 : x.tmps.getD 12 undef = .pointer (some ⟨b12, 0, none⟩))
    (p3 : gpbL_val gP gX N cP np cX sb m b12 i k q q0 3 (x.tmps.getD 101 undef) w)
    : wpOpIn Fc nC Try.prog gpb_ops Q 4 (fun a' w' => ∃ v, a' = x.put (some 102) v ∧ (v = .pointer (some ⟨b12, 1, none⟩)) ∧ Below w.heap.size w w') x w := by
  have ho : gpb_ops[4]? = some gpb_o4 := rfl
  simp only [Array.getD_eq_getD_getElem?] at u7 u9 u10 u11 u12
  have q3 : x.tmps.getD 101 undef = .bool false := p3
  simp only [Array.getD_eq_getD_getElem?] at q3
  have e3 : (gpb_ops[3]?.bind fun x => x.dst) = some 101 := rfl
  have g3 := get_someT q3 (fun h => by cases h)
  refine wpOpIn_stepT hF ho (fun K hK => ?_)
  clear ho
  rw [Oper.semAt_plain Fc _ _ (by intro c h; cases h)]
  simp only [gpb_o4]
  go_simp
  exact hK _ _ ⟨_, act_putD x hdef _ _, rfl, Below.refl _ _⟩
set_option maxRecDepth 100000 in
set_option maxHeartbeats 2000000 in
theorem gpbL_s5 {Fc : Fence} (hF : Wide Fc) {nC : Nat} (gP gX N cP np cX sb m b12 i k q q0 : Nat) (Q : Exit → Act → World → Prop) (df : List Deferred) (w0 : World)
    (hq : q < m) (hm : m ≤ 4000) (h0 : w0.cell? ⟨b12, 0, none⟩ = some (.int .i64 0)) (h1 : w0.cell? ⟨b12, 1, none⟩ = some (.int .i64 (q : Nat))) (h2 : w0.cell? ⟨sb, q, none⟩ = some (.bool false)) (hi : i < N) (hN : N ≤ 4000) (hk : k + 1 < np) (hnp : np ≤ 4000) (h3 : w0.cell? ⟨gP, i * 2 + 1, none⟩ = some (.slice (some ⟨gX, 0, none⟩) np cX)) (h4 : w0.cell? ⟨gX, k * 2 + 1, none⟩ = some (.int .i64 (q0 : Nat))) (hq0 : q0 < q)
    (x : Act) (w : World) (hB : Below w0.heap.size w0 w) (hdef : x.defers = df) (u7 : x.tmps.getD 7 undef = .slice (some ⟨gP, 0, none⟩) N cP) (u9 : x.tmps.getD 9 undef = .slice (some ⟨sb, 0, none⟩) m m) (u10 : x.tmps.getD 10 undef = .int .i64 (i : Nat)) (u11 : x.tmps.getD 11 undef = .int .i64 ((k : Int) + 1)) (u12 : x.tmps.getD 12 undef = .pointer (some ⟨b12, 0, none⟩))
    (p4 : gpbL_val gP gX N cP np cX sb m b12 i k q q0 4 (x.tmps.getD 102 undef) w)
    (p3 : gpbL_val gP gX N cP np cX sb m b12 i k q q0 3 (x.tmps.getD 101 undef) w)
    : wpOpIn Fc nC Try.prog gpb_ops Q 5 (fun a' w' => ∃ v, a' = x.put (some 103) v ∧ (v = .int .i64 (q : Nat)) ∧ Below w.heap.size w w') x w := by
  have ho : gpb_ops[5]? = some gpb_o5 := rfl
  simp only [Array.getD_eq_getD_getElem?] at u7 u9 u10 u11 u12
  have q4 : x.tmps.getD 102 undef = .pointer (some ⟨b12, 1, none⟩) := p4
  have q3 : x.tmps.getD 101 undef = .bool false := p3
  simp only [Array.getD_eq_getD_getElem?] at q4 q3
  have e3 : (gpb_ops[3]?.bind fun x => x.dst) = some 101 := rfl
  have g3 := get_someT q3 (fun h => by cases h)
  have u := cell_thru h1 hB
  refine wpOpIn_stepT hF ho (fun K hK => ?_)
  clear ho
  rw [Oper.semAt_plain Fc _ _ (by intro c h; cases h)]
  simp only [gpb_o5]
  go_simp
  exact hK _ _ ⟨_, act_putD x hdef _ _, rfl, Below.refl _ _⟩
set_option maxRecDepth 100000 in
set_option maxHeartbeats 2000000 in
theorem gpbL_s6 {Fc : Fence} (hF : Wide Fc) {nC : Nat} (gP gX N cP np cX sb m b12 i k q q0 : Nat) (Q : Exit → Act → World → Prop) (df : List Deferred) (w0 : World)
    (hq : q < m) (hm : m ≤ 4000) (h0 : w0.cell? ⟨b12, 0, none⟩ = some (.int .i64 0)) (h1 : w0.cell? ⟨b12, 1, none⟩ = some (.int .i64 (q : Nat))) (h2 : w0.cell? ⟨sb, q, none⟩ = some (.bool false)) (hi : i < N) (hN : N ≤ 4000) (hk : k + 1 < np) (hnp : np ≤ 4000) (h3 : w0.cell? ⟨gP, i * 2 + 1, none⟩ = some (.slice (some ⟨gX, 0, none⟩) np cX)) (h4 : w0.cell? ⟨gX, k * 2 + 1, none⟩ = some (.int .i64 (q0 : Nat))) (hq0 : q0 < q)
    (x : Act) (w : World) (hB : Below w0.heap.size w0 w) (hdef : x.defers = df) (u7 : x.tmps.getD 7 undef = .slice (some ⟨gP, 0, none⟩) N cP) (u9 : x.tmps.getD 9 undef = .slice (some ⟨sb, 0, none⟩) m m) (u10 : x.tmps.getD 10 undef = .int .i64 (i : Nat)) (u11 : x.tmps.getD 11 undef = .int .i64 ((k : Int) + 1)) (u12 : x.tmps.getD 12 undef = .pointer (some ⟨b12, 0, none⟩))
    (p5 : gpbL_val gP gX N cP np cX sb m b12 i k q q0 5 (x.tmps.getD 103 undef) w)
    (p3 : gpbL_val gP gX N cP np cX sb m b12 i k q q0 3 (x.tmps.getD 101 undef) w)
    : wpOpIn Fc nC Try.prog gpb_ops Q 6 (fun a' w' => ∃ v, a' = x.put (some 104) v ∧ (v = .bool false) ∧ Below w.heap.size w w') x w := by
  have ho : gpb_ops[6]? = some gpb_o6 := rfl
  simp only [Array.getD_eq_getD_getElem?] at u7 u9 u10 u11 u12
  have q5 : x.tmps.getD 103 undef = .int .i64 (q : Nat) := p5
  have q3 : x.tmps.getD 101 undef = .bool false := p3
  simp only [Array.getD_eq_getD_getElem?] at q5 q3
  have e3 : (gpb_ops[3]?.bind fun x => x.dst) = some 101 := rfl
  have g3 := get_someT q3 (fun h => by cases h)
  have u : ¬ ((q : Int) < 0) := by omega
  refine wpOpIn_stepT hF ho (fun K hK => ?_)
  clear ho
  rw [Oper.semAt_plain Fc _ _ (by intro c h; cases h)]
  simp only [gpb_o6]
  go_simp
  exact hK _ _ ⟨_, act_putD x hdef _ _, rfl, Below.refl _ _⟩
set_option maxRecDepth 100000 in
set_option maxHeartbeats 2000000 in
theorem gpbL_s7 {Fc : Fence} (hF : Wide Fc) {nC : Nat} (gP gX N cP np cX sb m b12 i k q q0 : Nat) (Q : Exit → Act → World → Prop) (df : List Deferred) (w0 : World)
    (hq : q < m) (hm : m ≤ 4000) (h0 : w0.cell? ⟨b12, 0, none⟩ = some (.int .i64 0)) (h1 : w0.cell? ⟨b12, 1, none⟩ = some (.int .i64 (q : Nat))) (h2 : w0.cell? ⟨sb, q, none⟩ = some (.bool false)) (hi : i < N) (hN : N ≤ 4000) (hk : k + 1 < np) (hnp : np ≤ 4000) (h3 : w0.cell? ⟨gP, i * 2 + 1, none⟩ = some (.slice (some ⟨gX, 0, none⟩) np cX)) (h4 : w0.cell? ⟨gX, k * 2 + 1, none⟩ = some (.int .i64 (q0 : Nat))) (hq0 : q0 < q)
    (x : Act) (w : World) (hB : Below w0.heap.size w0 w) (hdef : x.defers = df) (u7 : x.tmps.getD 7 undef = .slice (some ⟨gP, 0, none⟩) N cP) (u9 : x.tmps.getD 9 undef = .slice (some ⟨sb, 0, none⟩) m m) (u10 : x.tmps.getD 10 undef = .int .i64 (i : Nat)) (u11 : x.tmps.getD 11 undef = .int .i64 ((k : Int) + 1)) (u12 : x.tmps.getD 12 undef = .pointer (some ⟨b12, 0, none⟩))
    (p3 : gpbL_val gP gX N cP np cX sb m b12 i k q q0 3 (x.tmps.getD 101 undef) w)
    (p6 : gpbL_val gP gX N cP np cX sb m b12 i k q q0 6 (x.tmps.getD 104 undef) w)
    : wpOpIn Fc nC Try.prog gpb_ops Q 7 (fun a' w' => ∃ v, a' = x.put (some 105) v ∧ (v = .bool false) ∧ Below w.heap.size w w') x w := by
  have ho : gpb_ops[7]? = some gpb_o7 := rfl
  simp only [Array.getD_eq_getD_getElem?] at u7 u9 u10 u11 u12
  have q3 : x.tmps.getD 101 undef = .bool false := p3
  have q6 : x.tmps.getD 104 undef = .bool false := p6
  simp only [Array.getD_eq_getD_getElem?] at q3 q6
  refine wpOpIn_plain ho rfl (oper_inK hF.fn (fun K hK => ?_))
  clear ho
  rw [Oper.semAt_plain Fc _ _ (by intro c h; cases h)]
  simp only [gpb_o7]
  go_simp
  exact hK _ _ ⟨_, act_putD x hdef _ _, rfl, Below.refl _ _⟩
set_option maxRecDepth 100000 in
set_option maxHeartbeats 2000000 in
theorem gpbL_s8 {Fc : Fence} (hF : Wide Fc) {nC : Nat} (gP gX N cP np cX sb m b12 i k q q0 : Nat) (Q : Exit → Act → World → Prop) (df : List Deferred) (w0 : World)
    (hq : q < m) (hm : m ≤ 4000) (h0 : w0.cell? ⟨b12, 0, none⟩ = some (.int .i64 0)) (h1 : w0.cell? ⟨b12, 1, none⟩ = some (.int .i64 (q : Nat))) (h2 : w0.cell? ⟨sb, q, none⟩ = some (.bool false)) (hi : i < N) (hN : N ≤ 4000) (hk : k + 1 < np) (hnp : np ≤ 4000) (h3 : w0.cell? ⟨gP, i * 2 + 1, none⟩ = some (.slice (some ⟨gX, 0, none⟩) np cX)) (h4 : w0.cell? ⟨gX, k * 2 + 1, none⟩ = some (.int .i64 (q0 : Nat))) (hq0 : q0 < q)
    (x : Act) (w : World) (hB : Below w0.heap.size w0 w) (hdef : x.defers = df) (u7 : x.tmps.getD 7 undef = .slice (some ⟨gP, 0, none⟩) N cP) (u9 : x.tmps.getD 9 undef = .slice (some ⟨sb, 0, none⟩) m m) (u10 : x.tmps.getD 10 undef = .int .i64 (i : Nat)) (u11 : x.tmps.getD 11 undef = .int .i64 ((k : Int) + 1)) (u12 : x.tmps.getD 12 undef = .pointer (some ⟨b12, 0, none⟩))
    (p7 : gpbL_val gP gX N cP np cX sb m b12 i k q q0 7 (x.tmps.getD 105 undef) w)
    : wpOpIn Fc nC Try.prog gpb_ops Q 8 (fun a' w' => ∃ v, a' = x.put (some 106) v ∧ (v = .bool false) ∧ Below w.heap.size w w') x w := by
  have ho : gpb_ops[8]? = some gpb_o8 := rfl
  simp only [Array.getD_eq_getD_getElem?] at u7 u9 u10 u11 u12
  have q7 : x.tmps.getD 105 undef = .bool false := p7
  simp only [Array.getD_eq_getD_getElem?] at q7
  refine wpOpIn_plain ho rfl (oper_inK hF.fn (fun K hK => ?_))
  clear ho
  rw [Oper.semAt_plain Fc _ _ (by intro c h; cases h)]
  simp only [gpb_o8]
  go_simp
  exact hK _ _ ⟨_, act_putD x hdef _ _, rfl, Below.refl _ _⟩
set_option maxRecDepth 100000 in
set_option maxHeartbeats 2000000 in
theorem gpbL_s9 {Fc : Fence} (hF : Wide Fc) {nC : Nat} (gP gX N cP np cX sb m b12 i k q q0 : Nat) (Q : Exit → Act → World → Prop) (df : List Deferred) (w0 : World)
    (hq : q < m) (hm : m ≤ 4000) (h0 : w0.cell? ⟨b12, 0, none⟩ = some (.int .i64 0)) (h1 : w0.cell? ⟨b12, 1, none⟩ = some (.int .i64 (q : Nat))) (h2 : w0.cell? ⟨sb, q, none⟩ = some (.bool false)) (hi : i < N) (hN : N ≤ 4000) (hk : k + 1 < np) (hnp : np ≤ 4000) (h3 : w0.cell? ⟨gP, i * 2 + 1, none⟩ = some (.slice (some ⟨gX, 0, none⟩) np cX)) (h4 : w0.cell? ⟨gX, k * 2 + 1, none⟩ = some (.int .i64 (q0 : Nat))) (hq0 : q0 < q)
    (x : Act) (w : World) (hB : Below w0.heap.size w0 w) (hdef : x.defers = df) (u7 : x.tmps.getD 7 undef = .slice (some ⟨gP, 0, none⟩) N cP) (u9 : x.tmps.getD 9 undef = .slice (some ⟨sb, 0, none⟩) m m) (u10 : x.tmps.getD 10 undef = .int .i64 (i : Nat)) (u11 : x.tmps.getD 11 undef = .int .i64 ((k : Int) + 1)) (u12 : x.tmps.getD 12 undef = .pointer (some ⟨b12, 0, none⟩))
    (p8 : gpbL_val gP gX N cP np cX sb m b12 i k q q0 8 (x.tmps.getD 106 undef) w)
    : wpOpIn Fc nC Try.prog gpb_ops Q 9 (fun a' w' => ∃ v, a' = x.put (some 107) v ∧ (v = .pointer (some ⟨b12, 1, none⟩)) ∧ Below w.heap.size w w') x w := by
  have ho : gpb_ops[9]? = some gpb_o9 := rfl
  simp only [Array.getD_eq_getD_getElem?] at u7 u9 u10 u11 u12
  have q8 : x.tmps.getD 106 undef = .bool false := p8
  simp only [Array.getD_eq_getD_getElem?] at q8
  have e8 : (gpb_ops[8]?.bind fun x => x.dst) = some 106 := rfl
  have g8 := get_someT q8 (fun h => by cases h)
  refine wpOpIn_stepT hF ho (fun K hK => ?_)
  clear ho
  rw [Oper.semAt_plain Fc _ _ (by intro c h; cases h)]
  simp only [gpb_o9]
  go_simp
  exact hK _ _ ⟨_, act_putD x hdef _ _, rfl, Below.refl _ _⟩
set_option maxRecDepth 100000 in
set_option maxHeartbeats 2000000 in
theorem gpbL_s10 {Fc : Fence} (hF : Wide Fc) {nC : Nat} (gP gX N cP np cX sb m b12 i k q q0 : Nat) (Q : Exit → Act → World → Prop) (df : List Deferred) (w0 : World)
    (hq : q < m) (hm : m ≤ 4000) (h0 : w0.cell? ⟨b12, 0, none⟩ = some (.int .i64 0)) (h1 : w0.cell? ⟨b12, 1, none⟩ = some (.int .i64 (q : Nat))) (h2 : w0.cell? ⟨sb, q, none⟩ = some (.bool false)) (hi : i < N) (hN : N ≤ 4000) (hk : k + 1 < np) (hnp : np ≤ 4000) (h3 : w0.cell? ⟨gP, i * 2 + 1, none⟩ = some (.slice (some ⟨gX, 0, none⟩) np cX)) (h4 : w0.cell? ⟨gX, k * 2 + 1, none⟩ = some (.int .i64 (q0 : Nat))) (hq0 : q0 < q)
    (x : Act) (w : World) (hB : Below w0.heap.size w0 w) (hdef : x.defers = df) (u7 : x.tmps.getD 7 undef = .slice (some ⟨gP, 0, none⟩) N cP) (u9 : x.tmps.getD 9 undef = .slice (some ⟨sb, 0, none⟩) m m) (u10 : x.tmps.getD 10 undef = .int .i64 (i : Nat)) (u11 : x.tmps.getD 11 undef = .int .i64 ((k : Int) + 1)) (u12 : x.tmps.getD 12 undef = .pointer (some ⟨b12, 0, none⟩))
    (p9 : gpbL_val gP gX N cP np cX sb m b12 i k q q0 9 (x.tmps.getD 107 undef) w)
    (p8 : gpbL_val gP gX N cP np cX sb m b12 i k q q0 8 (x.tmps.getD 106 undef) w)
    : wpOpIn Fc nC Try.prog gpb_ops Q 10 (fun a' w' => ∃ v, a' = x.put (some 108) v ∧ (v = .int .i64 (q : Nat)) ∧ Below w.heap.size w w') x w := by
  have ho : gpb_ops[10]? = some gpb_o10 := rfl
  simp only [Array.getD_eq_getD_getElem?] at u7 u9 u10 u11 u12
  have q9 : x.tmps.getD 107 undef = .pointer (some ⟨b12, 1, none⟩) := p9
  have q8 : x.tmps.getD 106 undef = .bool false := p8
  simp only [Array.getD_eq_getD_getElem?] at q9 q8
  have e8 : (gpb_ops[8]?.bind fun x => x.dst) = some 106 := rfl
  have g8 := get_someT q8 (fun h => by cases h)
  have u := cell_thru h1 hB
  refine wpOpIn_stepT hF ho (fun K hK => ?_)
  clear ho
  rw [Oper.semAt_plain Fc _ _ (by intro c h; cases h)]
  simp only [gpb_o10]
  go_simp
  exact hK _ _ ⟨_, act_putD x hdef _ _, rfl, Below.refl _ _⟩
set_option maxRecDepth 100000 in
set_option maxHeartbeats 2000000 in
theorem gpbL_s11 {Fc : Fence} (hF : Wide Fc) {nC : Nat} (gP gX N cP np cX sb m b12 i k q q0 : Nat) (Q : Exit → Act → World → Prop) (df : List Deferred) (w0 : World)
    (hq : q < m) (hm : m ≤ 4000) (h0 : w0.cell? ⟨b12, 0, none⟩ = some (.int .i64 0)) (h1 : w0.cell? ⟨b12, 1, none⟩ = some (.int .i64 (q : Nat))) (h2 : w0.cell? ⟨sb, q, none⟩ = some (.bool false)) (hi : i < N) (hN : N ≤ 4000) (hk : k + 1 < np) (hnp : np ≤ 4000) (h3 : w0.cell? ⟨gP, i * 2 + 1, none⟩ = some (.slice (some ⟨gX, 0, none⟩) np cX)) (h4 : w0.cell? ⟨gX, k * 2 + 1, none⟩ = some (.int .i64 (q0 : Nat))) (hq0 : q0 < q)
    (x : Act) (w : World) (hB : Below w0.heap.size w0 w) (hdef : x.defers = df) (u7 : x.tmps.getD 7 undef = .slice (some ⟨gP, 0, none⟩) N cP) (u9 : x.tmps.getD 9 undef = .slice (some ⟨sb, 0, none⟩) m m) (u10 : x.tmps.getD 10 undef = .int .i64 (i : Nat)) (u11 : x.tmps.getD 11 undef = .int .i64 ((k : Int) + 1)) (u12 : x.tmps.getD 12 undef = .pointer (some ⟨b12, 0, none⟩))
    (p8 : gpbL_val gP gX N cP np cX sb m b12 i k q q0 8 (x.tmps.getD 106 undef) w)
    : wpOpIn Fc nC Try.prog gpb_ops Q 11 (fun a' w' => ∃ v, a' = x.put (some 109) v ∧ (v = .slice (some ⟨sb, 0, none⟩) m m) ∧ Below w.heap.size w w') x w := by
  have ho : gpb_ops[11]? = some gpb_o11 := rfl
  simp only [Array.getD_eq_getD_getElem?] at u7 u9 u10 u11 u12
  have q8 : x.tmps.getD 106 undef = .bool false := p8
  simp only [Array.getD_eq_getD_getElem?] at q8
  have e8 : (gpb_ops[8]?.bind fun x => x.dst) = some 106 := rfl
  have g8 := get_someT q8 (fun h => by cases h)
  refine wpOpIn_stepT hF ho (fun K hK => ?_)
  clear ho
  rw [Oper.semAt_plain Fc _ _ (by intro c h; cases h)]
  simp only [gpb_o11]
  go_simp
  exact hK _ _ ⟨_, act_putD x hdef _ _, rfl, Below.refl _ _⟩
set_option maxRecDepth 100000 in
set_option maxHeartbeats 2000000 in
theorem gpbL_s12 {Fc : Fence} (hF : Wide Fc) {nC : Nat} (gP gX N cP np cX sb m b12 i k q q0 : Nat) (Q : Exit → Act → World → Prop) (df : List Deferred) (w0 : World)
    (hq : q < m) (hm : m ≤ 4000) (h0 : w0.cell? ⟨b12, 0, none⟩ = some (.int .i64 0)) (h1 : w0.cell? ⟨b12, 1, none⟩ = some (.int .i64 (q : Nat))) (h2 : w0.cell? ⟨sb, q, none⟩ = some (.bool false)) (hi : i < N) (hN : N ≤ 4000) (hk : k + 1 < np) (hnp : np ≤ 4000) (h3 : w0.cell? ⟨gP, i * 2 + 1, none⟩ = some (.slice (some ⟨gX, 0, none⟩) np cX)) (h4 : w0.cell? ⟨gX, k * 2 + 1, none⟩ = some (.int .i64 (q0 : Nat))) (hq0 : q0 < q)
    (x : Act) (w : World) (hB : Below w0.heap.size w0 w) (hdef : x.defers = df) (u7 : x.tmps.getD 7 undef = .slice (some ⟨gP, 0, none⟩) N cP) (u9 : x.tmps.getD 9 undef = .slice (some ⟨sb, 0, none⟩) m m) (u10 : x.tmps.getD 10 undef = .int .i64 (i : Nat)) (u11 : x.tmps.getD 11 undef = .int .i64 ((k : Int) + 1)) (u12 : x.tmps.getD 12 undef = .pointer (some ⟨b12, 0, none⟩))
    (p11 : gpbL_val gP gX N cP np cX sb m b12 i k q q0 11 (x.tmps.getD 109 undef) w)
    (p8 : gpbL_val gP gX N cP np cX sb m b12 i k q q0 8 (x.tmps.getD 106 undef) w)
    : wpOpIn Fc nC Try.prog gpb_ops Q 12 (fun a' w' => ∃ v, a' = x.put (some 110) v ∧ (v = .int .i64 (m : Nat)) ∧ Below w.heap.size w w') x w := by
  have ho : gpb_ops[12]? = some gpb_o12 := rfl
  simp only [Array.getD_eq_getD_getElem?] at u7 u9 u10 u11 u12
  have q11 : x.tmps.getD 109 undef = .slice (some ⟨sb, 0, none⟩) m m := p11
  have q8 : x.tmps.getD 106 undef = .bool false := p8
  simp only [Array.getD_eq_getD_getElem?] at q11 q8
  have e8 : (gpb_ops[8]?.bind fun x => x.dst) = some 106 := rfl
  have g8 := get_someT q8 (fun h => by cases h)
  refine wpOpIn_stepT hF ho (fun K hK => ?_)
  clear ho
  rw [Oper.semAt_plain Fc _ _ (by intro c h; cases h)]
  simp only [gpb_o12]
  go_simp
  exact hK _ _ ⟨_, act_putD x hdef _ _, rfl, Below.refl _ _⟩
set_option maxRecDepth 100000 in
set_option maxHeartbeats 2000000 in
theorem gpbL_s13 {Fc : Fence} (hF : Wide Fc) {nC : Nat} (gP gX N cP np cX sb m b12 i k q q0 : Nat) (Q : Exit → Act → World → Prop) (df : List Deferred) (w0 : World)
    (hq : q < m) (hm : m ≤ 4000) (h0 : w0.cell? ⟨b12, 0, none⟩ = some (.int .i64 0)) (h1 : w0.cell? ⟨b12, 1, none⟩ = some (.int .i64 (q : Nat))) (h2 : w0.cell? ⟨sb, q, none⟩ = some (.bool false)) (hi : i < N) (hN : N ≤ 4000) (hk : k + 1 < np) (hnp : np ≤ 4000) (h3 : w0.cell? ⟨gP, i * 2 + 1, none⟩ = some (.slice (some ⟨gX, 0, none⟩) np cX)) (h4 : w0.cell? ⟨gX, k * 2 + 1, none⟩ = some (.int .i64 (q0 : Nat))) (hq0 : q0 < q)
    (x : Act) (w : World) (hB : Below w0.heap.size w0 w) (hdef : x.defers = df) (u7 : x.tmps.getD 7 undef = .slice (some ⟨gP, 0, none⟩) N cP) (u9 : x.tmps.getD 9 undef = .slice (some ⟨sb, 0, none⟩) m m) (u10 : x.tmps.getD 10 undef = .int .i64 (i : Nat)) (u11 : x.tmps.getD 11 undef = .int .i64 ((k : Int) + 1)) (u12 : x.tmps.getD 12 undef = .pointer (some ⟨b12, 0, none⟩))
    (p10 : gpbL_val gP gX N cP np cX sb m b12 i k q q0 10 (x.tmps.getD 108 undef) w)
    (p12 : gpbL_val gP gX N cP np cX sb m b12 i k q q0 12 (x.tmps.getD 110 undef) w)
    (p8 : gpbL_val gP gX N cP np cX sb m b12 i k q q0 8 (x.tmps.getD 106 undef) w)
    : wpOpIn Fc nC Try.prog gpb_ops Q 13 (fun a' w' => ∃ v, a' = x.put (some 111) v ∧ (v = .bool false) ∧ Below w.heap.size w w') x w := by
  have ho : gpb_ops[13]? = some gpb_o13 := rfl
  simp only [Array.getD_eq_getD_getElem?] at u7 u9 u10 u11 u12
  have q10 : x.tmps.getD 108 undef = .int .i64 (q : Nat) := p10
  have q12 : x.tmps.getD 110 undef = .int .i64 (m : Nat) := p12
  have q8 : x.tmps.getD 106 undef = .bool false := p8
  simp only [Array.getD_eq_getD_getElem?] at q10 q12 q8
  have e8 : (gpb_ops[8]?.bind fun x => x.dst) = some 106 := rfl
  have g8 := get_someT q8 (fun h => by cases h)
  have u : ¬ ((m : Int) ≤ (q : Int)) := by omega
  refine wpOpIn_stepT hF ho (fun K hK => ?_)
  clear ho
  rw [Oper.semAt_plain Fc _ _ (by intro c h; cases h)]
  simp only [gpb_o13]
  go_simp
  exact hK _ _ ⟨_, act_putD x hdef _ _, rfl, Below.refl _ _⟩
set_option maxRecDepth 100000 in
set_option maxHeartbeats 2000000 in
theorem gpbL_s14 {Fc : Fence} (hF : Wide Fc) {nC : Nat} (gP gX N cP np cX sb m b12 i k q q0 : Nat) (Q : Exit → Act → World → Prop) (df : List Deferred) (w0 : World)
    (hq : q < m) (hm : m ≤ 4000) (h0 : w0.cell? ⟨b12, 0, none⟩ = some (.int .i64 0)) (h1 : w0.cell? ⟨b12, 1, none⟩ = some (.int .i64 (q : Nat))) (h2 : w0.cell? ⟨sb, q, none⟩ = some (.bool false)) (hi : i < N) (hN : N ≤ 4000) (hk : k + 1 < np) (hnp : np ≤ 4000) (h3 : w0.cell? ⟨gP, i * 2 + 1, none⟩ = some (.slice (some ⟨gX, 0, none⟩) np cX)) (h4 : w0.cell? ⟨gX, k * 2 + 1, none⟩ = some (.int .i64 (q0 : Nat))) (hq0 : q0 < q)
    (x : Act) (w : World) (hB : Below w0.heap.size w0 w) (hdef : x.defers = df) (u7 : x.tmps.getD 7 undef = .slice (some ⟨gP, 0, none⟩) N cP) (u9 : x.tmps.getD 9 undef = .slice (some ⟨sb, 0, none⟩) m m) (u10 : x.tmps.getD 10 undef = .int .i64 (i : Nat)) (u11 : x.tmps.getD 11 undef = .int .i64 ((k : Int) + 1)) (u12 : x.tmps.getD 12 undef = .pointer (some ⟨b12, 0, none⟩))
    (p8 : gpbL_val gP gX N cP np cX sb m b12 i k q q0 8 (x.tmps.getD 106 undef) w)
    (p13 : gpbL_val gP gX N cP np cX sb m b12 i k q q0 13 (x.tmps.getD 111 undef) w)
    : wpOpIn Fc nC Try.prog gpb_ops Q 14 (fun a' w' => ∃ v, a' = x.put (some 112) v ∧ (v = .bool false) ∧ Below w.heap.size w w') x w := by
  have ho : gpb_ops[14]? = some gpb_o14 := rfl
  simp only [Array.getD_eq_getD_getElem?] at u7 u9 u10 u11 u12
  have q8 : x.tmps.getD 106 undef = .bool false := p8
  have q13 : x.tmps.getD 111 undef = .bool false := p13
  simp only [Array.getD_eq_getD_getElem?] at q8 q13
  refine wpOpIn_plain ho rfl (oper_inK hF.fn (fun K hK => ?_))
  clear ho
  rw [Oper.semAt_plain Fc _ _ (by intro c h; cases h)]
  simp only [gpb_o14]
  go_simp
  exact hK _ _ ⟨_, act_putD x hdef _ _, rfl, Below.refl _ _⟩
set_option maxRecDepth 100000 in
set_option maxHeartbeats 2000000 in
theorem gpbL_s15 {Fc : Fence} (hF : Wide Fc) {nC : Nat} (gP gX N cP np cX sb m b12 i k q q0 : Nat) (Q : Exit → Act → World → Prop) (df : List Deferred) (w0 : World)
    (hq : q < m) (hm : m ≤ 4000) (h0 : w0.cell? ⟨b12, 0, none⟩ = some (.int .i64 0)) (h1 : w0.cell? ⟨b12, 1, none⟩ = some (.int .i64 (q : Nat))) (h2 : w0.cell? ⟨sb, q, none⟩ = some (.bool false)) (hi : i < N) (hN : N ≤ 4000) (hk : k + 1 < np) (hnp : np ≤ 4000) (h3 : w0.cell? ⟨gP, i * 2 + 1, none⟩ = some (.slice (some ⟨gX, 0, none⟩) np cX)) (h4 : w0.cell? ⟨gX, k * 2 + 1, none⟩ = some (.int .i64 (q0 : Nat))) (hq0 : q0 < q)
    (x : Act) (w : World) (hB : Below w0.heap.size w0 w) (hdef : x.defers = df) (u7 : x.tmps.getD 7 undef = .slice (some ⟨gP, 0, none⟩) N cP) (u9 : x.tmps.getD 9 undef = .slice (some ⟨sb, 0, none⟩) m m) (u10 : x.tmps.getD 10 undef = .int .i64 (i : Nat)) (u11 : x.tmps.getD 11 undef = .int .i64 ((k : Int) + 1)) (u12 : x.tmps.getD 12 undef = .pointer (some ⟨b12, 0, none⟩))
    (p14 : gpbL_val gP gX N cP np cX sb m b12 i k q q0 14 (x.tmps.getD 112 undef) w)
    : wpOpIn Fc nC Try.prog gpb_ops Q 15 (fun a' w' => ∃ v, a' = x.put (some 113) v ∧ (v = .bool false) ∧ Below w.heap.size w w') x w := by
  have ho : gpb_ops[15]? = some gpb_o15 := rfl
  simp only [Array.getD_eq_getD_getElem?] at u7 u9 u10 u11 u12
  have q14 : x.tmps.getD 112 undef = .bool false := p14
  simp only [Array.getD_eq_getD_getElem?] at q14
  refine wpOpIn_plain ho rfl (oper_inK hF.fn (fun K hK => ?_))
  clear ho
  rw [Oper.semAt_plain Fc _ _ (by intro c h; cases h)]
  simp only [gpb_o15]
  go_simp
  exact hK _ _ ⟨_, act_putD x hdef _ _, rfl, Below.refl _ _⟩
set_option maxRecDepth 100000 in
set_option maxHeartbeats 2000000 in
theorem gpbL_s16 {Fc : Fence} (hF : Wide Fc) {nC : Nat} (gP gX N cP np cX sb m b12 i k q q0 : Nat) (Q : Exit → Act → World → Prop) (df : List Deferred) (w0 : World)
    (hq : q < m) (hm : m ≤ 4000) (h0 : w0.cell? ⟨b12, 0, none⟩ = some (.int .i64 0)) (h1 : w0.cell? ⟨b12, 1, none⟩ = some (.int .i64 (q : Nat))) (h2 : w0.cell? ⟨sb, q, none⟩ = some (.bool false)) (hi : i < N) (hN : N ≤ 4000) (hk : k + 1 < np) (hnp : np ≤ 4000) (h3 : w0.cell? ⟨gP, i * 2 + 1, none⟩ = some (.slice (some ⟨gX, 0, none⟩) np cX)) (h4 : w0.cell? ⟨gX, k * 2 + 1, none⟩ = some (.int .i64 (q0 : Nat))) (hq0 : q0 < q)
    (x : Act) (w : World) (hB : Below w0.heap.size w0 w) (hdef : x.defers = df) (u7 : x.tmps.getD 7 undef = .slice (some ⟨gP, 0, none⟩) N cP) (u9 : x.tmps.getD 9 undef = .slice (some ⟨sb, 0, none⟩) m m) (u10 : x.tmps.getD 10 undef = .int .i64 (i : Nat)) (u11 : x.tmps.getD 11 undef = .int .i64 ((k : Int) + 1)) (u12 : x.tmps.getD 12 undef = .pointer (some ⟨b12, 0, none⟩))
    (p15 : gpbL_val gP gX N cP np cX sb m b12 i k q q0 15 (x.tmps.getD 113 undef) w)
    : wpOpIn Fc nC Try.prog gpb_ops Q 16 (fun a' w' => ∃ v, a' = x.put (some 114) v ∧ (v = .slice (some ⟨sb, 0, none⟩) m m) ∧ Below w.heap.size w w') x w := by
  have ho : gpb_ops[16]? = some gpb_o16 := rfl
  simp only [Array.getD_eq_getD_getElem?] at u7 u9 u10 u11 u12
  have q15 : x.tmps.getD 113 undef = .bool false := p15
  simp only [Array.getD_eq_getD_getElem?] at q15
  have e15 : (gpb_ops[15]?.bind fun x => x.dst) = some 113 := rfl
  have g15 := get_someT q15 (fun h => by cases h)
  refine wpOpIn_stepT hF ho (fun K hK => ?_)
  clear ho
  rw [Oper.semAt_plain Fc _ _ (by intro c h; cases h)]
  simp only [gpb_o16]
  go_simp
  exact hK _ _ ⟨_, act_putD x hdef _ _, rfl, Below.refl _ _⟩
set_option maxRecDepth 100000 in
set_option maxHeartbeats 2000000 in
theorem gpbL_s17 {Fc : Fence} (hF : Wide Fc) {nC : Nat} (gP gX N cP np cX sb m b12 i k q q0 : Nat) (Q : Exit → Act → World → Prop) (df : List Deferred) (w0 : World)
    (hq : q < m) (hm : m ≤ 4000) (h0 : w0.cell? ⟨b12, 0, none⟩ = some (.int .i64 0)) (h1 : w0.cell? ⟨b12, 1, none⟩ = some (.int .i64 (q : Nat))) (h2 : w0.cell? ⟨sb, q, none⟩ = some (.bool false)) (hi : i < N) (hN : N ≤ 4000) (hk : k + 1 < np) (hnp : np ≤ 4000) (h3 : w0.cell? ⟨gP, i * 2 + 1, none⟩ = some (.slice (some ⟨gX, 0, none⟩) np cX)) (h4 : w0.cell? ⟨gX, k * 2 + 1, none⟩ = some (.int .i64 (q0 : Nat))) (hq0 : q0 < q)
    (x : Act) (w : World) (hB : Below w0.heap.size w0 w) (hdef : x.defers = df) (u7 : x.tmps.getD 7 undef = .slice (some ⟨gP, 0, none⟩) N cP) (u9 : x.tmps.getD 9 undef = .slice (some ⟨sb, 0, none⟩) m m) (u10 : x.tmps.getD 10 undef = .int .i64 (i : Nat)) (u11 : x.tmps.getD 11 undef = .int .i64 ((k : Int) + 1)) (u12 : x.tmps.getD 12 undef = .pointer (some ⟨b12, 0, none⟩))
    (p15 : gpbL_val gP gX N cP np cX sb m b12 i k q q0 15 (x.tmps.getD 113 undef) w)
    : wpOpIn Fc nC Try.prog gpb_ops Q 17 (fun a' w' => ∃ v, a' = x.put (some 115) v ∧ (v = .pointer (some ⟨b12, 1, none⟩)) ∧ Below w.heap.size w w') x w := by
  have ho : gpb_ops[17]? = some gpb_o17 := rfl
  simp only [Array.getD_eq_getD_getElem?] at u7 u9 u10 u11 u12
  have q15 : x.tmps.getD 113 undef = .bool false := p15
  simp only [Array.getD_eq_getD_getElem?] at q15
  have e15 : (gpb_ops[15]?.bind fun x => x.dst) = some 113 := rfl
  have g15 := get_someT q15 (fun h => by cases h)
  refine wpOpIn_stepT hF ho (fun K hK => ?_)
  clear ho
  rw [Oper.semAt_plain Fc _ _ (by intro c h; cases h)]
  simp only [gpb_o17]
  go_simp
  exact hK _ _ ⟨_, act_putD x hdef _ _, rfl, Below.refl _ _⟩
set_option maxRecDepth 100000 in
set_option maxHeartbeats 2000000 in
theorem gpbL_s18 {Fc : Fence} (hF : Wide Fc) {nC : Nat} (gP gX N cP np cX sb m b12 i k q q0 : Nat) (Q : Exit → Act → World → Prop) (df : List Deferred) (w0 : World)
    (hq : q < m) (hm : m ≤ 4000) (h0 : w0.cell? ⟨b12, 0, none⟩ = some (.int .i64 0)) (h1 : w0.cell? ⟨b12, 1, none⟩ = some (.int .i64 (q : Nat))) (h2 : w0.cell? ⟨sb, q, none⟩ = some (.bool false)) (hi : i < N) (hN : N ≤ 4000) (hk : k + 1 < np) (hnp : np ≤ 4000) (h3 : w0.cell? ⟨gP, i * 2 + 1, none⟩ = some (.slice (some ⟨gX, 0, none⟩) np cX)) (h4 : w0.cell? ⟨gX, k * 2 + 1, none⟩ = some (.int .i64 (q0 : Nat))) (hq0 : q0 < q)
    (x : Act) (w : World) (hB : Below w0.heap.size w0 w) (hdef : x.defers = df) (u7 : x.tmps.getD 7 undef = .slice (some ⟨gP, 0, none⟩) N cP) (u9 : x.tmps.getD 9 undef = .slice (some ⟨sb, 0, none⟩) m m) (u10 : x.tmps.getD 10 undef = .int .i64 (i : Nat)) (u11 : x.tmps.getD 11 undef = .int .i64 ((k : Int) + 1)) (u12 : x.tmps.getD 12 undef = .pointer (some ⟨b12, 0, none⟩))
    (p17 : gpbL_val gP gX N cP np cX sb m b12 i k q q0 17 (x.tmps.getD 115 undef) w)
    (p15 : gpbL_val gP gX N cP np cX sb m b12 i k q q0 15 (x.tmps.getD 113 undef) w)
    : wpOpIn Fc nC Try.prog gpb_ops Q 18 (fun a' w' => ∃ v, a' = x.put (some 116) v ∧ (v = .int .i64 (q : Nat)) ∧ Below w.heap.size w w') x w := by
  have ho : gpb_ops[18]? = some gpb_o18 := rfl
  simp only [Array.getD_eq_getD_getElem?] at u7 u9 u10 u11 u12
  have q17 : x.tmps.getD 115 undef = .pointer (some ⟨b12, 1, none⟩) := p17
  have q15 : x.tmps.getD 113 undef = .bool false := p15
  simp only [Array.getD_eq_getD_getElem?] at q17 q15
  have e15 : (gpb_ops[15]?.bind fun x => x.dst) = some 113 := rfl
  have g15 := get_someT q15 (fun h => by cases h)
  have u := cell_thru h1 hB
  refine wpOpIn_stepT hF ho (fun K hK => ?_)
  clear ho
  rw [Oper.semAt_plain Fc _ _ (by intro c h; cases h)]
  simp only [gpb_o18]
  go_simp
  exact hK _ _ ⟨_, act_putD x hdef _ _, rfl, Below.refl _ _⟩
set_option maxRecDepth 100000 in
set_option maxHeartbeats 2000000 in
theorem gpbL_s19 {Fc : Fence} (hF : Wide Fc) {nC : Nat} (gP gX N cP np cX sb m b12 i k q q0 : Nat) (Q : Exit → Act → World → Prop) (df : List Deferred) (w0 : World)
    (hq : q < m) (hm : m ≤ 4000) (h0 : w0.cell? ⟨b12, 0, none⟩ = some (.int .i64 0)) (h1 : w0.cell? ⟨b12, 1, none⟩ = some (.int .i64 (q : Nat))) (h2 : w0.cell? ⟨sb, q, none⟩ = some (.bool false)) (hi : i < N) (hN : N ≤ 4000) (hk : k + 1 < np) (hnp : np ≤ 4000) (h3 : w0.cell? ⟨gP, i * 2 + 1, none⟩ = some (.slice (some ⟨gX, 0, none⟩) np cX)) (h4 : w0.cell? ⟨gX, k * 2 + 1, none⟩ = some (.int .i64 (q0 : Nat))) (hq0 : q0 < q)
    (x : Act) (w : World) (hB : Below w0.heap.size w0 w) (hdef : x.defers = df) (u7 : x.tmps.getD 7 undef = .slice (some ⟨gP, 0, none⟩) N cP) (u9 : x.tmps.getD 9 undef = .slice (some ⟨sb, 0, none⟩) m m) (u10 : x.tmps.getD 10 undef = .int .i64 (i : Nat)) (u11 : x.tmps.getD 11 undef = .int .i64 ((k : Int) + 1)) (u12 : x.tmps.getD 12 undef = .pointer (some ⟨b12, 0, none⟩))
    (p16 : gpbL_val gP gX N cP np cX sb m b12 i k q q0 16 (x.tmps.getD 114 undef) w)
    (p18 : gpbL_val gP gX N cP np cX sb m b12 i k q q0 18 (x.tmps.getD 116 undef) w)
    (p15 : gpbL_val gP gX N cP np cX sb m b12 i k q q0 15 (x.tmps.getD 113 undef) w)
    : wpOpIn Fc nC Try.prog gpb_ops Q 19 (fun a' w' => ∃ v, a' = x.put (some 117) v ∧ (v = .pointer (some ⟨sb, q, none⟩)) ∧ Below w.heap.size w w') x w := by
  have ho : gpb_ops[19]? = some gpb_o19 := rfl
  simp only [Array.getD_eq_getD_getElem?] at u7 u9 u10 u11 u12
  have q16 : x.tmps.getD 114 undef = .slice (some ⟨sb, 0, none⟩) m m := p16
  have q18 : x.tmps.getD 116 undef = .int .i64 (q : Nat) := p18
  have q15 : x.tmps.getD 113 undef = .bool false := p15
  simp only [Array.getD_eq_getD_getElem?] at q16 q18 q15
  have e15 : (gpb_ops[15]?.bind fun x => x.dst) = some 113 := rfl
  have g15 := get_someT q15 (fun h => by cases h)
  have i0 : (0 : Int) ≤ (q : Int) := by omega
  have i1 : (q : Int) < (m : Int) := by omega
  refine wpOpIn_stepT hF ho (fun K hK => ?_)
  clear ho
  rw [Oper.semAt_plain Fc _ _ (by intro c h; cases h)]
  simp only [gpb_o19]
  go_simp
  exact hK _ _ ⟨_, act_putD x hdef _ _, rfl, Below.refl _ _⟩
set_option maxRecDepth 100000 in
set_option maxHeartbeats 2000000 in
theorem gpbL_s20 {Fc : Fence} (hF : Wide Fc) {nC : Nat} (gP gX N cP np cX sb m b12 i k q q0 : Nat) (Q : Exit → Act → World → Prop) (df : List Deferred) (w0 : World)
    (hq : q < m) (hm : m ≤ 4000) (h0 : w0.cell? ⟨b12, 0, none⟩ = some (.int .i64 0)) (h1 : w0.cell? ⟨b12, 1, none⟩ = some (.int .i64 (q : Nat))) (h2 : w0.cell? ⟨sb, q, none⟩ = some (.bool false)) (hi : i < N) (hN : N ≤ 4000) (hk : k + 1 < np) (hnp : np ≤ 4000) (h3 : w0.cell? ⟨gP, i * 2 + 1, none⟩ = some (.slice (some ⟨gX, 0, none⟩) np cX)) (h4 : w0.cell? ⟨gX, k * 2 + 1, none⟩ = some (.int .i64 (q0 : Nat))) (hq0 : q0 < q)
    (x : Act) (w : World) (hB : Below w0.heap.size w0 w) (hdef : x.defers = df) (u7 : x.tmps.getD 7 undef = .slice (some ⟨gP, 0, none⟩) N cP) (u9 : x.tmps.getD 9 undef = .slice (some ⟨sb, 0, none⟩) m m) (u10 : x.tmps.getD 10 undef = .int .i64 (i : Nat)) (u11 : x.tmps.getD 11 undef = .int .i64 ((k : Int) + 1)) (u12 : x.tmps.getD 12 undef = .pointer (some ⟨b12, 0, none⟩))
    (p19 : gpbL_val gP gX N cP np cX sb m b12 i k q q0 19 (x.tmps.getD 117 undef) w)
    (p15 : gpbL_val gP gX N cP np cX sb m b12 i k q q0 15 (x.tmps.getD 113 undef) w)
    : wpOpIn Fc nC Try.prog gpb_ops Q 20 (fun a' w' => ∃ v, a' = x.put (some 118) v ∧ (v = .bool false) ∧ Below w.heap.size w w') x w := by
  have ho : gpb_ops[20]? = some gpb_o20 := rfl
  simp only [Array.getD_eq_getD_getElem?] at u7 u9 u10 u11 u12
  have q19 : x.tmps.getD 117 undef = .pointer (some ⟨sb, q, none⟩) := p19
  have q15 : x.tmps.getD 113 undef = .bool false := p15
  simp only [Array.getD_eq_getD_getElem?] at q19 q15
  have e15 : (gpb_ops[15]?.bind fun x => x.dst) = some 113 := rfl
  have g15 := get_someT q15 (fun h => by cases h)
  have u := cell_thru h2 hB
  refine wpOpIn_stepT hF ho (fun K hK => ?_)
  clear ho
  rw [Oper.semAt_plain Fc _ _ (by intro c h; cases h)]
  simp only [gpb_o20]
  go_simp
  exact hK _ _ ⟨_, act_putD x hdef _ _, rfl, Below.refl _ _⟩
set_option maxRecDepth 100000 in
set_option maxHeartbeats 2000000 in
theorem gpbL_s21 {Fc : Fence} (hF : Wide Fc) {nC : Nat} (gP gX N cP np cX sb m b12 i k q q0 : Nat) (Q : Exit → Act → World → Prop) (df : List Deferred) (w0 : World)
    (hq : q < m) (hm : m ≤ 4000) (h0 : w0.cell? ⟨b12, 0, none⟩ = some (.int .i64 0)) (h1 : w0.cell? ⟨b12, 1, none⟩ = some (.int .i64 (q : Nat))) (h2 : w0.cell? ⟨sb, q, none⟩ = some (.bool false)) (hi : i < N) (hN : N ≤ 4000) (hk : k + 1 < np) (hnp : np ≤ 4000) (h3 : w0.cell? ⟨gP, i * 2 + 1, none⟩ = some (.slice (some ⟨gX, 0, none⟩) np cX)) (h4 : w0.cell? ⟨gX, k * 2 + 1, none⟩ = some (.int .i64 (q0 : Nat))) (hq0 : q0 < q)
    (x : Act) (w : World) (hB : Below w0.heap.size w0 w) (hdef : x.defers = df) (u7 : x.tmps.getD 7 undef = .slice (some ⟨gP, 0, none⟩) N cP) (u9 : x.tmps.getD 9 undef = .slice (some ⟨sb, 0, none⟩) m m) (u10 : x.tmps.getD 10 undef = .int .i64 (i : Nat)) (u11 : x.tmps.getD 11 undef = .int .i64 ((k : Int) + 1)) (u12 : x.tmps.getD 12 undef = .pointer (some ⟨b12, 0, none⟩))
    (p15 : gpbL_val gP gX N cP np cX sb m b12 i k q q0 15 (x.tmps.getD 113 undef) w)
    (p20 : gpbL_val gP gX N cP np cX sb m b12 i k q q0 20 (x.tmps.getD 118 undef) w)
    : wpOpIn Fc nC Try.prog gpb_ops Q 21 (fun a' w' => ∃ v, a' = x.put (some 119) v ∧ (v = .bool false) ∧ Below w.heap.size w w') x w := by
  have ho : gpb_ops[21]? = some gpb_o21 := rfl
  simp only [Array.getD_eq_getD_getElem?] at u7 u9 u10 u11 u12
  have q15 : x.tmps.getD 113 undef = .bool false := p15
  have q20 : x.tmps.getD 118 undef = .bool false := p20
  simp only [Array.getD_eq_getD_getElem?] at q15 q20
  refine wpOpIn_plain ho rfl (oper_inK hF.fn (fun K hK => ?_))
  clear ho
  rw [Oper.semAt_plain Fc _ _ (by intro c h; cases h)]
  simp only [gpb_o21]
  go_simp
  exact hK _ _ ⟨_, act_putD x hdef _ _, rfl, Below.refl _ _⟩
set_option maxRecDepth 100000 in
set_option maxHeartbeats 2000000 in
theorem gpbL_s22 {Fc : Fence} (hF : Wide Fc) {nC : Nat} (gP gX N cP np cX sb m b12 i k q q0 : Nat) (Q : Exit → Act → World → Prop) (df : List Deferred) (w0 : World)
    (hq : q < m) (hm : m ≤ 4000) (h0 : w0.cell? ⟨b12, 0, none⟩ = some (.int .i64 0)) (h1 : w0.cell? ⟨b12, 1, none⟩ = some (.int .i64 (q : Nat))) (h2 : w0.cell? ⟨sb, q, none⟩ = some (.bool false)) (hi : i < N) (hN : N ≤ 4000) (hk : k + 1 < np) (hnp : np ≤ 4000) (h3 : w0.cell? ⟨gP, i * 2 + 1, none⟩ = some (.slice (some ⟨gX, 0, none⟩) np cX)) (h4 : w0.cell? ⟨gX, k * 2 + 1, none⟩ = some (.int .i64 (q0 : Nat))) (hq0 : q0 < q)
    (x : Act) (w : World) (hB : Below w0.heap.size w0 w) (hdef : x.defers = df) (u7 : x.tmps.getD 7 undef = .slice (some ⟨gP, 0, none⟩) N cP) (u9 : x.tmps.getD 9 undef = .slice (some ⟨sb, 0, none⟩) m m) (u10 : x.tmps.getD 10 undef = .int .i64 (i : Nat)) (u11 : x.tmps.getD 11 undef = .int .i64 ((k : Int) + 1)) (u12 : x.tmps.getD 12 undef = .pointer (some ⟨b12, 0, none⟩))
    (p21 : gpbL_val gP gX N cP np cX sb m b12 i k q q0 21 (x.tmps.getD 119 undef) w)
    : wpOpIn Fc nC Try.prog gpb_ops Q 22 (fun a' w' => ∃ v, a' = x.put (some 120) v ∧ (v = .bool false) ∧ Below w.heap.size w w') x w := by
  have ho : gpb_ops[22]? = some gpb_o22 := rfl
  simp only [Array.getD_eq_getD_getElem?] at u7 u9 u10 u11 u12
  have q21 : x.tmps.getD 119 undef = .bool false := p21
  simp only [Array.getD_eq_getD_getElem?] at q21
  refine wpOpIn_plain ho rfl (oper_inK hF.fn (fun K hK => ?_))
  clear ho
  rw [Oper.semAt_plain Fc _ _ (by intro c h; cases h)]
  simp only [gpb_o22]
  go_simp
  exact hK _ _ ⟨_, act_putD x hdef _ _, rfl, Below.refl _ _⟩
set_option maxRecDepth 100000 in
set_option maxHeartbeats 2000000 in
theorem gpbL_s23 {Fc : Fence} (hF : Wide Fc) {nC : Nat} (gP gX N cP np cX sb m b12 i k q q0 : Nat) (Q : Exit → Act → World → Prop) (df : List Deferred) (w0 : World)
    (hq : q < m) (hm : m ≤ 4000) (h0 : w0.cell? ⟨b12, 0, none⟩ = some (.int .i64 0)) (h1 : w0.cell? ⟨b12, 1, none⟩ = some (.int .i64 (q : Nat))) (h2 : w0.cell? ⟨sb, q, none⟩ = some (.bool false)) (hi : i < N) (hN : N ≤ 4000) (hk : k + 1 < np) (hnp : np ≤ 4000) (h3 : w0.cell? ⟨gP, i * 2 + 1, none⟩ = some (.slice (some ⟨gX, 0, none⟩) np cX)) (h4 : w0.cell? ⟨gX, k * 2 + 1, none⟩ = some (.int .i64 (q0 : Nat))) (hq0 : q0 < q)
    (x : Act) (w : World) (hB : Below w0.heap.size w0 w) (hdef : x.defers = df) (u7 : x.tmps.getD 7 undef = .slice (some ⟨gP, 0, none⟩) N cP) (u9 : x.tmps.getD 9 undef = .slice (some ⟨sb, 0, none⟩) m m) (u10 : x.tmps.getD 10 undef = .int .i64 (i : Nat)) (u11 : x.tmps.getD 11 undef = .int .i64 ((k : Int) + 1)) (u12 : x.tmps.getD 12 undef = .pointer (some ⟨b12, 0, none⟩))
    (p22 : gpbL_val gP gX N cP np cX sb m b12 i k q q0 22 (x.tmps.getD 120 undef) w)
    : wpOpIn Fc nC Try.prog gpb_ops Q 23 (fun a' w' => ∃ v, a' = x.put (some 121) v ∧ (v = .int .i64 ((k : Int) + 1)) ∧ Below w.heap.size w w') x w := by
  have ho : gpb_ops[23]? = some gpb_o23 := rfl
  simp only [Array.getD_eq_getD_getElem?] at u7 u9 u10 u11 u12
  have q22 : x.tmps.getD 120 undef = .bool false := p22
  simp only [Array.getD_eq_getD_getElem?] at q22
  have e22 : (gpb_ops[22]?.bind fun x => x.dst) = some 120 := rfl
  have g22 := get_someT q22 (fun h => by cases h)
  refine wpOpIn_stepT hF ho (fun K hK => ?_)
  clear ho
  rw [Oper.semAt_plain Fc _ _ (by intro c h; cases h)]
  simp only [gpb_o23]
  go_simp
  exact hK _ _ ⟨_, act_putD x hdef _ _, rfl, Below.refl _ _⟩
set_option maxRecDepth 100000 in
set_option maxHeartbeats 2000000 in
theorem gpbL_s24 {Fc : Fence} (hF : Wide Fc) {nC : Nat} (gP gX N cP np cX sb m b12 i k q q0 : Nat) (Q : Exit → Act → World → Prop) (df : List Deferred) (w0 : World)
    (hq : q < m) (hm : m ≤ 4000) (h0 : w0.cell? ⟨b12, 0, none⟩ = some (.int .i64 0)) (h1 : w0.cell? ⟨b12, 1, none⟩ = some (.int .i64 (q : Nat))) (h2 : w0.cell? ⟨sb, q, none⟩ = some (.bool false)) (hi : i < N) (hN : N ≤ 4000) (hk : k + 1 < np) (hnp : np ≤ 4000) (h3 : w0.cell? ⟨gP, i * 2 + 1, none⟩ = some (.slice (some ⟨gX, 0, none⟩) np cX)) (h4 : w0.cell? ⟨gX, k * 2 + 1, none⟩ = some (.int .i64 (q0 : Nat))) (hq0 : q0 < q)
    (x : Act) (w : World) (hB : Below w0.heap.size w0 w) (hdef : x.defers = df) (u7 : x.tmps.getD 7 undef = .slice (some ⟨gP, 0, none⟩) N cP) (u9 : x.tmps.getD 9 undef = .slice (some ⟨sb, 0, none⟩) m m) (u10 : x.tmps.getD 10 undef = .int .i64 (i : Nat)) (u11 : x.tmps.getD 11 undef = .int .i64 ((k : Int) + 1)) (u12 : x.tmps.getD 12 undef = .pointer (some ⟨b12, 0, none⟩))
    (p23 : gpbL_val gP gX N cP np cX sb m b12 i k q q0 23 (x.tmps.getD 121 undef) w)
    (p22 : gpbL_val gP gX N cP np cX sb m b12 i k q q0 22 (x.tmps.getD 120 undef) w)
    : wpOpIn Fc nC Try.prog gpb_ops Q 24 (fun a' w' => ∃ v, a' = x.put (some 122) v ∧ (v = .bool true) ∧ Below w.heap.size w w') x w := by
  have ho : gpb_ops[24]? = some gpb_o24 := rfl
  simp only [Array.getD_eq_getD_getElem?] at u7 u9 u10 u11 u12
  have q23 : x.tmps.getD 121 undef = .int .i64 ((k : Int) + 1) := p23
  have q22 : x.tmps.getD 120 undef = .bool false := p22
  simp only [Array.getD_eq_getD_getElem?] at q23 q22
  have e22 : (gpb_ops[22]?.bind fun x => x.dst) = some 120 := rfl
  have g22 := get_someT q22 (fun h => by cases h)
  have u : (0 : Int) < (k : Int) + 1 := by omega
  refine wpOpIn_stepT hF ho (fun K hK => ?_)
  clear ho
  rw [Oper.semAt_plain Fc _ _ (by intro c h; cases h)]
  simp only [gpb_o24]
  go_simp
  exact hK _ _ ⟨_, act_putD x hdef _ _, rfl, Below.refl _ _⟩
set_option maxRecDepth 100000 in
set_option maxHeartbeats 2000000 in
theorem gpbL_s25 {Fc : Fence} (hF : Wide Fc) {nC : Nat} (gP gX N cP np cX sb m b12 i k q q0 : Nat) (Q : Exit → Act → World → Prop) (df : List Deferred) (w0 : World)
    (hq : q < m) (hm : m ≤ 4000) (h0 : w0.cell? ⟨b12, 0, none⟩ = some (.int .i64 0)) (h1 : w0.cell? ⟨b12, 1, none⟩ = some (.int .i64 (q : Nat))) (h2 : w0.cell? ⟨sb, q, none⟩ = some (.bool false)) (hi : i < N) (hN : N ≤ 4000) (hk : k + 1 < np) (hnp : np ≤ 4000) (h3 : w0.cell? ⟨gP, i * 2 + 1, none⟩ = some (.slice (some ⟨gX, 0, none⟩) np cX)) (h4 : w0.cell? ⟨gX, k * 2 + 1, none⟩ = some (.int .i64 (q0 : Nat))) (hq0 : q0 < q)
    (x : Act) (w : World) (hB : Below w0.heap.size w0 w) (hdef : x.defers = df) (u7 : x.tmps.getD 7 undef = .slice (some ⟨gP, 0, none⟩) N cP) (u9 : x.tmps.getD 9 undef = .slice (some ⟨sb, 0, none⟩) m m) (u10 : x.tmps.getD 10 undef = .int .i64 (i : Nat)) (u11 : x.tmps.getD 11 undef = .int .i64 ((k : Int) + 1)) (u12 : x.tmps.getD 12 undef = .pointer (some ⟨b12, 0, none⟩))
    (p24 : gpbL_val gP gX N cP np cX sb m b12 i k q q0 24 (x.tmps.getD 122 undef) w)
    (p22 : gpbL_val gP gX N cP np cX sb m b12 i k q q0 22 (x.tmps.getD 120 undef) w)
    : wpOpIn Fc nC Try.prog gpb_ops Q 25 (fun a' w' => ∃ v, a' = x.put (some 123) v ∧ (v = .bool true) ∧ Below w.heap.size w w') x w := by
  have ho : gpb_ops[25]? = some gpb_o25 := rfl
  simp only [Array.getD_eq_getD_getElem?] at u7 u9 u10 u11 u12
  have q24 : x.tmps.getD 122 undef = .bool true := p24
  have q22 : x.tmps.getD 120 undef = .bool false := p22
  simp only [Array.getD_eq_getD_getElem?] at q24 q22
  have e22 : (gpb_ops[22]?.bind fun x => x.dst) = some 120 := rfl
  have g22 := get_someT q22 (fun h => by cases h)
  refine wpOpIn_stepT hF ho (fun K hK => ?_)
  clear ho
  rw [Oper.semAt_plain Fc _ _ (by intro c h; cases h)]
  simp only [gpb_o25]
  go_simp
  exact hK _ _ ⟨_, act_putD x hdef _ _, rfl, Below.refl _ _⟩
set_option maxRecDepth 100000 in
set_option maxHeartbeats 2000000 in
theorem gpbL_s26 {Fc : Fence} (hF : Wide Fc) {nC : Nat} (gP gX N cP np cX sb m b12 i k q q0 : Nat) (Q : Exit → Act → World → Prop) (df : List Deferred) (w0 : World)
    (hq : q < m) (hm : m ≤ 4000) (h0 : w0.cell? ⟨b12, 0, none⟩ = some (.int .i64 0)) (h1 : w0.cell? ⟨b12, 1, none⟩ = some (.int .i64 (q : Nat))) (h2 : w0.cell? ⟨sb, q, none⟩ = some (.bool false)) (hi : i < N) (hN : N ≤ 4000) (hk : k + 1 < np) (hnp : np ≤ 4000) (h3 : w0.cell? ⟨gP, i * 2 + 1, none⟩ = some (.slice (some ⟨gX, 0, none⟩) np cX)) (h4 : w0.cell? ⟨gX, k * 2 + 1, none⟩ = some (.int .i64 (q0 : Nat))) (hq0 : q0 < q)
    (x : Act) (w : World) (hB : Below w0.heap.size w0 w) (hdef : x.defers = df) (u7 : x.tmps.getD 7 undef = .slice (some ⟨gP, 0, none⟩) N cP) (u9 : x.tmps.getD 9 undef = .slice (some ⟨sb, 0, none⟩) m m) (u10 : x.tmps.getD 10 undef = .int .i64 (i : Nat)) (u11 : x.tmps.getD 11 undef = .int .i64 ((k : Int) + 1)) (u12 : x.tmps.getD 12 undef = .pointer (some ⟨b12, 0, none⟩))
    (p25 : gpbL_val gP gX N cP np cX sb m b12 i k q q0 25 (x.tmps.getD 123 undef) w)
    : wpOpIn Fc nC Try.prog gpb_ops Q 26 (fun a' w' => ∃ v, a' = x.put (some 124) v ∧ (v = .slice (some ⟨gP, 0, none⟩) N cP) ∧ Below w.heap.size w w') x w := by
  have ho : gpb_ops[26]? = some gpb_o26 := rfl
  simp only [Array.getD_eq_getD_getElem?] at u7 u9 u10 u11 u12
  have q25 : x.tmps.getD 123 undef = .bool true := p25
  simp only [Array.getD_eq_getD_getElem?] at q25
  have e25 : (gpb_ops[25]?.bind fun x => x.dst) = some 123 := rfl
  have g25 := get_someT q25 (fun h => by cases h)
  refine wpOpIn_stepT hF ho (fun K hK => ?_)
  clear ho
  rw [Oper.semAt_plain Fc _ _ (by intro c h; cases h)]
  simp only [gpb_o26]
  go_simp
  exact hK _ _ ⟨_, act_putD x hdef _ _, rfl, Below.refl _ _⟩
set_option maxRecDepth 100000 in
set_option maxHeartbeats 2000000 in
theorem gpbL_s27 {Fc : Fence} (hF : Wide Fc) {nC : Nat} (gP gX N cP np cX sb m b12 i k q q0 : Nat) (Q : Exit → Act → World → Prop) (df : List Deferred) (w0 : World)
    (hq : q < m) (hm : m ≤ 4000) (h0 : w0.cell? ⟨b12, 0, none⟩ = some (.int .i64 0)) (h1 : w0.cell? ⟨b12, 1, none⟩ = some (.int .i64 (q : Nat))) (h2 : w0.cell? ⟨sb, q, none⟩ = some (.bool false)) (hi : i < N) (hN : N ≤ 4000) (hk : k + 1 < np) (hnp : np ≤ 4000) (h3 : w0.cell? ⟨gP, i * 2 + 1, none⟩ = some (.slice (some ⟨gX, 0, none⟩) np cX)) (h4 : w0.cell? ⟨gX, k * 2 + 1, none⟩ = some (.int .i64 (q0 : Nat))) (hq0 : q0 < q)
    (x : Act) (w : World) (hB : Below w0.heap.size w0 w) (hdef : x.defers = df) (u7 : x.tmps.getD 7 undef = .slice (some ⟨gP, 0, none⟩) N cP) (u9 : x.tmps.getD 9 undef = .slice (some ⟨sb, 0, none⟩) m m) (u10 : x.tmps.getD 10 undef = .int .i64 (i : Nat)) (u11 : x.tmps.getD 11 undef = .int .i64 ((k : Int) + 1)) (u12 : x.tmps.getD 12 undef = .pointer (some ⟨b12, 0, none⟩))
    (p25 : gpbL_val gP gX N cP np cX sb m b12 i k q q0 25 (x.tmps.getD 123 undef) w)
    : wpOpIn Fc nC Try.prog gpb_ops Q 27 (fun a' w' => ∃ v, a' = x.put (some 125) v ∧ (v = .int .i64 (i : Nat)) ∧ Below w.heap.size w w') x w := by
  have ho : gpb_ops[27]? = some gpb_o27 := rfl
  simp only [Array.getD_eq_getD_getElem?] at u7 u9 u10 u11 u12
  have q25 : x.tmps.getD 123 undef = .bool true := p25
  simp only [Array.getD_eq_getD_getElem?] at q25
  have e25 : (gpb_ops[25]?.bind fun x => x.dst) = some 123 := rfl
  have g25 := get_someT q25 (fun h => by cases h)
  refine wpOpIn_stepT hF ho (fun K hK => ?_)
  clear ho
  rw [Oper.semAt_plain Fc _ _ (by intro c h; cases h)]
  simp only [gpb_o27]
  go_simp
  exact hK _ _ ⟨_, act_putD x hdef _ _, rfl, Below.refl _ _⟩
set_option maxRecDepth 100000 in
set_option maxHeartbeats 2000000 in
theorem gpbL_s28 {Fc : Fence} (hF : Wide Fc) {nC : Nat} (gP gX N cP np cX sb m b12 i k q q0 : Nat) (Q : Exit → Act → World → Prop) (df : List Deferred) (w0 : World)
    (hq : q < m) (hm : m ≤ 4000) (h0 : w0.cell? ⟨b12, 0, none⟩ = some (.int .i64 0)) (h1 : w0.cell? ⟨b12, 1, none⟩ = some (.int .i64 (q : Nat))) (h2 : w0.cell? ⟨sb, q, none⟩ = some (.bool false)) (hi : i < N) (hN : N ≤ 4000) (hk : k + 1 < np) (hnp : np ≤ 4000) (h3 : w0.cell? ⟨gP, i * 2 + 1, none⟩ = some (.slice (some ⟨gX, 0, none⟩) np cX)) (h4 : w0.cell? ⟨gX, k * 2 + 1, none⟩ = some (.int .i64 (q0 : Nat))) (hq0 : q0 < q)
    (x : Act) (w : World) (hB : Below w0.heap.size w0 w) (hdef : x.defers = df) (u7 : x.tmps.getD 7 undef = .slice (some ⟨gP, 0, none⟩) N cP) (u9 : x.tmps.getD 9 undef = .slice (some ⟨sb, 0, none⟩) m m) (u10 : x.tmps.getD 10 undef = .int .i64 (i : Nat)) (u11 : x.tmps.getD 11 undef = .int .i64 ((k : Int) + 1)) (u12 : x.tmps.getD 12 undef = .pointer (some ⟨b12, 0, none⟩))
    (p26 : gpbL_val gP gX N cP np cX sb m b12 i k q q0 26 (x.tmps.getD 124 undef) w)
    (p27 : gpbL_val gP gX N cP np cX sb m b12 i k q q0 27 (x.tmps.getD 125 undef) w)
    (p25 : gpbL_val gP gX N cP np cX sb m b12 i k q q0 25 (x.tmps.getD 123 undef) w)
    : wpOpIn Fc nC Try.prog gpb_ops Q 28 (fun a' w' => ∃ v, a' = x.put (some 126) v ∧ (v = .pointer (some ⟨gP, i * 2, none⟩)) ∧ Below w.heap.size w w') x w := by
  have ho : gpb_ops[28]? = some gpb_o28 := rfl
  simp only [Array.getD_eq_getD_getElem?] at u7 u9 u10 u11 u12
  have q26 : x.tmps.getD 124 undef = .slice (some ⟨gP, 0, none⟩) N cP := p26
  have q27 : x.tmps.getD 125 undef = .int .i64 (i : Nat) := p27
  have q25 : x.tmps.getD 123 undef = .bool true := p25
  simp only [Array.getD_eq_getD_getElem?] at q26 q27 q25
  have e25 : (gpb_ops[25]?.bind fun x => x.dst) = some 123 := rfl
  have g25 := get_someT q25 (fun h => by cases h)
  have i0 : (0 : Int) ≤ (i : Int) := by omega
  have i1 : (i : Int) < (N : Int) := by omega
  refine wpOpIn_stepT hF ho (fun K hK => ?_)
  clear ho
  rw [Oper.semAt_plain Fc _ _ (by intro c h; cases h)]
  simp only [gpb_o28]
  go_simp
  exact hK _ _ ⟨_, act_putD x hdef _ _, rfl, Below.refl _ _⟩
set_option maxRecDepth 100000 in
set_option maxHeartbeats 2000000 in
theorem gpbL_s29 {Fc : Fence} (hF : Wide Fc) {nC : Nat} (gP gX N cP np cX sb m b12 i k q q0 : Nat) (Q : Exit → Act → World → Prop) (df : List Deferred) (w0 : World)
    (hq : q < m) (hm : m ≤ 4000) (h0 : w0.cell? ⟨b12, 0, none⟩ = some (.int .i64 0)) (h1 : w0.cell? ⟨b12, 1, none⟩ = some (.int .i64 (q : Nat))) (h2 : w0.cell? ⟨sb, q, none⟩ = some (.bool false)) (hi : i < N) (hN : N ≤ 4000) (hk : k + 1 < np) (hnp : np ≤ 4000) (h3 : w0.cell? ⟨gP, i * 2 + 1, none⟩ = some (.slice (some ⟨gX, 0, none⟩) np cX)) (h4 : w0.cell? ⟨gX, k * 2 + 1, none⟩ = some (.int .i64 (q0 : Nat))) (hq0 : q0 < q)
    (x : Act) (w : World) (hB : Below w0.heap.size w0 w) (hdef : x.defers = df) (u7 : x.tmps.getD 7 undef = .slice (some ⟨gP, 0, none⟩) N cP) (u9 : x.tmps.getD 9 undef = .slice (some ⟨sb, 0, none⟩) m m) (u10 : x.tmps.getD 10 undef = .int .i64 (i : Nat)) (u11 : x.tmps.getD 11 undef = .int .i64 ((k : Int) + 1)) (u12 : x.tmps.getD 12 undef = .pointer (some ⟨b12, 0, none⟩))
    (p28 : gpbL_val gP gX N cP np cX sb m b12 i k q q0 28 (x.tmps.getD 126 undef) w)
    (p25 : gpbL_val gP gX N cP np cX sb m b12 i k q q0 25 (x.tmps.getD 123 undef) w)
    : wpOpIn Fc nC Try.prog gpb_ops Q 29 (fun a' w' => ∃ v, a' = x.put (some 127) v ∧ (v = .pointer (some ⟨gP, i * 2 + 1, none⟩)) ∧ Below w.heap.size w w') x w := by
  have ho : gpb_ops[29]? = some gpb_o29 := rfl
  simp only [Array.getD_eq_getD_getElem?] at u7 u9 u10 u11 u12
  have q28 : x.tmps.getD 126 undef = .pointer (some ⟨gP, i * 2, none⟩) := p28
  have q25 : x.tmps.getD 123 undef = .bool true := p25
  simp only [Array.getD_eq_getD_getElem?] at q28 q25
  have e25 : (gpb_ops[25]?.bind fun x => x.dst) = some 123 := rfl
  have g25 := get_someT q25 (fun h => by cases h)
  refine wpOpIn_stepT hF ho (fun K hK => ?_)
  clear ho
  rw [Oper.semAt_plain Fc _ _ (by intro c h; cases h)]
  simp only [gpb_o29]
  go_simp
  exact hK _ _ ⟨_, act_putD x hdef _ _, rfl, Below.refl _ _⟩
set_option maxRecDepth 100000 in
set_option maxHeartbeats 2000000 in
theorem gpbL_s30 {Fc : Fence} (hF : Wide Fc) {nC : Nat} (gP gX N cP np cX sb m b12 i k q q0 : Nat) (Q : Exit → Act → World → Prop) (df : List Deferred) (w0 : World)
    (hq : q < m) (hm : m ≤ 4000) (h0 : w0.cell? ⟨b12, 0, none⟩ = some (.int .i64 0)) (h1 : w0.cell? ⟨b12, 1, none⟩ = some (.int .i64 (q : Nat))) (h2 : w0.cell? ⟨sb, q, none⟩ = some (.bool false)) (hi : i < N) (hN : N ≤ 4000) (hk : k + 1 < np) (hnp : np ≤ 4000) (h3 : w0.cell? ⟨gP, i * 2 + 1, none⟩ = some (.slice (some ⟨gX, 0, none⟩) np cX)) (h4 : w0.cell? ⟨gX, k * 2 + 1, none⟩ = some (.int .i64 (q0 : Nat))) (hq0 : q0 < q)
    (x : Act) (w : World) (hB : Below w0.heap.size w0 w) (hdef : x.defers = df) (u7 : x.tmps.getD 7 undef = .slice (some ⟨gP, 0, none⟩) N cP) (u9 : x.tmps.getD 9 undef = .slice (some ⟨sb, 0, none⟩) m m) (u10 : x.tmps.getD 10 undef = .int .i64 (i : Nat)) (u11 : x.tmps.getD 11 undef = .int .i64 ((k : Int) + 1)) (u12 : x.tmps.getD 12 undef = .pointer (some ⟨b12, 0, none⟩))
    (p29 : gpbL_val gP gX N cP np cX sb m b12 i k q q0 29 (x.tmps.getD 127 undef) w)
    (p25 : gpbL_val gP gX N cP np cX sb m b12 i k q q0 25 (x.tmps.getD 123 undef) w)
    : wpOpIn Fc nC Try.prog gpb_ops Q 30 (fun a' w' => ∃ v, a' = x.put (some 128) v ∧ (v = .slice (some ⟨gX, 0, none⟩) np cX) ∧ Below w.heap.size w w') x w := by
  have ho : gpb_ops[30]? = some gpb_o30 := rfl
  simp only [Array.getD_eq_getD_getElem?] at u7 u9 u10 u11 u12
  have q29 : x.tmps.getD 127 undef = .pointer (some ⟨gP, i * 2 + 1, none⟩) := p29
  have q25 : x.tmps.getD 123 undef = .bool true := p25
  simp only [Array.getD_eq_getD_getElem?] at q29 q25
  have e25 : (gpb_ops[25]?.bind fun x => x.dst) = some 123 := rfl
  have g25 := get_someT q25 (fun h => by cases h)
  have u := cell_thru h3 hB
  refine wpOpIn_stepT hF ho (fun K hK => ?_)
  clear ho
  rw [Oper.semAt_plain Fc _ _ (by intro c h; cases h)]
  simp only [gpb_o30]
  go_simp
  exact hK _ _ ⟨_, act_putD x hdef _ _, rfl, Below.refl _ _⟩
set_option maxRecDepth 100000 in
set_option maxHeartbeats 2000000 in
theorem gpbL_s31 {Fc : Fence} (hF : Wide Fc) {nC : Nat} (gP gX N cP np cX sb m b12 i k q q0 : Nat) (Q : Exit → Act → World → Prop) (df : List Deferred) (w0 : World)
    (hq : q < m) (hm : m ≤ 4000) (h0 : w0.cell? ⟨b12, 0, none⟩ = some (.int .i64 0)) (h1 : w0.cell? ⟨b12, 1, none⟩ = some (.int .i64 (q : Nat))) (h2 : w0.cell? ⟨sb, q, none⟩ = some (.bool false)) (hi : i < N) (hN : N ≤ 4000) (hk : k + 1 < np) (hnp : np ≤ 4000) (h3 : w0.cell? ⟨gP, i * 2 + 1, none⟩ = some (.slice (some ⟨gX, 0, none⟩) np cX)) (h4 : w0.cell? ⟨gX, k * 2 + 1, none⟩ = some (.int .i64 (q0 : Nat))) (hq0 : q0 < q)
    (x : Act) (w : World) (hB : Below w0.heap.size w0 w) (hdef : x.defers = df) (u7 : x.tmps.getD 7 undef = .slice (some ⟨gP, 0, none⟩) N cP) (u9 : x.tmps.getD 9 undef = .slice (some ⟨sb, 0, none⟩) m m) (u10 : x.tmps.getD 10 undef = .int .i64 (i : Nat)) (u11 : x.tmps.getD 11 undef = .int .i64 ((k : Int) + 1)) (u12 : x.tmps.getD 12 undef = .pointer (some ⟨b12, 0, none⟩))
    (p25 : gpbL_val gP gX N cP np cX sb m b12 i k q q0 25 (x.tmps.getD 123 undef) w)
    : wpOpIn Fc nC Try.prog gpb_ops Q 31 (fun a' w' => ∃ v, a' = x.put (some 129) v ∧ (v = .int .i64 ((k : Int) + 1)) ∧ Below w.heap.size w w') x w := by
  have ho : gpb_ops[31]? = some gpb_o31 := rfl
  simp only [Array.getD_eq_getD_getElem?] at u7 u9 u10 u11 u12
  have q25 : x.tmps.getD 123 undef = .bool true := p25
  simp only [Array.getD_eq_getD_getElem?] at q25
  have e25 : (gpb_ops[25]?.bind fun x => x.dst) = some 123 := rfl
  have g25 := get_someT q25 (fun h => by cases h)
  refine wpOpIn_stepT hF ho (fun K hK => ?_)
  clear ho
  rw [Oper.semAt_plain Fc _ _ (by intro c h; cases h)]
  simp only [gpb_o31]
  go_simp
  exact hK _ _ ⟨_, act_putD x hdef _ _, rfl, Below.refl _ _⟩
set_option maxRecDepth 100000 in
set_option maxHeartbeats 2000000 in
theorem gpbL_s32 {Fc : Fence} (hF : Wide Fc) {nC : Nat} (gP gX N cP np cX sb m b12 i k q q0 : Nat) (Q : Exit → Act → World → Prop) (df : List Deferred) (w0 : World)
    (hq : q < m) (hm : m ≤ 4000) (h0 : w0.cell? ⟨b12, 0, none⟩ = some (.int .i64 0)) (h1 : w0.cell? ⟨b12, 1, none⟩ = some (.int .i64 (q : Nat))) (h2 : w0.cell? ⟨sb, q, none⟩ = some (.bool false)) (hi : i < N) (hN : N ≤ 4000) (hk : k + 1 < np) (hnp : np ≤ 4000) (h3 : w0.cell? ⟨gP, i * 2 + 1, none⟩ = some (.slice (some ⟨gX, 0, none⟩) np cX)) (h4 : w0.cell? ⟨gX, k * 2 + 1, none⟩ = some (.int .i64 (q0 : Nat))) (hq0 : q0 < q)
    (x : Act) (w : World) (hB : Below w0.heap.size w0 w) (hdef : x.defers = df) (u7 : x.tmps.getD 7 undef = .slice (some ⟨gP, 0, none⟩) N cP) (u9 : x.tmps.getD 9 undef = .slice (some ⟨sb, 0, none⟩) m m) (u10 : x.tmps.getD 10 undef = .int .i64 (i : Nat)) (u11 : x.tmps.getD 11 undef = .int .i64 ((k : Int) + 1)) (u12 : x.tmps.getD 12 undef = .pointer (some ⟨b12, 0, none⟩))
    (p31 : gpbL_val gP gX N cP np cX sb m b12 i k q q0 31 (x.tmps.getD 129 undef) w)
    (p25 : gpbL_val gP gX N cP np cX sb m b12 i k q q0 25 (x.tmps.getD 123 undef) w)
    : wpOpIn Fc nC Try.prog gpb_ops Q 32 (fun a' w' => ∃ v, a' = x.put (some 130) v ∧ (v = .int .i64 (k : Nat)) ∧ Below w.heap.size w w') x w := by
  have ho : gpb_ops[32]? = some gpb_o32 := rfl
  simp only [Array.getD_eq_getD_getElem?] at u7 u9 u10 u11 u12
  have q31 : x.tmps.getD 129 undef = .int .i64 ((k : Int) + 1) := p31
  have q25 : x.tmps.getD 123 undef = .bool true := p25
  simp only [Array.getD_eq_getD_getElem?] at q31 q25
  have e25 : (gpb_ops[25]?.bind fun x => x.dst) = some 123 := rfl
  have g25 := get_someT q25 (fun h => by cases h)
  have u := IntWalk.i64_in (k : Int) (by omega)
  refine wpOpIn_stepT hF ho (fun K hK => ?_)
  clear ho
  rw [Oper.semAt_plain Fc _ _ (by intro c h; cases h)]
  simp only [gpb_o32]
  go_simp
  exact hK _ _ ⟨_, act_putD x hdef _ _, rfl, Below.refl _ _⟩
set_option maxRecDepth 100000 in
set_option maxHeartbeats 2000000 in
theorem gpbL_s33 {Fc : Fence} (hF : Wide Fc) {nC : Nat} (gP gX N cP np cX sb m b12 i k q q0 : Nat) (Q : Exit → Act → World → Prop) (df : List Deferred) (w0 : World)
    (hq : q < m) (hm : m ≤ 4000) (h0 : w0.cell? ⟨b12, 0, none⟩ = some (.int .i64 0)) (h1 : w0.cell? ⟨b12, 1, none⟩ = some (.int .i64 (q : Nat))) (h2 : w0.cell? ⟨sb, q, none⟩ = some (.bool false)) (hi : i < N) (hN : N ≤ 4000) (hk : k + 1 < np) (hnp : np ≤ 4000) (h3 : w0.cell? ⟨gP, i * 2 + 1, none⟩ = some (.slice (some ⟨gX, 0, none⟩) np cX)) (h4 : w0.cell? ⟨gX, k * 2 + 1, none⟩ = some (.int .i64 (q0 : Nat))) (hq0 : q0 < q)
    (x : Act) (w : World) (hB : Below w0.heap.size w0 w) (hdef : x.defers = df) (u7 : x.tmps.getD 7 undef = .slice (some ⟨gP, 0, none⟩) N cP) (u9 : x.tmps.getD 9 undef = .slice (some ⟨sb, 0, none⟩) m m) (u10 : x.tmps.getD 10 undef = .int .i64 (i : Nat)) (u11 : x.tmps.getD 11 undef = .int .i64 ((k : Int) + 1)) (u12 : x.tmps.getD 12 undef = .pointer (some ⟨b12, 0, none⟩))
    (p30 : gpbL_val gP gX N cP np cX sb m b12 i k q q0 30 (x.tmps.getD 128 undef) w)
    (p32 : gpbL_val gP gX N cP np cX sb m b12 i k q q0 32 (x.tmps.getD 130 undef) w)
    (p25 : gpbL_val gP gX N cP np cX sb m b12 i k q q0 25 (x.tmps.getD 123 undef) w)
    : wpOpIn Fc nC Try.prog gpb_ops Q 33 (fun a' w' => ∃ v, a' = x.put (some 131) v ∧ (v = .pointer (some ⟨gX, k * 2, none⟩)) ∧ Below w.heap.size w w') x w := by
  have ho : gpb_ops[33]? = some gpb_o33 := rfl
  simp only [Array.getD_eq_getD_getElem?] at u7 u9 u10 u11 u12
  have q30 : x.tmps.getD 128 undef = .slice (some ⟨gX, 0, none⟩) np cX := p30
  have q32 : x.tmps.getD 130 undef = .int .i64 (k : Nat) := p32
  have q25 : x.tmps.getD 123 undef = .bool true := p25
  simp only [Array.getD_eq_getD_getElem?] at q30 q32 q25
  have e25 : (gpb_ops[25]?.bind fun x => x.dst) = some 123 := rfl
  have g25 := get_someT q25 (fun h => by cases h)
  have i0 : (0 : Int) ≤ (k : Int) := by omega
  have i1 : (k : Int) < (np : Int) := by omega
  refine wpOpIn_stepT hF ho (fun K hK => ?_)
  clear ho
  rw [Oper.semAt_plain Fc _ _ (by intro c h; cases h)]
  simp only [gpb_o33]
  go_simp
  exact hK _ _ ⟨_, act_putD x hdef _ _, rfl, Below.refl _ _⟩
set_option maxRecDepth 100000 in
set_option maxHeartbeats 2000000 in
theorem gpbL_s34 {Fc : Fence} (hF : Wide Fc) {nC : Nat} (gP gX N cP np cX sb m b12 i k q q0 : Nat) (Q : Exit → Act → World → Prop) (df : List Deferred) (w0 : World)
    (hq : q < m) (hm : m ≤ 4000) (h0 : w0.cell? ⟨b12, 0, none⟩ = some (.int .i64 0)) (h1 : w0.cell? ⟨b12, 1, none⟩ = some (.int .i64 (q : Nat))) (h2 : w0.cell? ⟨sb, q, none⟩ = some (.bool false)) (hi : i < N) (hN : N ≤ 4000) (hk : k + 1 < np) (hnp : np ≤ 4000) (h3 : w0.cell? ⟨gP, i * 2 + 1, none⟩ = some (.slice (some ⟨gX, 0, none⟩) np cX)) (h4 : w0.cell? ⟨gX, k * 2 + 1, none⟩ = some (.int .i64 (q0 : Nat))) (hq0 : q0 < q)
    (x : Act) (w : World) (hB : Below w0.heap.size w0 w) (hdef : x.defers = df) (u7 : x.tmps.getD 7 undef = .slice (some ⟨gP, 0, none⟩) N cP) (u9 : x.tmps.getD 9 undef = .slice (some ⟨sb, 0, none⟩) m m) (u10 : x.tmps.getD 10 undef = .int .i64 (i : Nat)) (u11 : x.tmps.getD 11 undef = .int .i64 ((k : Int) + 1)) (u12 : x.tmps.getD 12 undef = .pointer (some ⟨b12, 0, none⟩))
    (p33 : gpbL_val gP gX N cP np cX sb m b12 i k q q0 33 (x.tmps.getD 131 undef) w)
    (p25 : gpbL_val gP gX N cP np cX sb m b12 i k q q0 25 (x.tmps.getD 123 undef) w)
    : wpOpIn Fc nC Try.prog gpb_ops Q 34 (fun a' w' => ∃ v, a' = x.put (some 132) v ∧ (v = .pointer (some ⟨gX, k * 2 + 1, none⟩)) ∧ Below w.heap.size w w') x w := by
  have ho : gpb_ops[34]? = some gpb_o34 := rfl
  simp only [Array.getD_eq_getD_getElem?] at u7 u9 u10 u11 u12
  have q33 : x.tmps.getD 131 undef = .pointer (some ⟨gX, k * 2, none⟩) := p33
  have q25 : x.tmps.getD 123 undef = .bool true := p25
  simp only [Array.getD_eq_getD_getElem?] at q33 q25
  have e25 : (gpb_ops[25]?.bind fun x => x.dst) = some 123 := rfl
  have g25 := get_someT q25 (fun h => by cases h)
  refine wpOpIn_stepT hF ho (fun K hK => ?_)
  clear ho
  rw [Oper.semAt_plain Fc _ _ (by intro c h; cases h)]
  simp only [gpb_o34]
  go_simp
  exact hK _ _ ⟨_, act_putD x hdef _ _, rfl, Below.refl _ _⟩
set_option maxRecDepth 100000 in
set_option maxHeartbeats 2000000 in
theorem gpbL_s35 {Fc : Fence} (hF : Wide Fc) {nC : Nat} (gP gX N cP np cX sb m b12 i k q q0 : Nat) (Q : Exit → Act → World → Prop) (df : List Deferred) (w0 : World)
    (hq : q < m) (hm : m ≤ 4000) (h0 : w0.cell? ⟨b12, 0, none⟩ = some (.int .i64 0)) (h1 : w0.cell? ⟨b12, 1, none⟩ = some (.int .i64 (q : Nat))) (h2 : w0.cell? ⟨sb, q, none⟩ = some (.bool false)) (hi : i < N) (hN : N ≤ 4000) (hk : k + 1 < np) (hnp : np ≤ 4000) (h3 : w0.cell? ⟨gP, i * 2 + 1, none⟩ = some (.slice (some ⟨gX, 0, none⟩) np cX)) (h4 : w0.cell? ⟨gX, k * 2 + 1, none⟩ = some (.int .i64 (q0 : Nat))) (hq0 : q0 < q)
    (x : Act) (w : World) (hB : Below w0.heap.size w0 w) (hdef : x.defers = df) (u7 : x.tmps.getD 7 undef = .slice (some ⟨gP, 0, none⟩) N cP) (u9 : x.tmps.getD 9 undef = .slice (some ⟨sb, 0, none⟩) m m) (u10 : x.tmps.getD 10 undef = .int .i64 (i : Nat)) (u11 : x.tmps.getD 11 undef = .int .i64 ((k : Int) + 1)) (u12 : x.tmps.getD 12 undef = .pointer (some ⟨b12, 0, none⟩))
    (p34 : gpbL_val gP gX N cP np cX sb m b12 i k q q0 34 (x.tmps.getD 132 undef) w)
    (p25 : gpbL_val gP gX N cP np cX sb m b12 i k q q0 25 (x.tmps.getD 123 undef) w)
    : wpOpIn Fc nC Try.prog gpb_ops Q 35 (fun a' w' => ∃ v, a' = x.put (some 133) v ∧ (v = .int .i64 (q0 : Nat)) ∧ Below w.heap.size w w') x w := by
  have ho : gpb_ops[35]? = some gpb_o35 := rfl
  simp only [Array.getD_eq_getD_getElem?] at u7 u9 u10 u11 u12
  have q34 : x.tmps.getD 132 undef = .pointer (some ⟨gX, k * 2 + 1, none⟩) := p34
  have q25 : x.tmps.getD 123 undef = .bool true := p25
  simp only [Array.getD_eq_getD_getElem?] at q34 q25
  have e25 : (gpb_ops[25]?.bind fun x => x.dst) = some 123 := rfl
  have g25 := get_someT q25 (fun h => by cases h)
  have u := cell_thru h4 hB
  refine wpOpIn_stepT hF ho (fun K hK => ?_)
  clear ho
  rw [Oper.semAt_plain Fc _ _ (by intro c h; cases h)]
  simp only [gpb_o35]
  go_simp
  exact hK _ _ ⟨_, act_putD x hdef _ _, rfl, Below.refl _ _⟩
set_option maxRecDepth 100000 in
set_option maxHeartbeats 2000000 in
theorem gpbL_s36 {Fc : Fence} (hF : Wide Fc) {nC : Nat} (gP gX N cP np cX sb m b12 i k q q0 : Nat) (Q : Exit → Act → World → Prop) (df : List Deferred) (w0 : World)
    (hq : q < m) (hm : m ≤ 4000) (h0 : w0.cell? ⟨b12, 0, none⟩ = some (.int .i64 0)) (h1 : w0.cell? ⟨b12, 1, none⟩ = some (.int .i64 (q : Nat))) (h2 : w0.cell? ⟨sb, q, none⟩ = some (.bool false)) (hi : i < N) (hN : N ≤ 4000) (hk : k + 1 < np) (hnp : np ≤ 4000) (h3 : w0.cell? ⟨gP, i * 2 + 1, none⟩ = some (.slice (some ⟨gX, 0, none⟩) np cX)) (h4 : w0.cell? ⟨gX, k * 2 + 1, none⟩ = some (.int .i64 (q0 : Nat))) (hq0 : q0 < q)
    (x : Act) (w : World) (hB : Below w0.heap.size w0 w) (hdef : x.defers = df) (u7 : x.tmps.getD 7 undef = .slice (some ⟨gP, 0, none⟩) N cP) (u9 : x.tmps.getD 9 undef = .slice (some ⟨sb, 0, none⟩) m m) (u10 : x.tmps.getD 10 undef = .int .i64 (i : Nat)) (u11 : x.tmps.getD 11 undef = .int .i64 ((k : Int) + 1)) (u12 : x.tmps.getD 12 undef = .pointer (some ⟨b12, 0, none⟩))
    (p25 : gpbL_val gP gX N cP np cX sb m b12 i k q q0 25 (x.tmps.getD 123 undef) w)
    : wpOpIn Fc nC Try.prog gpb_ops Q 36 (fun a' w' => ∃ v, a' = x.put (some 134) v ∧ (v = .pointer (some ⟨b12, 1, none⟩)) ∧ Below w.heap.size w w') x w := by
  have ho : gpb_ops[36]? = some gpb_o36 := rfl
  simp only [Array.getD_eq_getD_getElem?] at u7 u9 u10 u11 u12
  have q25 : x.tmps.getD 123 undef = .bool true := p25
  simp only [Array.getD_eq_getD_getElem?] at q25
  have e25 : (gpb_ops[25]?.bind fun x => x.dst) = some 123 := rfl
  have g25 := get_someT q25 (fun h => by cases h)
  refine wpOpIn_stepT hF ho (fun K hK => ?_)
  clear ho
  rw [Oper.semAt_plain Fc _ _ (by intro c h; cases h)]
  simp only [gpb_o36]
  go_simp
  exact hK _ _ ⟨_, act_putD x hdef _ _, rfl, Below.refl _ _⟩
set_option maxRecDepth 100000 in
set_option maxHeartbeats 2000000 in
theorem gpbL_s37 {Fc : Fence} (hF : Wide Fc) {nC : Nat} (gP gX N cP np cX sb m b12 i k q q0 : Nat) (Q : Exit → Act → World → Prop) (df : List Deferred) (w0 : World)
    (hq : q < m) (hm : m ≤ 4000) (h0 : w0.cell? ⟨b12, 0, none⟩ = some (.int .i64 0)) (h1 : w0.cell? ⟨b12, 1, none⟩ = some (.int .i64 (q : Nat))) (h2 : w0.cell? ⟨sb, q, none⟩ = some (.bool false)) (hi : i < N) (hN : N ≤ 4000) (hk : k + 1 < np) (hnp : np ≤ 4000) (h3 : w0.cell? ⟨gP, i * 2 + 1, none⟩ = some (.slice (some ⟨gX, 0, none⟩) np cX)) (h4 : w0.cell? ⟨gX, k * 2 + 1, none⟩ = some (.int .i64 (q0 : Nat))) (hq0 : q0 < q)
    (x : Act) (w : World) (hB : Below w0.heap.size w0 w) (hdef : x.defers = df) (u7 : x.tmps.getD 7 undef = .slice (some ⟨gP, 0, none⟩) N cP) (u9 : x.tmps.getD 9 undef = .slice (some ⟨sb, 0, none⟩) m m) (u10 : x.tmps.getD 10 undef = .int .i64 (i : Nat)) (u11 : x.tmps.getD 11 undef = .int .i64 ((k : Int) + 1)) (u12 : x.tmps.getD 12 undef = .pointer (some ⟨b12, 0, none⟩))
    (p36 : gpbL_val gP gX N cP np cX sb m b12 i k q q0 36 (x.tmps.getD 134 undef) w)
    (p25 : gpbL_val gP gX N cP np cX sb m b12 i k q q0 25 (x.tmps.getD 123 undef) w)
    : wpOpIn Fc nC Try.prog gpb_ops Q 37 (fun a' w' => ∃ v, a' = x.put (some 135) v ∧ (v = .int .i64 (q : Nat)) ∧ Below w.heap.size w w') x w := by
  have ho : gpb_ops[37]? = some gpb_o37 := rfl
  simp only [Array.getD_eq_getD_getElem?] at u7 u9 u10 u11 u12
  have q36 : x.tmps.getD 134 undef = .pointer (some ⟨b12, 1, none⟩) := p36
  have q25 : x.tmps.getD 123 undef = .bool true := p25
  simp only [Array.getD_eq_getD_getElem?] at q36 q25
  have e25 : (gpb_ops[25]?.bind fun x => x.dst) = some 123 := rfl
  have g25 := get_someT q25 (fun h => by cases h)
  have u := cell_thru h1 hB
  refine wpOpIn_stepT hF ho (fun K hK => ?_)
  clear ho
  rw [Oper.semAt_plain Fc _ _ (by intro c h; cases h)]
  simp only [gpb_o37]
  go_simp
  exact hK _ _ ⟨_, act_putD x hdef _ _, rfl, Below.refl _ _⟩
set_option maxRecDepth 100000 in
set_option maxHeartbeats 2000000 in
theorem gpbL_s38 {Fc : Fence} (hF : Wide Fc) {nC : Nat} (gP gX N cP np cX sb m b12 i k q q0 : Nat) (Q : Exit → Act → World → Prop) (df : List Deferred) (w0 : World)
    (hq : q < m) (hm : m ≤ 4000) (h0 : w0.cell? ⟨b12, 0, none⟩ = some (.int .i64 0)) (h1 : w0.cell? ⟨b12, 1, none⟩ = some (.int .i64 (q : Nat))) (h2 : w0.cell? ⟨sb, q, none⟩ = some (.bool false)) (hi : i < N) (hN : N ≤ 4000) (hk : k + 1 < np) (hnp : np ≤ 4000) (h3 : w0.cell? ⟨gP, i * 2 + 1, none⟩ = some (.slice (some ⟨gX, 0, none⟩) np cX)) (h4 : w0.cell? ⟨gX, k * 2 + 1, none⟩ = some (.int .i64 (q0 : Nat))) (hq0 : q0 < q)
    (x : Act) (w : World) (hB : Below w0.heap.size w0 w) (hdef : x.defers = df) (u7 : x.tmps.getD 7 undef = .slice (some ⟨gP, 0, none⟩) N cP) (u9 : x.tmps.getD 9 undef = .slice (some ⟨sb, 0, none⟩) m m) (u10 : x.tmps.getD 10 undef = .int .i64 (i : Nat)) (u11 : x.tmps.getD 11 undef = .int .i64 ((k : Int) + 1)) (u12 : x.tmps.getD 12 undef = .pointer (some ⟨b12, 0, none⟩))
    (p35 : gpbL_val gP gX N cP np cX sb m b12 i k q q0 35 (x.tmps.getD 133 undef) w)
    (p37 : gpbL_val gP gX N cP np cX sb m b12 i k q q0 37 (x.tmps.getD 135 undef) w)
    (p25 : gpbL_val gP gX N cP np cX sb m b12 i k q q0 25 (x.tmps.getD 123 undef) w)
    : wpOpIn Fc nC Try.prog gpb_ops Q 38 (fun a' w' => ∃ v, a' = x.put (some 136) v ∧ (v = .bool false) ∧ Below w.heap.size w w') x w := by
  have ho : gpb_ops[38]? = some gpb_o38 := rfl
  simp only [Array.getD_eq_getD_getElem?] at u7 u9 u10 u11 u12
  have q35 : x.tmps.getD 133 undef = .int .i64 (q0 : Nat) := p35
  have q37 : x.tmps.getD 135 undef = .int .i64 (q : Nat) := p37
  have q25 : x.tmps.getD 123 undef = .bool true := p25
  simp only [Array.getD_eq_getD_getElem?] at q35 q37 q25
  have e25 : (gpb_ops[25]?.bind fun x => x.dst) = some 123 := rfl
  have g25 := get_someT q25 (fun h => by cases h)
  have u : ¬ ((q : Int) ≤ (q0 : Int)) := by omega
  refine wpOpIn_stepT hF ho (fun K hK => ?_)
  clear ho
  rw [Oper.semAt_plain Fc _ _ (by intro c h; cases h)]
  simp only [gpb_o38]
  go_simp
  exact hK _ _ ⟨_, act_putD x hdef _ _, rfl, Below.refl _ _⟩
set_option maxRecDepth 100000 in
set_option maxHeartbeats 2000000 in
theorem gpbL_s39 {Fc : Fence} (hF : Wide Fc) {nC : Nat} (gP gX N cP np cX sb m b12 i k q q0 : Nat) (Q : Exit → Act → World → Prop) (df : List Deferred) (w0 : World)
    (hq : q < m) (hm : m ≤ 4000) (h0 : w0.cell? ⟨b12, 0, none⟩ = some (.int .i64 0)) (h1 : w0.cell? ⟨b12, 1, none⟩ = some (.int .i64 (q : Nat))) (h2 : w0.cell? ⟨sb, q, none⟩ = some (.bool false)) (hi : i < N) (hN : N ≤ 4000) (hk : k + 1 < np) (hnp : np ≤ 4000) (h3 : w0.cell? ⟨gP, i * 2 + 1, none⟩ = some (.slice (some ⟨gX, 0, none⟩) np cX)) (h4 : w0.cell? ⟨gX, k * 2 + 1, none⟩ = some (.int .i64 (q0 : Nat))) (hq0 : q0 < q)
    (x : Act) (w : World) (hB : Below w0.heap.size w0 w) (hdef : x.defers = df) (u7 : x.tmps.getD 7 undef = .slice (some ⟨gP, 0, none⟩) N cP) (u9 : x.tmps.getD 9 undef = .slice (some ⟨sb, 0, none⟩) m m) (u10 : x.tmps.getD 10 undef = .int .i64 (i : Nat)) (u11 : x.tmps.getD 11 undef = .int .i64 ((k : Int) + 1)) (u12 : x.tmps.getD 12 undef = .pointer (some ⟨b12, 0, none⟩))
    (p25 : gpbL_val gP gX N cP np cX sb m b12 i k q q0 25 (x.tmps.getD 123 undef) w)
    (p38 : gpbL_val gP gX N cP np cX sb m b12 i k q q0 38 (x.tmps.getD 136 undef) w)
    (p22 : gpbL_val gP gX N cP np cX sb m b12 i k q q0 22 (x.tmps.getD 120 undef) w)
    : wpOpIn Fc nC Try.prog gpb_ops Q 39 (fun a' w' => ∃ v, a' = x.put (some 137) v ∧ (v = .bool false) ∧ Below w.heap.size w w') x w := by
  have ho : gpb_ops[39]? = some gpb_o39 := rfl
  simp only [Array.getD_eq_getD_getElem?] at u7 u9 u10 u11 u12
  have q25 : x.tmps.getD 123 undef = .bool true := p25
  have q38 : x.tmps.getD 136 undef = .bool false := p38
  have q22 : x.tmps.getD 120 undef = .bool false := p22
  simp only [Array.getD_eq_getD_getElem?] at q25 q38 q22
  have e22 : (gpb_ops[22]?.bind fun x => x.dst) = some 120 := rfl
  have g22 := get_someT q22 (fun h => by cases h)
  refine wpOpIn_stepT hF ho (fun K hK => ?_)
  clear ho
  rw [Oper.semAt_plain Fc _ _ (by intro c h; cases h)]
  simp only [gpb_o39]
  go_simp
  exact hK _ _ ⟨_, act_putD x hdef _ _, rfl, Below.refl _ _⟩
set_option maxRecDepth 100000 in
set_option maxHeartbeats 2000000 in
theorem gpbL_s40 {Fc : Fence} (hF : Wide Fc) {nC : Nat} (gP gX N cP np cX sb m b12 i k q q0 : Nat) (Q : Exit → Act → World → Prop) (df : List Deferred) (w0 : World)
    (hq : q < m) (hm : m ≤ 4000) (h0 : w0.cell? ⟨b12, 0, none⟩ = some (.int .i64 0)) (h1 : w0.cell? ⟨b12, 1, none⟩ = some (.int .i64 (q : Nat))) (h2 : w0.cell? ⟨sb, q, none⟩ = some (.bool false)) (hi : i < N) (hN : N ≤ 4000) (hk : k + 1 < np) (hnp : np ≤ 4000) (h3 : w0.cell? ⟨gP, i * 2 + 1, none⟩ = some (.slice (some ⟨gX, 0, none⟩) np cX)) (h4 : w0.cell? ⟨gX, k * 2 + 1, none⟩ = some (.int .i64 (q0 : Nat))) (hq0 : q0 < q)
    (x : Act) (w : World) (hB : Below w0.heap.size w0 w) (hdef : x.defers = df) (u7 : x.tmps.getD 7 undef = .slice (some ⟨gP, 0, none⟩) N cP) (u9 : x.tmps.getD 9 undef = .slice (some ⟨sb, 0, none⟩) m m) (u10 : x.tmps.getD 10 undef = .int .i64 (i : Nat)) (u11 : x.tmps.getD 11 undef = .int .i64 ((k : Int) + 1)) (u12 : x.tmps.getD 12 undef = .pointer (some ⟨b12, 0, none⟩))
    (p22 : gpbL_val gP gX N cP np cX sb m b12 i k q q0 22 (x.tmps.getD 120 undef) w)
    (p39 : gpbL_val gP gX N cP np cX sb m b12 i k q q0 39 (x.tmps.getD 137 undef) w)
    : wpOpIn Fc nC Try.prog gpb_ops Q 40 (fun a' w' => ∃ v, a' = x.put (some 138) v ∧ (v = .bool false) ∧ Below w.heap.size w w') x w := by
  have ho : gpb_ops[40]? = some gpb_o40 := rfl
  simp only [Array.getD_eq_getD_getElem?] at u7 u9 u10 u11 u12
  have q22 : x.tmps.getD 120 undef = .bool false := p22
  have q39 : x.tmps.getD 137 undef = .bool false := p39
  simp only [Array.getD_eq_getD_getElem?] at q22 q39
  refine wpOpIn_plain ho rfl (oper_inK hF.fn (fun K hK => ?_))
  clear ho
  rw [Oper.semAt_plain Fc _ _ (by intro c h; cases h)]
  simp only [gpb_o40]
  go_simp
  exact hK _ _ ⟨_, act_putD x hdef _ _, rfl, Below.refl _ _⟩

set_option maxRecDepth 100000 in
set_option maxHeartbeats 4000000 in
theorem gpbL {Fc : Fence} (hF : Wide Fc) {nC : Nat} (gP gX N cP np cX sb m b12 i k q q0 : Nat) (Q : Exit → Act → World → Prop) (t0 : Array Value) (df : List Deferred) (w0 : World) (ht : t0.size = 201)
    (hs7 : t0.getD 7 undef = .slice (some ⟨gP, 0, none⟩) N cP) (hs9 : t0.getD 9 undef = .slice (some ⟨sb, 0, none⟩) m m) (hs10 : t0.getD 10 undef = .int .i64 (i : Nat)) (hs11 : t0.getD 11 undef = .int .i64 ((k : Int) + 1)) (hs12 : t0.getD 12 undef = .pointer (some ⟨b12, 0, none⟩))
    (hq : q < m) (hm : m ≤ 4000) (h0 : w0.cell? ⟨b12, 0, none⟩ = some (.int .i64 0)) (h1 : w0.cell? ⟨b12, 1, none⟩ = some (.int .i64 (q : Nat))) (h2 : w0.cell? ⟨sb, q, none⟩ = some (.bool false)) (hi : i < N) (hN : N ≤ 4000) (hk : k + 1 < np) (hnp : np ≤ 4000) (h3 : w0.cell? ⟨gP, i * 2 + 1, none⟩ = some (.slice (some ⟨gX, 0, none⟩) np cX)) (h4 : w0.cell? ⟨gX, k * 2 + 1, none⟩ = some (.int .i64 (q0 : Nat))) (hq0 : q0 < q)
    (hQ : ∀ (vs : Nat → Value) (w : World), Below w0.heap.size w0 w → (vs 138 = .bool false) → Q .normal { tmps := [98, 99, 100, 101, 102, 103, 104, 105, 106, 107, 108, 109, 110, 111, 112, 113, 114, 115, 116, 117, 118, 119, 120, 121, 122, 123, 124, 125, 126, 127, 128, 129, 130, 131, 132, 133, 134, 135, 136, 137, 138].foldl (fun y d => y.setIfInBounds d (vs d)) t0, defers := df } w) :
    (Code.region 16 gpb_ops true).wpIn Fc nC Try.prog Q { tmps := t0, defers := df } w0 := by
  refine wpIn_region_tail 41 (by decide) (by kernel_rfl) (fun a b => Below a.heap.size a b) (gpbL_val gP gX N cP np cX sb m b12 i k q q0) t0 df w0 (by rw [ht]; kernel_rfl) (by kernel_rfl) (by kernel_rfl) (by kernel_rfl) ((Below.refl _ _).drew) (fun _ _ _ h k => h.trans (k.mono h.size)) (gpbL_below gP gX N cP np cX sb m b12 i k q q0) ?_ ?_
  · intro j o ho hj x w hB hdef hsz hs hdeps
    have hs' : ∀ s, ¬ gpb_mem s → x.tmps.getD s undef = t0.getD s undef := fun s hn => hs s (fun j hj e => hn (by rw [e]; exact gpb_slots j hj))
    have u7 := (hs' 7 (by decide)).trans hs7
    have u9 := (hs' 9 (by decide)).trans hs9
    have u10 := (hs' 10 (by decide)).trans hs10
    have u11 := (hs' 11 (by decide)).trans hs11
    have u12 := (hs' 12 (by decide)).trans hs12
    match j, ho, hj with
    | 0, ho, _ =>
      have e : o = gpb_o0 := (Option.some.inj ho).symm
      subst e
      exact gpbL_s0 hF gP gX N cP np cX sb m b12 i k q q0 Q df w0 hq hm h0 h1 h2 hi hN hk hnp h3 h4 hq0 x w hB hdef u7 u9 u10 u11 u12 
    | 1, ho, _ =>
      have e : o = gpb_o1 := (Option.some.inj ho).symm
      subst e
      exact gpbL_s1 hF gP gX N cP np cX sb m b12 i k q q0 Q df w0 hq hm h0 h1 h2 hi hN hk hnp h3 h4 hq0 x w hB hdef u7 u9 u10 u11 u12 (hdeps { on := 0, ground := Ground.data } (by simp) rfl)
    | 2, ho, _ =>
      have e : o = gpb_o2 := (Option.some.inj ho).symm
      subst e
      exact gpbL_s2 hF gP gX N cP np cX sb m b12 i k q q0 Q df w0 hq hm h0 h1 h2 hi hN hk hnp h3 h4 hq0 x w hB hdef u7 u9 u10 u11 u12 (hdeps { on := 1, ground := Ground.data } (by simp) rfl)
    | 3, ho, _ =>
      have e : o = gpb_o3 := (Option.some.inj ho).symm
      subst e
      exact gpbL_s3 hF gP gX N cP np cX sb m b12 i k q q0 Q df w0 hq hm h0 h1 h2 hi hN hk hnp h3 h4 hq0 x w hB hdef u7 u9 u10 u11 u12 (hdeps { on := 2, ground := Ground.data } (by simp) rfl)
    | 4, ho, _ =>
      have e : o = gpb_o4 := (Option.some.inj ho).symm
      subst e
      exact gpbL_s4 hF gP gX N cP np cX sb m b12 i k q q0 Q df w0 hq hm h0 h1 h2 hi hN hk hnp h3 h4 hq0 x w hB hdef u7 u9 u10 u11 u12 (hdeps { on := 3, ground := Ground.guard } (by simp) rfl)
    | 5, ho, _ =>
      have e : o = gpb_o5 := (Option.some.inj ho).symm
      subst e
      exact gpbL_s5 hF gP gX N cP np cX sb m b12 i k q q0 Q df w0 hq hm h0 h1 h2 hi hN hk hnp h3 h4 hq0 x w hB hdef u7 u9 u10 u11 u12 (hdeps { on := 4, ground := Ground.data } (by simp) rfl) (hdeps { on := 3, ground := Ground.guard } (by simp) rfl)
    | 6, ho, _ =>
      have e : o = gpb_o6 := (Option.some.inj ho).symm
      subst e
      exact gpbL_s6 hF gP gX N cP np cX sb m b12 i k q q0 Q df w0 hq hm h0 h1 h2 hi hN hk hnp h3 h4 hq0 x w hB hdef u7 u9 u10 u11 u12 (hdeps { on := 5, ground := Ground.data } (by simp) rfl) (hdeps { on := 3, ground := Ground.guard } (by simp) rfl)
    | 7, ho, _ =>
      have e : o = gpb_o7 := (Option.some.inj ho).symm
      subst e
      exact gpbL_s7 hF gP gX N cP np cX sb m b12 i k q q0 Q df w0 hq hm h0 h1 h2 hi hN hk hnp h3 h4 hq0 x w hB hdef u7 u9 u10 u11 u12 (hdeps { on := 3, ground := Ground.data } (by simp) rfl) (hdeps { on := 6, ground := Ground.data } (by simp) rfl)
    | 8, ho, _ =>
      have e : o = gpb_o8 := (Option.some.inj ho).symm
      subst e
      exact gpbL_s8 hF gP gX N cP np cX sb m b12 i k q q0 Q df w0 hq hm h0 h1 h2 hi hN hk hnp h3 h4 hq0 x w hB hdef u7 u9 u10 u11 u12 (hdeps { on := 7, ground := Ground.data } (by simp) rfl)
    | 9, ho, _ =>
      have e : o = gpb_o9 := (Option.some.inj ho).symm
      subst e
      exact gpbL_s9 hF gP gX N cP np cX sb m b12 i k q q0 Q df w0 hq hm h0 h1 h2 hi hN hk hnp h3 h4 hq0 x w hB hdef u7 u9 u10 u11 u12 (hdeps { on := 8, ground := Ground.guard } (by simp) rfl)
    | 10, ho, _ =>
      have e : o = gpb_o10 := (Option.some.inj ho).symm
      subst e
      exact gpbL_s10 hF gP gX N cP np cX sb m b12 i k q q0 Q df w0 hq hm h0 h1 h2 hi hN hk hnp h3 h4 hq0 x w hB hdef u7 u9 u10 u11 u12 (hdeps { on := 9, ground := Ground.data } (by simp) rfl) (hdeps { on := 8, ground := Ground.guard } (by simp) rfl)
    | 11, ho, _ =>
      have e : o = gpb_o11 := (Option.some.inj ho).symm
      subst e
      exact gpbL_s11 hF gP gX N cP np cX sb m b12 i k q q0 Q df w0 hq hm h0 h1 h2 hi hN hk hnp h3 h4 hq0 x w hB hdef u7 u9 u10 u11 u12 (hdeps { on := 8, ground := Ground.guard } (by simp) rfl)
    | 12, ho, _ =>
      have e : o = gpb_o12 := (Option.some.inj ho).symm
      subst e
      exact gpbL_s12 hF gP gX N cP np cX sb m b12 i k q q0 Q df w0 hq hm h0 h1 h2 hi hN hk hnp h3 h4 hq0 x w hB hdef u7 u9 u10 u11 u12 (hdeps { on := 11, ground := Ground.data } (by simp) rfl) (hdeps { on := 8, ground := Ground.guard } (by simp) rfl)
    | 13, ho, _ =>
      have e : o = gpb_o13 := (Option.some.inj ho).symm
      subst e
      exact gpbL_s13 hF gP gX N cP np cX sb m b12 i k q q0 Q df w0 hq hm h0 h1 h2 hi hN hk hnp h3 h4 hq0 x w hB hdef u7 u9 u10 u11 u12 (hdeps { on := 10, ground := Ground.data } (by simp) rfl) (hdeps { on := 12, ground := Ground.data } (by simp) rfl) (hdeps { on := 8, ground := Ground.guard } (by simp) rfl)
    | 14, ho, _ =>
      have e : o = gpb_o14 := (Option.some.inj ho).symm
      subst e
      exact gpbL_s14 hF gP gX N cP np cX sb m b12 i k q q0 Q df w0 hq hm h0 h1 h2 hi hN hk hnp h3 h4 hq0 x w hB hdef u7 u9 u10 u11 u12 (hdeps { on := 8, ground := Ground.data } (by simp) rfl) (hdeps { on := 13, ground := Ground.data } (by simp) rfl)
    | 15, ho, _ =>
      have e : o = gpb_o15 := (Option.some.inj ho).symm
      subst e
      exact gpbL_s15 hF gP gX N cP np cX sb m b12 i k q q0 Q df w0 hq hm h0 h1 h2 hi hN hk hnp h3 h4 hq0 x w hB hdef u7 u9 u10 u11 u12 (hdeps { on := 14, ground := Ground.data } (by simp) rfl)
    | 16, ho, _ =>
      have e : o = gpb_o16 := (Option.some.inj ho).symm
      subst e
      exact gpbL_s16 hF gP gX N cP np cX sb m b12 i k q q0 Q df w0 hq hm h0 h1 h2 hi hN hk hnp h3 h4 hq0 x w hB hdef u7 u9 u10 u11 u12 (hdeps { on := 15, ground := Ground.guard } (by simp) rfl)
    | 17, ho, _ =>
      have e : o = gpb_o17 := (Option.some.inj ho).symm
      subst e
      exact gpbL_s17 hF gP gX N cP np cX sb m b12 i k q q0 Q df w0 hq hm h0 h1 h2 hi hN hk hnp h3 h4 hq0 x w hB hdef u7 u9 u10 u11 u12 (hdeps { on := 15, ground := Ground.guard } (by simp) rfl)
    | 18, ho, _ =>
      have e : o = gpb_o18 := (Option.some.inj ho).symm
      subst e
      exact gpbL_s18 hF gP gX N cP np cX sb m b12 i k q q0 Q df w0 hq hm h0 h1 h2 hi hN hk hnp h3 h4 hq0 x w hB hdef u7 u9 u10 u11 u12 (hdeps { on := 17, ground := Ground.data } (by simp) rfl) (hdeps { on := 15, ground := Ground.guard } (by simp) rfl)
    | 19, ho, _ =>
      have e : o = gpb_o19 := (Option.some.inj ho).symm
      subst e
      exact gpbL_s19 hF gP gX N cP np cX sb m b12 i k q q0 Q df w0 hq hm h0 h1 h2 hi hN hk hnp h3 h4 hq0 x w hB hdef u7 u9 u10 u11 u12 (hdeps { on := 16, ground := Ground.data } (by simp) rfl) (hdeps { on := 18, ground := Ground.data } (by simp) rfl) (hdeps { on := 15, ground := Ground.guard } (by simp) rfl)
    | 20, ho, _ =>
      have e : o = gpb_o20 := (Option.some.inj ho).symm
      subst e
      exact gpbL_s20 hF gP gX N cP np cX sb m b12 i k q q0 Q df w0 hq hm h0 h1 h2 hi hN hk hnp h3 h4 hq0 x w hB hdef u7 u9 u10 u11 u12 (hdeps { on := 19, ground := Ground.data } (by simp) rfl) (hdeps { on := 15, ground := Ground.guard } (by simp) rfl)
    | 21, ho, _ =>
      have e : o = gpb_o21 := (Option.some.inj ho).symm
      subst e
      exact gpbL_s21 hF gP gX N cP np cX sb m b12 i k q q0 Q df w0 hq hm h0 h1 h2 hi hN hk hnp h3 h4 hq0 x w hB hdef u7 u9 u10 u11 u12 (hdeps { on := 15, ground := Ground.data } (by simp) rfl) (hdeps { on := 20, ground := Ground.data } (by simp) rfl)
    | 22, ho, _ =>
      have e : o = gpb_o22 := (Option.some.inj ho).symm
      subst e
      exact gpbL_s22 hF gP gX N cP np cX sb m b12 i k q q0 Q df w0 hq hm h0 h1 h2 hi hN hk hnp h3 h4 hq0 x w hB hdef u7 u9 u10 u11 u12 (hdeps { on := 21, ground := Ground.data } (by simp) rfl)
    | 23, ho, _ =>
      have e : o = gpb_o23 := (Option.some.inj ho).symm
      subst e
      exact gpbL_s23 hF gP gX N cP np cX sb m b12 i k q q0 Q df w0 hq hm h0 h1 h2 hi hN hk hnp h3 h4 hq0 x w hB hdef u7 u9 u10 u11 u12 (hdeps { on := 22, ground := Ground.guard } (by simp) rfl)
    | 24, ho, _ =>
      have e : o = gpb_o24 := (Option.some.inj ho).symm
      subst e
      exact gpbL_s24 hF gP gX N cP np cX sb m b12 i k q q0 Q df w0 hq hm h0 h1 h2 hi hN hk hnp h3 h4 hq0 x w hB hdef u7 u9 u10 u11 u12 (hdeps { on := 23, ground := Ground.data } (by simp) rfl) (hdeps { on := 22, ground := Ground.guard } (by simp) rfl)
    | 25, ho, _ =>
      have e : o = gpb_o25 := (Option.some.inj ho).symm
      subst e
      exact gpbL_s25 hF gP gX N cP np cX sb m b12 i k q q0 Q df w0 hq hm h0 h1 h2 hi hN hk hnp h3 h4 hq0 x w hB hdef u7 u9 u10 u11 u12 (hdeps { on := 24, ground := Ground.data } (by simp) rfl) (hdeps { on := 22, ground := Ground.guard } (by simp) rfl)
    | 26, ho, _ =>
      have e : o = gpb_o26 := (Option.some.inj ho).symm
      subst e
      exact gpbL_s26 hF gP gX N cP np cX sb m b12 i k q q0 Q df w0 hq hm h0 h1 h2 hi hN hk hnp h3 h4 hq0 x w hB hdef u7 u9 u10 u11 u12 (hdeps { on := 25, ground := Ground.guard } (by simp) rfl)
    | 27, ho, _ =>
      have e : o = gpb_o27 := (Option.some.inj ho).symm
      subst e
      exact gpbL_s27 hF gP gX N cP np cX sb m b12 i k q q0 Q df w0 hq hm h0 h1 h2 hi hN hk hnp h3 h4 hq0 x w hB hdef u7 u9 u10 u11 u12 (hdeps { on := 25, ground := Ground.guard } (by simp) rfl)
    | 28, ho, _ =>
      have e : o = gpb_o28 := (Option.some.inj ho).symm
      subst e
      exact gpbL_s28 hF gP gX N cP np cX sb m b12 i k q q0 Q df w0 hq hm h0 h1 h2 hi hN hk hnp h3 h4 hq0 x w hB hdef u7 u9 u10 u11 u12 (hdeps { on := 26, ground := Ground.data } (by simp) rfl) (hdeps { on := 27, ground := Ground.data } (by simp) rfl) (hdeps { on := 25, ground := Ground.guard } (by simp) rfl)
    | 29, ho, _ =>
      have e : o = gpb_o29 := (Option.some.inj ho).symm
      subst e
      exact gpbL_s29 hF gP gX N cP np cX sb m b12 i k q q0 Q df w0 hq hm h0 h1 h2 hi hN hk hnp h3 h4 hq0 x w hB hdef u7 u9 u10 u11 u12 (hdeps { on := 28, ground := Ground.data } (by simp) rfl) (hdeps { on := 25, ground := Ground.guard } (by simp) rfl)
    | 30, ho, _ =>
      have e : o = gpb_o30 := (Option.some.inj ho).symm
      subst e
      exact gpbL_s30 hF gP gX N cP np cX sb m b12 i k q q0 Q df w0 hq hm h0 h1 h2 hi hN hk hnp h3 h4 hq0 x w hB hdef u7 u9 u10 u11 u12 (hdeps { on := 29, ground := Ground.data } (by simp) rfl) (hdeps { on := 25, ground := Ground.guard } (by simp) rfl)
    | 31, ho, _ =>
      have e : o = gpb_o31 := (Option.some.inj ho).symm
      subst e
      exact gpbL_s31 hF gP gX N cP np cX sb m b12 i k q q0 Q df w0 hq hm h0 h1 h2 hi hN hk hnp h3 h4 hq0 x w hB hdef u7 u9 u10 u11 u12 (hdeps { on := 25, ground := Ground.guard } (by simp) rfl)
    | 32, ho, _ =>
      have e : o = gpb_o32 := (Option.some.inj ho).symm
      subst e
      exact gpbL_s32 hF gP gX N cP np cX sb m b12 i k q q0 Q df w0 hq hm h0 h1 h2 hi hN hk hnp h3 h4 hq0 x w hB hdef u7 u9 u10 u11 u12 (hdeps { on := 31, ground := Ground.data } (by simp) rfl) (hdeps { on := 25, ground := Ground.guard } (by simp) rfl)
    | 33, ho, _ =>
      have e : o = gpb_o33 := (Option.some.inj ho).symm
      subst e
      exact gpbL_s33 hF gP gX N cP np cX sb m b12 i k q q0 Q df w0 hq hm h0 h1 h2 hi hN hk hnp h3 h4 hq0 x w hB hdef u7 u9 u10 u11 u12 (hdeps { on := 30, ground := Ground.data } (by simp) rfl) (hdeps { on := 32, ground := Ground.data } (by simp) rfl) (hdeps { on := 25, ground := Ground.guard } (by simp) rfl)
    | 34, ho, _ =>
      have e : o = gpb_o34 := (Option.some.inj ho).symm
      subst e
      exact gpbL_s34 hF gP gX N cP np cX sb m b12 i k q q0 Q df w0 hq hm h0 h1 h2 hi hN hk hnp h3 h4 hq0 x w hB hdef u7 u9 u10 u11 u12 (hdeps { on := 33, ground := Ground.data } (by simp) rfl) (hdeps { on := 25, ground := Ground.guard } (by simp) rfl)
    | 35, ho, _ =>
      have e : o = gpb_o35 := (Option.some.inj ho).symm
      subst e
      exact gpbL_s35 hF gP gX N cP np cX sb m b12 i k q q0 Q df w0 hq hm h0 h1 h2 hi hN hk hnp h3 h4 hq0 x w hB hdef u7 u9 u10 u11 u12 (hdeps { on := 34, ground := Ground.data } (by simp) rfl) (hdeps { on := 25, ground := Ground.guard } (by simp) rfl)
    | 36, ho, _ =>
      have e : o = gpb_o36 := (Option.some.inj ho).symm
      subst e
      exact gpbL_s36 hF gP gX N cP np cX sb m b12 i k q q0 Q df w0 hq hm h0 h1 h2 hi hN hk hnp h3 h4 hq0 x w hB hdef u7 u9 u10 u11 u12 (hdeps { on := 25, ground := Ground.guard } (by simp) rfl)
    | 37, ho, _ =>
      have e : o = gpb_o37 := (Option.some.inj ho).symm
      subst e
      exact gpbL_s37 hF gP gX N cP np cX sb m b12 i k q q0 Q df w0 hq hm h0 h1 h2 hi hN hk hnp h3 h4 hq0 x w hB hdef u7 u9 u10 u11 u12 (hdeps { on := 36, ground := Ground.data } (by simp) rfl) (hdeps { on := 25, ground := Ground.guard } (by simp) rfl)
    | 38, ho, _ =>
      have e : o = gpb_o38 := (Option.some.inj ho).symm
      subst e
      exact gpbL_s38 hF gP gX N cP np cX sb m b12 i k q q0 Q df w0 hq hm h0 h1 h2 hi hN hk hnp h3 h4 hq0 x w hB hdef u7 u9 u10 u11 u12 (hdeps { on := 35, ground := Ground.data } (by simp) rfl) (hdeps { on := 37, ground := Ground.data } (by simp) rfl) (hdeps { on := 25, ground := Ground.guard } (by simp) rfl)
    | 39, ho, _ =>
      have e : o = gpb_o39 := (Option.some.inj ho).symm
      subst e
      exact gpbL_s39 hF gP gX N cP np cX sb m b12 i k q q0 Q df w0 hq hm h0 h1 h2 hi hN hk hnp h3 h4 hq0 x w hB hdef u7 u9 u10 u11 u12 (hdeps { on := 25, ground := Ground.data } (by simp) rfl) (hdeps { on := 38, ground := Ground.data } (by simp) rfl) (hdeps { on := 22, ground := Ground.guard } (by simp) rfl)
    | 40, ho, _ =>
      have e : o = gpb_o40 := (Option.some.inj ho).symm
      subst e
      exact gpbL_s40 hF gP gX N cP np cX sb m b12 i k q q0 Q df w0 hq hm h0 h1 h2 hi hN hk hnp h3 h4 hq0 x w hB hdef u7 u9 u10 u11 u12 (hdeps { on := 22, ground := Ground.data } (by simp) rfl) (hdeps { on := 39, ground := Ground.data } (by simp) rfl)
    | k + 41, _, hj => omega
  · intro x w hB hdef hsz hs hv
    have hx := frame_sets x.tmps t0 hsz [98, 99, 100, 101, 102, 103, 104, 105, 106, 107, 108, 109, 110, 111, 112, 113, 114, 115, 116, 117, 118, 119, 120, 121, 122, 123, 124, 125, 126, 127, 128, 129, 130, 131, 132, 133, 134, 135, 136, 137, 138] (fun s hn => hs s (fun j hj e => hn (by rw [e]; exact gpb_slots j hj)))
    have hq := hQ (fun d => x.tmps.getD d undef) w hB (hv 40 (by decide))
    obtain ⟨T, Df⟩ := x
    dsimp only at hx hdef hq
    subst hdef
    rw [← hx] at hq
    exact hq

end Go.Proofs.Ytpdlapnliiengaa
