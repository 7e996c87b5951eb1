/-
  SetAlgebra's regions (written by tools/gen-salg.py).
-/
import Derived.Test.YtmnjicpgdhnimaaDoorSOne
import Derived.Test.YtmnjicpgdhnimaaDoorSAlgR
namespace Go.Proofs.YtmnjicpgdhnimaaDoor
open Go.RowKit Go.Shelf
set_option linter.unusedVariables false
set_option linter.unusedSimpArgs false

abbrev salg10_o0 : Oper := { dst := some 78, op := Op.load 24 (Operand.tmp 7), type := 24, pos := "outright.go:22", after := #[], guard := none }
abbrev salg10_o1 : Oper := { dst := some 79, op := Op.call { callee := Callee.value (Operand.func 22), args := #[Operand.tmp 78], argTypes := #[24] }, type := 24, pos := "outright.go:22", after := #[{ on := 0, ground := Ground.data }], guard := none }
abbrev salg10_o2 : Oper := { dst := some 80, op := Op.load 24 (Operand.tmp 3), type := 24, pos := "outright.go:22", after := #[], guard := none }
abbrev salg10_o3 : Oper := { dst := some 81, op := Op.call { callee := Callee.value (Operand.func 22), args := #[Operand.tmp 80], argTypes := #[24] }, type := 24, pos := "outright.go:22", after := #[{ on := 2, ground := Ground.data }, { on := 1, ground := Ground.chain }], guard := none }
abbrev salg10_o4 : Oper := { dst := some 82, op := Op.load 24 (Operand.tmp 4), type := 24, pos := "outright.go:22", after := #[], guard := none }
abbrev salg10_o5 : Oper := { dst := some 83, op := Op.call { callee := Callee.value (Operand.func 22), args := #[Operand.tmp 82], argTypes := #[24] }, type := 24, pos := "outright.go:22", after := #[{ on := 4, ground := Ground.data }, { on := 3, ground := Ground.chain }], guard := none }
abbrev salg10_o6 : Oper := { dst := some 84, op := Op.load 24 (Operand.tmp 5), type := 24, pos := "outright.go:22", after := #[], guard := none }
abbrev salg10_o7 : Oper := { dst := some 85, op := Op.call { callee := Callee.value (Operand.func 22), args := #[Operand.tmp 84], argTypes := #[24] }, type := 24, pos := "outright.go:22", after := #[{ on := 6, ground := Ground.data }, { on := 5, ground := Ground.chain }], guard := none }
abbrev salg10_o8 : Oper := { dst := some 86, op := Op.buildSlice 31 3 #[(0, Operand.tmp 81), (1, Operand.tmp 83), (2, Operand.tmp 85)], type := 31, pos := "outright.go:22", after := #[{ on := 3, ground := Ground.data }, { on := 5, ground := Ground.data }, { on := 7, ground := Ground.data }], guard := none }
abbrev salg10_o9 : Oper := { dst := some 87, op := Op.call { callee := Callee.value (Operand.func 19), args := #[Operand.tmp 86], argTypes := #[31] }, type := 24, pos := "outright.go:22", after := #[{ on := 8, ground := Ground.data }, { on := 7, ground := Ground.chain }], guard := none }
abbrev salg10_o10 : Oper := { dst := some 88, op := Op.binOp BinOp.neq 24 (Operand.tmp 79) (Operand.tmp 87) 24, type := 4, pos := "outright.go:22", after := #[{ on := 1, ground := Ground.data }, { on := 9, ground := Ground.data }], guard := none }
abbrev salg10_o11 : Oper := { dst := some 89, op := Op.move (Operand.tmp 88), type := 4, pos := "outright.go:22", after := #[{ on := 10, ground := Ground.data }, { on := 9, ground := Ground.chain }], guard := none }
abbrev salg10_o12 : Oper := { dst := some 90, op := Op.load 24 (Operand.tmp 8), type := 24, pos := "outright.go:22", after := #[{ on := 11, ground := Ground.guard }], guard := some (11, false) }
abbrev salg10_o13 : Oper := { dst := some 91, op := Op.call { callee := Callee.value (Operand.func 22), args := #[Operand.tmp 90], argTypes := #[24] }, type := 24, pos := "outright.go:22", after := #[{ on := 12, ground := Ground.data }, { on := 11, ground := Ground.chain }, { on := 11, ground := Ground.guard }], guard := some (11, false) }
abbrev salg10_o14 : Oper := { dst := some 92, op := Op.load 24 (Operand.tmp 3), type := 24, pos := "outright.go:22", after := #[{ on := 11, ground := Ground.guard }], guard := some (11, false) }
abbrev salg10_o15 : Oper := { dst := some 93, op := Op.call { callee := Callee.value (Operand.func 22), args := #[Operand.tmp 92], argTypes := #[24] }, type := 24, pos := "outright.go:22", after := #[{ on := 14, ground := Ground.data }, { on := 13, ground := Ground.chain }, { on := 11, ground := Ground.guard }], guard := some (11, false) }
abbrev salg10_o16 : Oper := { dst := some 94, op := Op.load 24 (Operand.tmp 4), type := 24, pos := "outright.go:22", after := #[{ on := 11, ground := Ground.guard }], guard := some (11, false) }
abbrev salg10_o17 : Oper := { dst := some 95, op := Op.call { callee := Callee.value (Operand.func 22), args := #[Operand.tmp 94], argTypes := #[24] }, type := 24, pos := "outright.go:22", after := #[{ on := 16, ground := Ground.data }, { on := 15, ground := Ground.chain }, { on := 11, ground := Ground.guard }], guard := some (11, false) }
abbrev salg10_o18 : Oper := { dst := some 96, op := Op.load 24 (Operand.tmp 5), type := 24, pos := "outright.go:22", after := #[{ on := 11, ground := Ground.guard }], guard := some (11, false) }
abbrev salg10_o19 : Oper := { dst := some 97, op := Op.call { callee := Callee.value (Operand.func 22), args := #[Operand.tmp 96], argTypes := #[24] }, type := 24, pos := "outright.go:22", after := #[{ on := 18, ground := Ground.data }, { on := 17, ground := Ground.chain }, { on := 11, ground := Ground.guard }], guard := some (11, false) }
abbrev salg10_o20 : Oper := { dst := some 98, op := Op.buildSlice 31 3 #[(0, Operand.tmp 93), (1, Operand.tmp 95), (2, Operand.tmp 97)], type := 31, pos := "outright.go:22", after := #[{ on := 15, ground := Ground.data }, { on := 17, ground := Ground.data }, { on := 19, ground := Ground.data }, { on := 11, ground := Ground.guard }], guard := some (11, false) }
abbrev salg10_o21 : Oper := { dst := some 99, op := Op.call { callee := Callee.value (Operand.func 17), args := #[Operand.tmp 98], argTypes := #[31] }, type := 24, pos := "outright.go:22", after := #[{ on := 20, ground := Ground.data }, { on := 19, ground := Ground.chain }, { on := 11, ground := Ground.guard }], guard := some (11, false) }
abbrev salg10_o22 : Oper := { dst := some 100, op := Op.binOp BinOp.neq 24 (Operand.tmp 91) (Operand.tmp 99) 24, type := 4, pos := "outright.go:22", after := #[{ on := 13, ground := Ground.data }, { on := 21, ground := Ground.data }, { on := 11, ground := Ground.guard }], guard := some (11, false) }
abbrev salg10_o23 : Oper := { dst := some 101, op := Op.pick (Operand.tmp 89) (Operand.const (Value.bool true)) (Operand.tmp 100), type := 4, pos := "outright.go:22", after := #[{ on := 11, ground := Ground.data }, { on := 22, ground := Ground.data }], guard := none }
abbrev salg10_o24 : Oper := { dst := some 102, op := Op.move (Operand.tmp 101), type := 4, pos := "outright.go:22", after := #[{ on := 23, ground := Ground.data }, { on := 21, ground := Ground.chain }], guard := none }
abbrev salg10_o25 : Oper := { dst := some 103, op := Op.load 24 (Operand.tmp 9), type := 24, pos := "outright.go:22", after := #[{ on := 24, ground := Ground.guard }], guard := some (24, false) }
abbrev salg10_o26 : Oper := { dst := some 104, op := Op.call { callee := Callee.value (Operand.func 22), args := #[Operand.tmp 103], argTypes := #[24] }, type := 24, pos := "outright.go:22", after := #[{ on := 25, ground := Ground.data }, { on := 24, ground := Ground.chain }, { on := 24, ground := Ground.guard }], guard := some (24, false) }
abbrev salg10_o27 : Oper := { dst := some 105, op := Op.load 24 (Operand.tmp 3), type := 24, pos := "outright.go:22", after := #[{ on := 24, ground := Ground.guard }], guard := some (24, false) }
abbrev salg10_o28 : Oper := { dst := some 106, op := Op.binOp BinOp.neq 24 (Operand.tmp 104) (Operand.tmp 105) 24, type := 4, pos := "outright.go:22", after := #[{ on := 26, ground := Ground.data }, { on := 27, ground := Ground.data }, { on := 24, ground := Ground.guard }], guard := some (24, false) }
abbrev salg10_o29 : Oper := { dst := some 107, op := Op.pick (Operand.tmp 102) (Operand.const (Value.bool true)) (Operand.tmp 106), type := 4, pos := "outright.go:22", after := #[{ on := 24, ground := Ground.data }, { on := 28, ground := Ground.data }], guard := none }
def salg10_ops : Array Oper := #[salg10_o0, salg10_o1, salg10_o2, salg10_o3, salg10_o4, salg10_o5, salg10_o6, salg10_o7, salg10_o8, salg10_o9, salg10_o10, salg10_o11, salg10_o12, salg10_o13, salg10_o14, salg10_o15, salg10_o16, salg10_o17, salg10_o18, salg10_o19, salg10_o20, salg10_o21, salg10_o22, salg10_o23, salg10_o24, salg10_o25, salg10_o26, salg10_o27, salg10_o28, salg10_o29]
abbrev salg10_mem (s : Nat) : Prop := s ∈ [78, 79, 80, 81, 82, 83, 84, 85, 86, 87, 88, 89, 90, 91, 92, 93, 94, 95, 96, 97, 98, 99, 100, 101, 102, 103, 104, 105, 106, 107]
set_option maxRecDepth 100000 in
theorem salg10_slots : ∀ j, j < 30 → salg10_mem (slotOf salg10_ops j) := by
  intro j hj
  match j, hj with
  | 0, _ => exact (by decide : salg10_mem 78)
  | 1, _ => exact (by decide : salg10_mem 79)
  | 2, _ => exact (by decide : salg10_mem 80)
  | 3, _ => exact (by decide : salg10_mem 81)
  | 4, _ => exact (by decide : salg10_mem 82)
  | 5, _ => exact (by decide : salg10_mem 83)
  | 6, _ => exact (by decide : salg10_mem 84)
  | 7, _ => exact (by decide : salg10_mem 85)
  | 8, _ => exact (by decide : salg10_mem 86)
  | 9, _ => exact (by decide : salg10_mem 87)
  | 10, _ => exact (by decide : salg10_mem 88)
  | 11, _ => exact (by decide : salg10_mem 89)
  | 12, _ => exact (by decide : salg10_mem 90)
  | 13, _ => exact (by decide : salg10_mem 91)
  | 14, _ => exact (by decide : salg10_mem 92)
  | 15, _ => exact (by decide : salg10_mem 93)
  | 16, _ => exact (by decide : salg10_mem 94)
  | 17, _ => exact (by decide : salg10_mem 95)
  | 18, _ => exact (by decide : salg10_mem 96)
  | 19, _ => exact (by decide : salg10_mem 97)
  | 20, _ => exact (by decide : salg10_mem 98)
  | 21, _ => exact (by decide : salg10_mem 99)
  | 22, _ => exact (by decide : salg10_mem 100)
  | 23, _ => exact (by decide : salg10_mem 101)
  | 24, _ => exact (by decide : salg10_mem 102)
  | 25, _ => exact (by decide : salg10_mem 103)
  | 26, _ => exact (by decide : salg10_mem 104)
  | 27, _ => exact (by decide : salg10_mem 105)
  | 28, _ => exact (by decide : salg10_mem 106)
  | 29, _ => exact (by decide : salg10_mem 107)
  | k + 30, hj => omega
def salg10_val (b3 b4 b5 b7 b8 b9 : Nat) (A B C : Nat → Bool) : Nat → Value → World → Prop
  | 0, v, w => v = sv (UN A B C)
  | 1, v, w => v = sv (NO (UN A B C))
  | 2, v, w => v = sv A
  | 3, v, w => v = sv (NO A)
  | 4, v, w => v = sv B
  | 5, v, w => v = sv (NO B)
  | 6, v, w => v = sv C
  | 7, v, w => v = sv (NO C)
  | 8, v, w => ∃ g, v = .slice (some ⟨g, 0, none⟩) 3 3 ∧ Sets w (some ⟨g, 0, none⟩) 3 (three (NO A) (NO B) (NO C))
  | 9, v, w => v = sv (allS (three (NO A) (NO B) (NO C)) 3)
  | 10, v, w => v = .bool false
  | 11, v, w => v = .bool false
  | 12, v, w => v = sv (ME A B C)
  | 13, v, w => v = sv (NO (ME A B C))
  | 14, v, w => v = sv A
  | 15, v, w => v = sv (NO A)
  | 16, v, w => v = sv B
  | 17, v, w => v = sv (NO B)
  | 18, v, w => v = sv C
  | 19, v, w => v = sv (NO C)
  | 20, v, w => ∃ g, v = .slice (some ⟨g, 0, none⟩) 3 3 ∧ Sets w (some ⟨g, 0, none⟩) 3 (three (NO A) (NO B) (NO C))
  | 21, v, w => v = sv (anyS (three (NO A) (NO B) (NO C)) 3)
  | 22, v, w => v = .bool false
  | 23, v, w => v = .bool false
  | 24, v, w => v = .bool false
  | 25, v, w => v = sv (NO A)
  | 26, v, w => v = sv (NO (NO A))
  | 27, v, w => v = sv A
  | 28, v, w => v = .bool false
  | 29, v, w => v = .bool false
  | _, _, _ => True
theorem salg10_below (b3 b4 b5 b7 b8 b9 : Nat) (A B C : Nat → Bool) (w w' : World) (hb : Below w.heap.size w w') : ∀ j v, salg10_val b3 b4 b5 b7 b8 b9 A B C j v w → salg10_val b3 b4 b5 b7 b8 b9 A B C j v w' := by
  intro j v h
  match j, h with
  | 0, h => exact h
  | 1, h => exact h
  | 2, h => exact h
  | 3, h => exact h
  | 4, h => exact h
  | 5, h => exact h
  | 6, h => exact h
  | 7, h => exact h
  | 8, h => obtain ⟨g, h1, h2⟩ := h; exact ⟨g, h1, h2.below hb⟩
  | 9, h => exact h
  | 10, h => exact h
  | 11, h => exact h
  | 12, h => exact h
  | 13, h => exact h
  | 14, h => exact h
  | 15, h => exact h
  | 16, h => exact h
  | 17, h => exact h
  | 18, h => exact h
  | 19, h => exact h
  | 20, h => obtain ⟨g, h1, h2⟩ := h; exact ⟨g, h1, h2.below hb⟩
  | 21, h => exact h
  | 22, h => exact h
  | 23, h => exact h
  | 24, h => exact h
  | 25, h => exact h
  | 26, h => exact h
  | 27, h => exact h
  | 28, h => exact h
  | 29, h => exact h
  | _ + 30, h => exact h
set_option maxRecDepth 100000 in
set_option maxHeartbeats 2000000 in
theorem salg10_s0 {F : Fence} (hF : Wide F) {n : Nat} (b3 b4 b5 b7 b8 b9 : Nat) (A B C : Nat → Bool) (Q : Exit → Act → World → Prop) (df : List Deferred) (w0 : World)
    (h3 : SBox w0 b3 A) (h4 : SBox w0 b4 B) (h5 : SBox w0 b5 C) (h7 : SBox w0 b7 (UN A B C)) (h8 : SBox w0 b8 (ME A B C)) (h9 : SBox w0 b9 (NO A)) (hT : Tab w0)
    (x : Act) (w : World) (hB : Below w0.heap.size w0 w) (hdef : x.defers = df) (u3 : x.tmps.getD 3 undef = .pointer (some ⟨b3, 0, none⟩)) (u4 : x.tmps.getD 4 undef = .pointer (some ⟨b4, 0, none⟩)) (u5 : x.tmps.getD 5 undef = .pointer (some ⟨b5, 0, none⟩)) (u7 : x.tmps.getD 7 undef = .pointer (some ⟨b7, 0, none⟩)) (u8 : x.tmps.getD 8 undef = .pointer (some ⟨b8, 0, none⟩)) (u9 : x.tmps.getD 9 undef = .pointer (some ⟨b9, 0, none⟩))
    : wpOpIn F n Tryd.prog salg10_ops Q 0 (fun a' w' => ∃ v, a' = x.put (some 78) v ∧ (v = sv (UN A B C)) ∧ Below w.heap.size w w') x w := by
  have ho : salg10_ops[0]? = some salg10_o0 := rfl
  simp only [Array.getD_eq_getD_getElem?] at u3 u4 u5 u7 u8 u9
  have hsb := h7.below hB h7.lt
  have c0 := hsb.cell 0 (by omega)
  have c1 := hsb.cell 1 (by omega)
  have c2 := hsb.cell 2 (by omega)
  have c3 := hsb.cell 3 (by omega)
  refine wpOpIn_plain ho rfl (oper_inK hF.fn (fun K hK => ?_))
  clear ho
  rw [Oper.semAt_plain F _ _ (by intro c h; cases h)]
  simp only [salg10_o0]
  go_simp
  exact hK _ _ ⟨_, act_putD x hdef _ _, rfl, Below.refl _ _⟩
set_option maxRecDepth 100000 in
set_option maxHeartbeats 2000000 in
theorem salg10_s1 {F : Fence} (hF : Wide F) {n : Nat} (b3 b4 b5 b7 b8 b9 : Nat) (A B C : Nat → Bool) (Q : Exit → Act → World → Prop) (df : List Deferred) (w0 : World)
    (h3 : SBox w0 b3 A) (h4 : SBox w0 b4 B) (h5 : SBox w0 b5 C) (h7 : SBox w0 b7 (UN A B C)) (h8 : SBox w0 b8 (ME A B C)) (h9 : SBox w0 b9 (NO A)) (hT : Tab w0)
    (x : Act) (w : World) (hB : Below w0.heap.size w0 w) (hdef : x.defers = df) (u3 : x.tmps.getD 3 undef = .pointer (some ⟨b3, 0, none⟩)) (u4 : x.tmps.getD 4 undef = .pointer (some ⟨b4, 0, none⟩)) (u5 : x.tmps.getD 5 undef = .pointer (some ⟨b5, 0, none⟩)) (u7 : x.tmps.getD 7 undef = .pointer (some ⟨b7, 0, none⟩)) (u8 : x.tmps.getD 8 undef = .pointer (some ⟨b8, 0, none⟩)) (u9 : x.tmps.getD 9 undef = .pointer (some ⟨b9, 0, none⟩))
    (p0 : salg10_val b3 b4 b5 b7 b8 b9 A B C 0 (x.tmps.getD 78 undef) w)
    : wpOpIn F n Tryd.prog salg10_ops Q 1 (fun a' w' => ∃ v, a' = x.put (some 79) v ∧ (v = sv (NO (UN A B C))) ∧ Below w.heap.size w w') x w := by
  have ho : salg10_ops[1]? = some salg10_o1 := rfl
  simp only [Array.getD_eq_getD_getElem?] at u3 u4 u5 u7 u8 u9
  have q0 : x.tmps.getD 78 undef = sv (UN A B C) := p0
  simp only [Array.getD_eq_getD_getElem?] at q0
  refine wpOpIn_plain ho rfl (oper_inK hF.fn (fun K hK => ?_))
  clear ho
  rw [Oper.semAt_plain F _ _ (by intro c h; cases h)]
  simp only [salg10_o1]
  go_simp
  refine ⟨hF.deep, (hF.call (not_any (UN A B C) w)).mono ?_⟩
  rintro e w' ⟨rfl, hb⟩
  exact hK _ _ ⟨_, act_putD x hdef _ _, rfl, hb⟩
set_option maxRecDepth 100000 in
set_option maxHeartbeats 2000000 in
theorem salg10_s2 {F : Fence} (hF : Wide F) {n : Nat} (b3 b4 b5 b7 b8 b9 : Nat) (A B C : Nat → Bool) (Q : Exit → Act → World → Prop) (df : List Deferred) (w0 : World)
    (h3 : SBox w0 b3 A) (h4 : SBox w0 b4 B) (h5 : SBox w0 b5 C) (h7 : SBox w0 b7 (UN A B C)) (h8 : SBox w0 b8 (ME A B C)) (h9 : SBox w0 b9 (NO A)) (hT : Tab w0)
    (x : Act) (w : World) (hB : Below w0.heap.size w0 w) (hdef : x.defers = df) (u3 : x.tmps.getD 3 undef = .pointer (some ⟨b3, 0, none⟩)) (u4 : x.tmps.getD 4 undef = .pointer (some ⟨b4, 0, none⟩)) (u5 : x.tmps.getD 5 undef = .pointer (some ⟨b5, 0, none⟩)) (u7 : x.tmps.getD 7 undef = .pointer (some ⟨b7, 0, none⟩)) (u8 : x.tmps.getD 8 undef = .pointer (some ⟨b8, 0, none⟩)) (u9 : x.tmps.getD 9 undef = .pointer (some ⟨b9, 0, none⟩))
    : wpOpIn F n Tryd.prog salg10_ops Q 2 (fun a' w' => ∃ v, a' = x.put (some 80) v ∧ (v = sv A) ∧ Below w.heap.size w w') x w := by
  have ho : salg10_ops[2]? = some salg10_o2 := rfl
  simp only [Array.getD_eq_getD_getElem?] at u3 u4 u5 u7 u8 u9
  have hsb := h3.below hB h3.lt
  have c0 := hsb.cell 0 (by omega)
  have c1 := hsb.cell 1 (by omega)
  have c2 := hsb.cell 2 (by omega)
  have c3 := hsb.cell 3 (by omega)
  refine wpOpIn_plain ho rfl (oper_inK hF.fn (fun K hK => ?_))
  clear ho
  rw [Oper.semAt_plain F _ _ (by intro c h; cases h)]
  simp only [salg10_o2]
  go_simp
  exact hK _ _ ⟨_, act_putD x hdef _ _, rfl, Below.refl _ _⟩
set_option maxRecDepth 100000 in
set_option maxHeartbeats 2000000 in
theorem salg10_s3 {F : Fence} (hF : Wide F) {n : Nat} (b3 b4 b5 b7 b8 b9 : Nat) (A B C : Nat → Bool) (Q : Exit → Act → World → Prop) (df : List Deferred) (w0 : World)
    (h3 : SBox w0 b3 A) (h4 : SBox w0 b4 B) (h5 : SBox w0 b5 C) (h7 : SBox w0 b7 (UN A B C)) (h8 : SBox w0 b8 (ME A B C)) (h9 : SBox w0 b9 (NO A)) (hT : Tab w0)
    (x : Act) (w : World) (hB : Below w0.heap.size w0 w) (hdef : x.defers = df) (u3 : x.tmps.getD 3 undef = .pointer (some ⟨b3, 0, none⟩)) (u4 : x.tmps.getD 4 undef = .pointer (some ⟨b4, 0, none⟩)) (u5 : x.tmps.getD 5 undef = .pointer (some ⟨b5, 0, none⟩)) (u7 : x.tmps.getD 7 undef = .pointer (some ⟨b7, 0, none⟩)) (u8 : x.tmps.getD 8 undef = .pointer (some ⟨b8, 0, none⟩)) (u9 : x.tmps.getD 9 undef = .pointer (some ⟨b9, 0, none⟩))
    (p2 : salg10_val b3 b4 b5 b7 b8 b9 A B C 2 (x.tmps.getD 80 undef) w)
    : wpOpIn F n Tryd.prog salg10_ops Q 3 (fun a' w' => ∃ v, a' = x.put (some 81) v ∧ (v = sv (NO A)) ∧ Below w.heap.size w w') x w := by
  have ho : salg10_ops[3]? = some salg10_o3 := rfl
  simp only [Array.getD_eq_getD_getElem?] at u3 u4 u5 u7 u8 u9
  have q2 : x.tmps.getD 80 undef = sv A := p2
  simp only [Array.getD_eq_getD_getElem?] at q2
  refine wpOpIn_plain ho rfl (oper_inK hF.fn (fun K hK => ?_))
  clear ho
  rw [Oper.semAt_plain F _ _ (by intro c h; cases h)]
  simp only [salg10_o3]
  go_simp
  refine ⟨hF.deep, (hF.call (not_any (A) w)).mono ?_⟩
  rintro e w' ⟨rfl, hb⟩
  exact hK _ _ ⟨_, act_putD x hdef _ _, rfl, hb⟩
set_option maxRecDepth 100000 in
set_option maxHeartbeats 2000000 in
theorem salg10_s4 {F : Fence} (hF : Wide F) {n : Nat} (b3 b4 b5 b7 b8 b9 : Nat) (A B C : Nat → Bool) (Q : Exit → Act → World → Prop) (df : List Deferred) (w0 : World)
    (h3 : SBox w0 b3 A) (h4 : SBox w0 b4 B) (h5 : SBox w0 b5 C) (h7 : SBox w0 b7 (UN A B C)) (h8 : SBox w0 b8 (ME A B C)) (h9 : SBox w0 b9 (NO A)) (hT : Tab w0)
    (x : Act) (w : World) (hB : Below w0.heap.size w0 w) (hdef : x.defers = df) (u3 : x.tmps.getD 3 undef = .pointer (some ⟨b3, 0, none⟩)) (u4 : x.tmps.getD 4 undef = .pointer (some ⟨b4, 0, none⟩)) (u5 : x.tmps.getD 5 undef = .pointer (some ⟨b5, 0, none⟩)) (u7 : x.tmps.getD 7 undef = .pointer (some ⟨b7, 0, none⟩)) (u8 : x.tmps.getD 8 undef = .pointer (some ⟨b8, 0, none⟩)) (u9 : x.tmps.getD 9 undef = .pointer (some ⟨b9, 0, none⟩))
    : wpOpIn F n Tryd.prog salg10_ops Q 4 (fun a' w' => ∃ v, a' = x.put (some 82) v ∧ (v = sv B) ∧ Below w.heap.size w w') x w := by
  have ho : salg10_ops[4]? = some salg10_o4 := rfl
  simp only [Array.getD_eq_getD_getElem?] at u3 u4 u5 u7 u8 u9
  have hsb := h4.below hB h4.lt
  have c0 := hsb.cell 0 (by omega)
  have c1 := hsb.cell 1 (by omega)
  have c2 := hsb.cell 2 (by omega)
  have c3 := hsb.cell 3 (by omega)
  refine wpOpIn_plain ho rfl (oper_inK hF.fn (fun K hK => ?_))
  clear ho
  rw [Oper.semAt_plain F _ _ (by intro c h; cases h)]
  simp only [salg10_o4]
  go_simp
  exact hK _ _ ⟨_, act_putD x hdef _ _, rfl, Below.refl _ _⟩
set_option maxRecDepth 100000 in
set_option maxHeartbeats 2000000 in
theorem salg10_s5 {F : Fence} (hF : Wide F) {n : Nat} (b3 b4 b5 b7 b8 b9 : Nat) (A B C : Nat → Bool) (Q : Exit → Act → World → Prop) (df : List Deferred) (w0 : World)
    (h3 : SBox w0 b3 A) (h4 : SBox w0 b4 B) (h5 : SBox w0 b5 C) (h7 : SBox w0 b7 (UN A B C)) (h8 : SBox w0 b8 (ME A B C)) (h9 : SBox w0 b9 (NO A)) (hT : Tab w0)
    (x : Act) (w : World) (hB : Below w0.heap.size w0 w) (hdef : x.defers = df) (u3 : x.tmps.getD 3 undef = .pointer (some ⟨b3, 0, none⟩)) (u4 : x.tmps.getD 4 undef = .pointer (some ⟨b4, 0, none⟩)) (u5 : x.tmps.getD 5 undef = .pointer (some ⟨b5, 0, none⟩)) (u7 : x.tmps.getD 7 undef = .pointer (some ⟨b7, 0, none⟩)) (u8 : x.tmps.getD 8 undef = .pointer (some ⟨b8, 0, none⟩)) (u9 : x.tmps.getD 9 undef = .pointer (some ⟨b9, 0, none⟩))
    (p4 : salg10_val b3 b4 b5 b7 b8 b9 A B C 4 (x.tmps.getD 82 undef) w)
    : wpOpIn F n Tryd.prog salg10_ops Q 5 (fun a' w' => ∃ v, a' = x.put (some 83) v ∧ (v = sv (NO B)) ∧ Below w.heap.size w w') x w := by
  have ho : salg10_ops[5]? = some salg10_o5 := rfl
  simp only [Array.getD_eq_getD_getElem?] at u3 u4 u5 u7 u8 u9
  have q4 : x.tmps.getD 82 undef = sv B := p4
  simp only [Array.getD_eq_getD_getElem?] at q4
  refine wpOpIn_plain ho rfl (oper_inK hF.fn (fun K hK => ?_))
  clear ho
  rw [Oper.semAt_plain F _ _ (by intro c h; cases h)]
  simp only [salg10_o5]
  go_simp
  refine ⟨hF.deep, (hF.call (not_any (B) w)).mono ?_⟩
  rintro e w' ⟨rfl, hb⟩
  exact hK _ _ ⟨_, act_putD x hdef _ _, rfl, hb⟩
set_option maxRecDepth 100000 in
set_option maxHeartbeats 2000000 in
theorem salg10_s6 {F : Fence} (hF : Wide F) {n : Nat} (b3 b4 b5 b7 b8 b9 : Nat) (A B C : Nat → Bool) (Q : Exit → Act → World → Prop) (df : List Deferred) (w0 : World)
    (h3 : SBox w0 b3 A) (h4 : SBox w0 b4 B) (h5 : SBox w0 b5 C) (h7 : SBox w0 b7 (UN A B C)) (h8 : SBox w0 b8 (ME A B C)) (h9 : SBox w0 b9 (NO A)) (hT : Tab w0)
    (x : Act) (w : World) (hB : Below w0.heap.size w0 w) (hdef : x.defers = df) (u3 : x.tmps.getD 3 undef = .pointer (some ⟨b3, 0, none⟩)) (u4 : x.tmps.getD 4 undef = .pointer (some ⟨b4, 0, none⟩)) (u5 : x.tmps.getD 5 undef = .pointer (some ⟨b5, 0, none⟩)) (u7 : x.tmps.getD 7 undef = .pointer (some ⟨b7, 0, none⟩)) (u8 : x.tmps.getD 8 undef = .pointer (some ⟨b8, 0, none⟩)) (u9 : x.tmps.getD 9 undef = .pointer (some ⟨b9, 0, none⟩))
    : wpOpIn F n Tryd.prog salg10_ops Q 6 (fun a' w' => ∃ v, a' = x.put (some 84) v ∧ (v = sv C) ∧ Below w.heap.size w w') x w := by
  have ho : salg10_ops[6]? = some salg10_o6 := rfl
  simp only [Array.getD_eq_getD_getElem?] at u3 u4 u5 u7 u8 u9
  have hsb := h5.below hB h5.lt
  have c0 := hsb.cell 0 (by omega)
  have c1 := hsb.cell 1 (by omega)
  have c2 := hsb.cell 2 (by omega)
  have c3 := hsb.cell 3 (by omega)
  refine wpOpIn_plain ho rfl (oper_inK hF.fn (fun K hK => ?_))
  clear ho
  rw [Oper.semAt_plain F _ _ (by intro c h; cases h)]
  simp only [salg10_o6]
  go_simp
  exact hK _ _ ⟨_, act_putD x hdef _ _, rfl, Below.refl _ _⟩
set_option maxRecDepth 100000 in
set_option maxHeartbeats 2000000 in
theorem salg10_s7 {F : Fence} (hF : Wide F) {n : Nat} (b3 b4 b5 b7 b8 b9 : Nat) (A B C : Nat → Bool) (Q : Exit → Act → World → Prop) (df : List Deferred) (w0 : World)
    (h3 : SBox w0 b3 A) (h4 : SBox w0 b4 B) (h5 : SBox w0 b5 C) (h7 : SBox w0 b7 (UN A B C)) (h8 : SBox w0 b8 (ME A B C)) (h9 : SBox w0 b9 (NO A)) (hT : Tab w0)
    (x : Act) (w : World) (hB : Below w0.heap.size w0 w) (hdef : x.defers = df) (u3 : x.tmps.getD 3 undef = .pointer (some ⟨b3, 0, none⟩)) (u4 : x.tmps.getD 4 undef = .pointer (some ⟨b4, 0, none⟩)) (u5 : x.tmps.getD 5 undef = .pointer (some ⟨b5, 0, none⟩)) (u7 : x.tmps.getD 7 undef = .pointer (some ⟨b7, 0, none⟩)) (u8 : x.tmps.getD 8 undef = .pointer (some ⟨b8, 0, none⟩)) (u9 : x.tmps.getD 9 undef = .pointer (some ⟨b9, 0, none⟩))
    (p6 : salg10_val b3 b4 b5 b7 b8 b9 A B C 6 (x.tmps.getD 84 undef) w)
    : wpOpIn F n Tryd.prog salg10_ops Q 7 (fun a' w' => ∃ v, a' = x.put (some 85) v ∧ (v = sv (NO C)) ∧ Below w.heap.size w w') x w := by
  have ho : salg10_ops[7]? = some salg10_o7 := rfl
  simp only [Array.getD_eq_getD_getElem?] at u3 u4 u5 u7 u8 u9
  have q6 : x.tmps.getD 84 undef = sv C := p6
  simp only [Array.getD_eq_getD_getElem?] at q6
  refine wpOpIn_plain ho rfl (oper_inK hF.fn (fun K hK => ?_))
  clear ho
  rw [Oper.semAt_plain F _ _ (by intro c h; cases h)]
  simp only [salg10_o7]
  go_simp
  refine ⟨hF.deep, (hF.call (not_any (C) w)).mono ?_⟩
  rintro e w' ⟨rfl, hb⟩
  exact hK _ _ ⟨_, act_putD x hdef _ _, rfl, hb⟩
set_option maxRecDepth 100000 in
set_option maxHeartbeats 2000000 in
theorem salg10_s8 {F : Fence} (hF : Wide F) {n : Nat} (b3 b4 b5 b7 b8 b9 : Nat) (A B C : Nat → Bool) (Q : Exit → Act → World → Prop) (df : List Deferred) (w0 : World)
    (h3 : SBox w0 b3 A) (h4 : SBox w0 b4 B) (h5 : SBox w0 b5 C) (h7 : SBox w0 b7 (UN A B C)) (h8 : SBox w0 b8 (ME A B C)) (h9 : SBox w0 b9 (NO A)) (hT : Tab w0)
    (x : Act) (w : World) (hB : Below w0.heap.size w0 w) (hdef : x.defers = df) (u3 : x.tmps.getD 3 undef = .pointer (some ⟨b3, 0, none⟩)) (u4 : x.tmps.getD 4 undef = .pointer (some ⟨b4, 0, none⟩)) (u5 : x.tmps.getD 5 undef = .pointer (some ⟨b5, 0, none⟩)) (u7 : x.tmps.getD 7 undef = .pointer (some ⟨b7, 0, none⟩)) (u8 : x.tmps.getD 8 undef = .pointer (some ⟨b8, 0, none⟩)) (u9 : x.tmps.getD 9 undef = .pointer (some ⟨b9, 0, none⟩))
    (p3 : salg10_val b3 b4 b5 b7 b8 b9 A B C 3 (x.tmps.getD 81 undef) w)
    (p5 : salg10_val b3 b4 b5 b7 b8 b9 A B C 5 (x.tmps.getD 83 undef) w)
    (p7 : salg10_val b3 b4 b5 b7 b8 b9 A B C 7 (x.tmps.getD 85 undef) w)
    : wpOpIn F n Tryd.prog salg10_ops Q 8 (fun a' w' => ∃ v, a' = x.put (some 86) v ∧ (∃ g, v = .slice (some ⟨g, 0, none⟩) 3 3 ∧ Sets w' (some ⟨g, 0, none⟩) 3 (three (NO A) (NO B) (NO C))) ∧ Below w.heap.size w w') x w := by
  have ho : salg10_ops[8]? = some salg10_o8 := rfl
  simp only [Array.getD_eq_getD_getElem?] at u3 u4 u5 u7 u8 u9
  have q3 : x.tmps.getD 81 undef = sv (NO A) := p3
  have q5 : x.tmps.getD 83 undef = sv (NO B) := p5
  have q7 : x.tmps.getD 85 undef = sv (NO C) := p7
  simp only [Array.getD_eq_getD_getElem?] at q3 q5 q7
  simp only [sv, st, sc] at q3 q5 q7
  refine wpOpIn_plain ho rfl (oper_inK hF.fn (fun K hK => ?_))
  clear ho
  rw [Oper.semAt_plain F _ _ (by intro c h; cases h)]
  simp only [salg10_o8]
  go_simp
  exact hK _ _ ⟨_, act_putD x hdef _ _, ⟨_, rfl, three_sets w w.heap.size rfl (NO A) (NO B) (NO C) _⟩, below_alloc _ _⟩
set_option maxRecDepth 100000 in
set_option maxHeartbeats 2000000 in
theorem salg10_s9 {F : Fence} (hF : Wide F) {n : Nat} (b3 b4 b5 b7 b8 b9 : Nat) (A B C : Nat → Bool) (Q : Exit → Act → World → Prop) (df : List Deferred) (w0 : World)
    (h3 : SBox w0 b3 A) (h4 : SBox w0 b4 B) (h5 : SBox w0 b5 C) (h7 : SBox w0 b7 (UN A B C)) (h8 : SBox w0 b8 (ME A B C)) (h9 : SBox w0 b9 (NO A)) (hT : Tab w0)
    (x : Act) (w : World) (hB : Below w0.heap.size w0 w) (hdef : x.defers = df) (u3 : x.tmps.getD 3 undef = .pointer (some ⟨b3, 0, none⟩)) (u4 : x.tmps.getD 4 undef = .pointer (some ⟨b4, 0, none⟩)) (u5 : x.tmps.getD 5 undef = .pointer (some ⟨b5, 0, none⟩)) (u7 : x.tmps.getD 7 undef = .pointer (some ⟨b7, 0, none⟩)) (u8 : x.tmps.getD 8 undef = .pointer (some ⟨b8, 0, none⟩)) (u9 : x.tmps.getD 9 undef = .pointer (some ⟨b9, 0, none⟩))
    (p8 : salg10_val b3 b4 b5 b7 b8 b9 A B C 8 (x.tmps.getD 86 undef) w)
    : wpOpIn F n Tryd.prog salg10_ops Q 9 (fun a' w' => ∃ v, a' = x.put (some 87) v ∧ (v = sv (allS (three (NO A) (NO B) (NO C)) 3)) ∧ Below w.heap.size w w') x w := by
  have ho : salg10_ops[9]? = some salg10_o9 := rfl
  simp only [Array.getD_eq_getD_getElem?] at u3 u4 u5 u7 u8 u9
  obtain ⟨g8, q8, p8⟩ := p8
  have q8 : x.tmps.getD 86 undef = .slice (some ⟨g8, 0, none⟩) 3 3 := q8
  simp only [Array.getD_eq_getD_getElem?] at q8
  refine wpOpIn_plain ho rfl (oper_inK hF.fn (fun K hK => ?_))
  clear ho
  rw [Oper.semAt_plain F _ _ (by intro c h; cases h)]
  simp only [salg10_o9]
  go_simp
  refine ⟨hF.deep, (hF.call (meet_any _ 3 3 (three (NO A) (NO B) (NO C)) w (by omega) p8 (hT.below hB))).mono ?_⟩
  rintro e w' ⟨rfl, hb⟩
  exact hK _ _ ⟨_, act_putD x hdef _ _, rfl, hb⟩
set_option maxRecDepth 100000 in
set_option maxHeartbeats 2000000 in
theorem salg10_s10 {F : Fence} (hF : Wide F) {n : Nat} (b3 b4 b5 b7 b8 b9 : Nat) (A B C : Nat → Bool) (Q : Exit → Act → World → Prop) (df : List Deferred) (w0 : World)
    (h3 : SBox w0 b3 A) (h4 : SBox w0 b4 B) (h5 : SBox w0 b5 C) (h7 : SBox w0 b7 (UN A B C)) (h8 : SBox w0 b8 (ME A B C)) (h9 : SBox w0 b9 (NO A)) (hT : Tab w0)
    (x : Act) (w : World) (hB : Below w0.heap.size w0 w) (hdef : x.defers = df) (u3 : x.tmps.getD 3 undef = .pointer (some ⟨b3, 0, none⟩)) (u4 : x.tmps.getD 4 undef = .pointer (some ⟨b4, 0, none⟩)) (u5 : x.tmps.getD 5 undef = .pointer (some ⟨b5, 0, none⟩)) (u7 : x.tmps.getD 7 undef = .pointer (some ⟨b7, 0, none⟩)) (u8 : x.tmps.getD 8 undef = .pointer (some ⟨b8, 0, none⟩)) (u9 : x.tmps.getD 9 undef = .pointer (some ⟨b9, 0, none⟩))
    (p1 : salg10_val b3 b4 b5 b7 b8 b9 A B C 1 (x.tmps.getD 79 undef) w)
    (p9 : salg10_val b3 b4 b5 b7 b8 b9 A B C 9 (x.tmps.getD 87 undef) w)
    : wpOpIn F n Tryd.prog salg10_ops Q 10 (fun a' w' => ∃ v, a' = x.put (some 88) v ∧ (v = .bool false) ∧ Below w.heap.size w w') x w := by
  have ho : salg10_ops[10]? = some salg10_o10 := rfl
  simp only [Array.getD_eq_getD_getElem?] at u3 u4 u5 u7 u8 u9
  have q1 : x.tmps.getD 79 undef = sv (NO (UN A B C)) := p1
  have q9 : x.tmps.getD 87 undef = sv (allS (three (NO A) (NO B) (NO C)) 3) := p9
  simp only [Array.getD_eq_getD_getElem?] at q1 q9
  simp only [sv, st, sc] at q1 q9
  have he := fun W => eqSt (NO (UN A B C)) (allS (three (NO A) (NO B) (NO C)) 3) W true ⟨fun _ => fun b _ => by simp [allS, three, UN, NO], fun _ => rfl⟩
  simp only [st, sc] at he
  refine wpOpIn_plain ho rfl (oper_inK hF.fn (fun K hK => ?_))
  clear ho
  rw [Oper.semAt_plain F _ _ (by intro c h; cases h)]
  simp only [salg10_o10]
  go_simp
  exact hK _ _ ⟨_, act_putD x hdef _ _, rfl, Below.refl _ _⟩
set_option maxRecDepth 100000 in
set_option maxHeartbeats 2000000 in
theorem salg10_s11 {F : Fence} (hF : Wide F) {n : Nat} (b3 b4 b5 b7 b8 b9 : Nat) (A B C : Nat → Bool) (Q : Exit → Act → World → Prop) (df : List Deferred) (w0 : World)
    (h3 : SBox w0 b3 A) (h4 : SBox w0 b4 B) (h5 : SBox w0 b5 C) (h7 : SBox w0 b7 (UN A B C)) (h8 : SBox w0 b8 (ME A B C)) (h9 : SBox w0 b9 (NO A)) (hT : Tab w0)
    (x : Act) (w : World) (hB : Below w0.heap.size w0 w) (hdef : x.defers = df) (u3 : x.tmps.getD 3 undef = .pointer (some ⟨b3, 0, none⟩)) (u4 : x.tmps.getD 4 undef = .pointer (some ⟨b4, 0, none⟩)) (u5 : x.tmps.getD 5 undef = .pointer (some ⟨b5, 0, none⟩)) (u7 : x.tmps.getD 7 undef = .pointer (some ⟨b7, 0, none⟩)) (u8 : x.tmps.getD 8 undef = .pointer (some ⟨b8, 0, none⟩)) (u9 : x.tmps.getD 9 undef = .pointer (some ⟨b9, 0, none⟩))
    (p10 : salg10_val b3 b4 b5 b7 b8 b9 A B C 10 (x.tmps.getD 88 undef) w)
    : wpOpIn F n Tryd.prog salg10_ops Q 11 (fun a' w' => ∃ v, a' = x.put (some 89) v ∧ (v = .bool false) ∧ Below w.heap.size w w') x w := by
  have ho : salg10_ops[11]? = some salg10_o11 := rfl
  simp only [Array.getD_eq_getD_getElem?] at u3 u4 u5 u7 u8 u9
  have q10 : x.tmps.getD 88 undef = .bool false := p10
  simp only [Array.getD_eq_getD_getElem?] at q10
  refine wpOpIn_plain ho rfl (oper_inK hF.fn (fun K hK => ?_))
  clear ho
  rw [Oper.semAt_plain F _ _ (by intro c h; cases h)]
  simp only [salg10_o11]
  go_simp
  exact hK _ _ ⟨_, act_putD x hdef _ _, rfl, Below.refl _ _⟩
set_option maxRecDepth 100000 in
set_option maxHeartbeats 2000000 in
theorem salg10_s12 {F : Fence} (hF : Wide F) {n : Nat} (b3 b4 b5 b7 b8 b9 : Nat) (A B C : Nat → Bool) (Q : Exit → Act → World → Prop) (df : List Deferred) (w0 : World)
    (h3 : SBox w0 b3 A) (h4 : SBox w0 b4 B) (h5 : SBox w0 b5 C) (h7 : SBox w0 b7 (UN A B C)) (h8 : SBox w0 b8 (ME A B C)) (h9 : SBox w0 b9 (NO A)) (hT : Tab w0)
    (x : Act) (w : World) (hB : Below w0.heap.size w0 w) (hdef : x.defers = df) (u3 : x.tmps.getD 3 undef = .pointer (some ⟨b3, 0, none⟩)) (u4 : x.tmps.getD 4 undef = .pointer (some ⟨b4, 0, none⟩)) (u5 : x.tmps.getD 5 undef = .pointer (some ⟨b5, 0, none⟩)) (u7 : x.tmps.getD 7 undef = .pointer (some ⟨b7, 0, none⟩)) (u8 : x.tmps.getD 8 undef = .pointer (some ⟨b8, 0, none⟩)) (u9 : x.tmps.getD 9 undef = .pointer (some ⟨b9, 0, none⟩))
    (p11 : salg10_val b3 b4 b5 b7 b8 b9 A B C 11 (x.tmps.getD 89 undef) w)
    : wpOpIn F n Tryd.prog salg10_ops Q 12 (fun a' w' => ∃ v, a' = x.put (some 90) v ∧ (v = sv (ME A B C)) ∧ Below w.heap.size w w') x w := by
  have ho : salg10_ops[12]? = some salg10_o12 := rfl
  simp only [Array.getD_eq_getD_getElem?] at u3 u4 u5 u7 u8 u9
  have q11 : x.tmps.getD 89 undef = .bool false := p11
  simp only [Array.getD_eq_getD_getElem?] at q11
  have e11 : (salg10_ops[11]?.bind fun x => x.dst) = some 89 := rfl
  have g11 := get_someT q11 (fun h => by cases h)
  have hsb := h8.below hB h8.lt
  have c0 := hsb.cell 0 (by omega)
  have c1 := hsb.cell 1 (by omega)
  have c2 := hsb.cell 2 (by omega)
  have c3 := hsb.cell 3 (by omega)
  refine wpOpIn_stepT hF ho (fun K hK => ?_)
  clear ho
  rw [Oper.semAt_plain F _ _ (by intro c h; cases h)]
  simp only [salg10_o12]
  go_simp
  exact hK _ _ ⟨_, act_putD x hdef _ _, rfl, Below.refl _ _⟩
set_option maxRecDepth 100000 in
set_option maxHeartbeats 2000000 in
theorem salg10_s13 {F : Fence} (hF : Wide F) {n : Nat} (b3 b4 b5 b7 b8 b9 : Nat) (A B C : Nat → Bool) (Q : Exit → Act → World → Prop) (df : List Deferred) (w0 : World)
    (h3 : SBox w0 b3 A) (h4 : SBox w0 b4 B) (h5 : SBox w0 b5 C) (h7 : SBox w0 b7 (UN A B C)) (h8 : SBox w0 b8 (ME A B C)) (h9 : SBox w0 b9 (NO A)) (hT : Tab w0)
    (x : Act) (w : World) (hB : Below w0.heap.size w0 w) (hdef : x.defers = df) (u3 : x.tmps.getD 3 undef = .pointer (some ⟨b3, 0, none⟩)) (u4 : x.tmps.getD 4 undef = .pointer (some ⟨b4, 0, none⟩)) (u5 : x.tmps.getD 5 undef = .pointer (some ⟨b5, 0, none⟩)) (u7 : x.tmps.getD 7 undef = .pointer (some ⟨b7, 0, none⟩)) (u8 : x.tmps.getD 8 undef = .pointer (some ⟨b8, 0, none⟩)) (u9 : x.tmps.getD 9 undef = .pointer (some ⟨b9, 0, none⟩))
    (p12 : salg10_val b3 b4 b5 b7 b8 b9 A B C 12 (x.tmps.getD 90 undef) w)
    (p11 : salg10_val b3 b4 b5 b7 b8 b9 A B C 11 (x.tmps.getD 89 undef) w)
    : wpOpIn F n Tryd.prog salg10_ops Q 13 (fun a' w' => ∃ v, a' = x.put (some 91) v ∧ (v = sv (NO (ME A B C))) ∧ Below w.heap.size w w') x w := by
  have ho : salg10_ops[13]? = some salg10_o13 := rfl
  simp only [Array.getD_eq_getD_getElem?] at u3 u4 u5 u7 u8 u9
  have q12 : x.tmps.getD 90 undef = sv (ME A B C) := p12
  have q11 : x.tmps.getD 89 undef = .bool false := p11
  simp only [Array.getD_eq_getD_getElem?] at q12 q11
  have e11 : (salg10_ops[11]?.bind fun x => x.dst) = some 89 := rfl
  have g11 := get_someT q11 (fun h => by cases h)
  refine wpOpIn_stepT hF ho (fun K hK => ?_)
  clear ho
  rw [Oper.semAt_plain F _ _ (by intro c h; cases h)]
  simp only [salg10_o13]
  go_simp
  refine ⟨hF.deep, (hF.call (not_any (ME A B C) w)).mono ?_⟩
  rintro e w' ⟨rfl, hb⟩
  exact hK _ _ ⟨_, act_putD x hdef _ _, rfl, hb⟩
set_option maxRecDepth 100000 in
set_option maxHeartbeats 2000000 in
theorem salg10_s14 {F : Fence} (hF : Wide F) {n : Nat} (b3 b4 b5 b7 b8 b9 : Nat) (A B C : Nat → Bool) (Q : Exit → Act → World → Prop) (df : List Deferred) (w0 : World)
    (h3 : SBox w0 b3 A) (h4 : SBox w0 b4 B) (h5 : SBox w0 b5 C) (h7 : SBox w0 b7 (UN A B C)) (h8 : SBox w0 b8 (ME A B C)) (h9 : SBox w0 b9 (NO A)) (hT : Tab w0)
    (x : Act) (w : World) (hB : Below w0.heap.size w0 w) (hdef : x.defers = df) (u3 : x.tmps.getD 3 undef = .pointer (some ⟨b3, 0, none⟩)) (u4 : x.tmps.getD 4 undef = .pointer (some ⟨b4, 0, none⟩)) (u5 : x.tmps.getD 5 undef = .pointer (some ⟨b5, 0, none⟩)) (u7 : x.tmps.getD 7 undef = .pointer (some ⟨b7, 0, none⟩)) (u8 : x.tmps.getD 8 undef = .pointer (some ⟨b8, 0, none⟩)) (u9 : x.tmps.getD 9 undef = .pointer (some ⟨b9, 0, none⟩))
    (p11 : salg10_val b3 b4 b5 b7 b8 b9 A B C 11 (x.tmps.getD 89 undef) w)
    : wpOpIn F n Tryd.prog salg10_ops Q 14 (fun a' w' => ∃ v, a' = x.put (some 92) v ∧ (v = sv A) ∧ Below w.heap.size w w') x w := by
  have ho : salg10_ops[14]? = some salg10_o14 := rfl
  simp only [Array.getD_eq_getD_getElem?] at u3 u4 u5 u7 u8 u9
  have q11 : x.tmps.getD 89 undef = .bool false := p11
  simp only [Array.getD_eq_getD_getElem?] at q11
  have e11 : (salg10_ops[11]?.bind fun x => x.dst) = some 89 := rfl
  have g11 := get_someT q11 (fun h => by cases h)
  have hsb := h3.below hB h3.lt
  have c0 := hsb.cell 0 (by omega)
  have c1 := hsb.cell 1 (by omega)
  have c2 := hsb.cell 2 (by omega)
  have c3 := hsb.cell 3 (by omega)
  refine wpOpIn_stepT hF ho (fun K hK => ?_)
  clear ho
  rw [Oper.semAt_plain F _ _ (by intro c h; cases h)]
  simp only [salg10_o14]
  go_simp
  exact hK _ _ ⟨_, act_putD x hdef _ _, rfl, Below.refl _ _⟩
set_option maxRecDepth 100000 in
set_option maxHeartbeats 2000000 in
theorem salg10_s15 {F : Fence} (hF : Wide F) {n : Nat} (b3 b4 b5 b7 b8 b9 : Nat) (A B C : Nat → Bool) (Q : Exit → Act → World → Prop) (df : List Deferred) (w0 : World)
    (h3 : SBox w0 b3 A) (h4 : SBox w0 b4 B) (h5 : SBox w0 b5 C) (h7 : SBox w0 b7 (UN A B C)) (h8 : SBox w0 b8 (ME A B C)) (h9 : SBox w0 b9 (NO A)) (hT : Tab w0)
    (x : Act) (w : World) (hB : Below w0.heap.size w0 w) (hdef : x.defers = df) (u3 : x.tmps.getD 3 undef = .pointer (some ⟨b3, 0, none⟩)) (u4 : x.tmps.getD 4 undef = .pointer (some ⟨b4, 0, none⟩)) (u5 : x.tmps.getD 5 undef = .pointer (some ⟨b5, 0, none⟩)) (u7 : x.tmps.getD 7 undef = .pointer (some ⟨b7, 0, none⟩)) (u8 : x.tmps.getD 8 undef = .pointer (some ⟨b8, 0, none⟩)) (u9 : x.tmps.getD 9 undef = .pointer (some ⟨b9, 0, none⟩))
    (p14 : salg10_val b3 b4 b5 b7 b8 b9 A B C 14 (x.tmps.getD 92 undef) w)
    (p11 : salg10_val b3 b4 b5 b7 b8 b9 A B C 11 (x.tmps.getD 89 undef) w)
    : wpOpIn F n Tryd.prog salg10_ops Q 15 (fun a' w' => ∃ v, a' = x.put (some 93) v ∧ (v = sv (NO A)) ∧ Below w.heap.size w w') x w := by
  have ho : salg10_ops[15]? = some salg10_o15 := rfl
  simp only [Array.getD_eq_getD_getElem?] at u3 u4 u5 u7 u8 u9
  have q14 : x.tmps.getD 92 undef = sv A := p14
  have q11 : x.tmps.getD 89 undef = .bool false := p11
  simp only [Array.getD_eq_getD_getElem?] at q14 q11
  have e11 : (salg10_ops[11]?.bind fun x => x.dst) = some 89 := rfl
  have g11 := get_someT q11 (fun h => by cases h)
  refine wpOpIn_stepT hF ho (fun K hK => ?_)
  clear ho
  rw [Oper.semAt_plain F _ _ (by intro c h; cases h)]
  simp only [salg10_o15]
  go_simp
  refine ⟨hF.deep, (hF.call (not_any (A) w)).mono ?_⟩
  rintro e w' ⟨rfl, hb⟩
  exact hK _ _ ⟨_, act_putD x hdef _ _, rfl, hb⟩
set_option maxRecDepth 100000 in
set_option maxHeartbeats 2000000 in
theorem salg10_s16 {F : Fence} (hF : Wide F) {n : Nat} (b3 b4 b5 b7 b8 b9 : Nat) (A B C : Nat → Bool) (Q : Exit → Act → World → Prop) (df : List Deferred) (w0 : World)
    (h3 : SBox w0 b3 A) (h4 : SBox w0 b4 B) (h5 : SBox w0 b5 C) (h7 : SBox w0 b7 (UN A B C)) (h8 : SBox w0 b8 (ME A B C)) (h9 : SBox w0 b9 (NO A)) (hT : Tab w0)
    (x : Act) (w : World) (hB : Below w0.heap.size w0 w) (hdef : x.defers = df) (u3 : x.tmps.getD 3 undef = .pointer (some ⟨b3, 0, none⟩)) (u4 : x.tmps.getD 4 undef = .pointer (some ⟨b4, 0, none⟩)) (u5 : x.tmps.getD 5 undef = .pointer (some ⟨b5, 0, none⟩)) (u7 : x.tmps.getD 7 undef = .pointer (some ⟨b7, 0, none⟩)) (u8 : x.tmps.getD 8 undef = .pointer (some ⟨b8, 0, none⟩)) (u9 : x.tmps.getD 9 undef = .pointer (some ⟨b9, 0, none⟩))
    (p11 : salg10_val b3 b4 b5 b7 b8 b9 A B C 11 (x.tmps.getD 89 undef) w)
    : wpOpIn F n Tryd.prog salg10_ops Q 16 (fun a' w' => ∃ v, a' = x.put (some 94) v ∧ (v = sv B) ∧ Below w.heap.size w w') x w := by
  have ho : salg10_ops[16]? = some salg10_o16 := rfl
  simp only [Array.getD_eq_getD_getElem?] at u3 u4 u5 u7 u8 u9
  have q11 : x.tmps.getD 89 undef = .bool false := p11
  simp only [Array.getD_eq_getD_getElem?] at q11
  have e11 : (salg10_ops[11]?.bind fun x => x.dst) = some 89 := rfl
  have g11 := get_someT q11 (fun h => by cases h)
  have hsb := h4.below hB h4.lt
  have c0 := hsb.cell 0 (by omega)
  have c1 := hsb.cell 1 (by omega)
  have c2 := hsb.cell 2 (by omega)
  have c3 := hsb.cell 3 (by omega)
  refine wpOpIn_stepT hF ho (fun K hK => ?_)
  clear ho
  rw [Oper.semAt_plain F _ _ (by intro c h; cases h)]
  simp only [salg10_o16]
  go_simp
  exact hK _ _ ⟨_, act_putD x hdef _ _, rfl, Below.refl _ _⟩
set_option maxRecDepth 100000 in
set_option maxHeartbeats 2000000 in
theorem salg10_s17 {F : Fence} (hF : Wide F) {n : Nat} (b3 b4 b5 b7 b8 b9 : Nat) (A B C : Nat → Bool) (Q : Exit → Act → World → Prop) (df : List Deferred) (w0 : World)
    (h3 : SBox w0 b3 A) (h4 : SBox w0 b4 B) (h5 : SBox w0 b5 C) (h7 : SBox w0 b7 (UN A B C)) (h8 : SBox w0 b8 (ME A B C)) (h9 : SBox w0 b9 (NO A)) (hT : Tab w0)
    (x : Act) (w : World) (hB : Below w0.heap.size w0 w) (hdef : x.defers = df) (u3 : x.tmps.getD 3 undef = .pointer (some ⟨b3, 0, none⟩)) (u4 : x.tmps.getD 4 undef = .pointer (some ⟨b4, 0, none⟩)) (u5 : x.tmps.getD 5 undef = .pointer (some ⟨b5, 0, none⟩)) (u7 : x.tmps.getD 7 undef = .pointer (some ⟨b7, 0, none⟩)) (u8 : x.tmps.getD 8 undef = .pointer (some ⟨b8, 0, none⟩)) (u9 : x.tmps.getD 9 undef = .pointer (some ⟨b9, 0, none⟩))
    (p16 : salg10_val b3 b4 b5 b7 b8 b9 A B C 16 (x.tmps.getD 94 undef) w)
    (p11 : salg10_val b3 b4 b5 b7 b8 b9 A B C 11 (x.tmps.getD 89 undef) w)
    : wpOpIn F n Tryd.prog salg10_ops Q 17 (fun a' w' => ∃ v, a' = x.put (some 95) v ∧ (v = sv (NO B)) ∧ Below w.heap.size w w') x w := by
  have ho : salg10_ops[17]? = some salg10_o17 := rfl
  simp only [Array.getD_eq_getD_getElem?] at u3 u4 u5 u7 u8 u9
  have q16 : x.tmps.getD 94 undef = sv B := p16
  have q11 : x.tmps.getD 89 undef = .bool false := p11
  simp only [Array.getD_eq_getD_getElem?] at q16 q11
  have e11 : (salg10_ops[11]?.bind fun x => x.dst) = some 89 := rfl
  have g11 := get_someT q11 (fun h => by cases h)
  refine wpOpIn_stepT hF ho (fun K hK => ?_)
  clear ho
  rw [Oper.semAt_plain F _ _ (by intro c h; cases h)]
  simp only [salg10_o17]
  go_simp
  refine ⟨hF.deep, (hF.call (not_any (B) w)).mono ?_⟩
  rintro e w' ⟨rfl, hb⟩
  exact hK _ _ ⟨_, act_putD x hdef _ _, rfl, hb⟩
set_option maxRecDepth 100000 in
set_option maxHeartbeats 2000000 in
theorem salg10_s18 {F : Fence} (hF : Wide F) {n : Nat} (b3 b4 b5 b7 b8 b9 : Nat) (A B C : Nat → Bool) (Q : Exit → Act → World → Prop) (df : List Deferred) (w0 : World)
    (h3 : SBox w0 b3 A) (h4 : SBox w0 b4 B) (h5 : SBox w0 b5 C) (h7 : SBox w0 b7 (UN A B C)) (h8 : SBox w0 b8 (ME A B C)) (h9 : SBox w0 b9 (NO A)) (hT : Tab w0)
    (x : Act) (w : World) (hB : Below w0.heap.size w0 w) (hdef : x.defers = df) (u3 : x.tmps.getD 3 undef = .pointer (some ⟨b3, 0, none⟩)) (u4 : x.tmps.getD 4 undef = .pointer (some ⟨b4, 0, none⟩)) (u5 : x.tmps.getD 5 undef = .pointer (some ⟨b5, 0, none⟩)) (u7 : x.tmps.getD 7 undef = .pointer (some ⟨b7, 0, none⟩)) (u8 : x.tmps.getD 8 undef = .pointer (some ⟨b8, 0, none⟩)) (u9 : x.tmps.getD 9 undef = .pointer (some ⟨b9, 0, none⟩))
    (p11 : salg10_val b3 b4 b5 b7 b8 b9 A B C 11 (x.tmps.getD 89 undef) w)
    : wpOpIn F n Tryd.prog salg10_ops Q 18 (fun a' w' => ∃ v, a' = x.put (some 96) v ∧ (v = sv C) ∧ Below w.heap.size w w') x w := by
  have ho : salg10_ops[18]? = some salg10_o18 := rfl
  simp only [Array.getD_eq_getD_getElem?] at u3 u4 u5 u7 u8 u9
  have q11 : x.tmps.getD 89 undef = .bool false := p11
  simp only [Array.getD_eq_getD_getElem?] at q11
  have e11 : (salg10_ops[11]?.bind fun x => x.dst) = some 89 := rfl
  have g11 := get_someT q11 (fun h => by cases h)
  have hsb := h5.below hB h5.lt
  have c0 := hsb.cell 0 (by omega)
  have c1 := hsb.cell 1 (by omega)
  have c2 := hsb.cell 2 (by omega)
  have c3 := hsb.cell 3 (by omega)
  refine wpOpIn_stepT hF ho (fun K hK => ?_)
  clear ho
  rw [Oper.semAt_plain F _ _ (by intro c h; cases h)]
  simp only [salg10_o18]
  go_simp
  exact hK _ _ ⟨_, act_putD x hdef _ _, rfl, Below.refl _ _⟩
set_option maxRecDepth 100000 in
set_option maxHeartbeats 2000000 in
theorem salg10_s19 {F : Fence} (hF : Wide F) {n : Nat} (b3 b4 b5 b7 b8 b9 : Nat) (A B C : Nat → Bool) (Q : Exit → Act → World → Prop) (df : List Deferred) (w0 : World)
    (h3 : SBox w0 b3 A) (h4 : SBox w0 b4 B) (h5 : SBox w0 b5 C) (h7 : SBox w0 b7 (UN A B C)) (h8 : SBox w0 b8 (ME A B C)) (h9 : SBox w0 b9 (NO A)) (hT : Tab w0)
    (x : Act) (w : World) (hB : Below w0.heap.size w0 w) (hdef : x.defers = df) (u3 : x.tmps.getD 3 undef = .pointer (some ⟨b3, 0, none⟩)) (u4 : x.tmps.getD 4 undef = .pointer (some ⟨b4, 0, none⟩)) (u5 : x.tmps.getD 5 undef = .pointer (some ⟨b5, 0, none⟩)) (u7 : x.tmps.getD 7 undef = .pointer (some ⟨b7, 0, none⟩)) (u8 : x.tmps.getD 8 undef = .pointer (some ⟨b8, 0, none⟩)) (u9 : x.tmps.getD 9 undef = .pointer (some ⟨b9, 0, none⟩))
    (p18 : salg10_val b3 b4 b5 b7 b8 b9 A B C 18 (x.tmps.getD 96 undef) w)
    (p11 : salg10_val b3 b4 b5 b7 b8 b9 A B C 11 (x.tmps.getD 89 undef) w)
    : wpOpIn F n Tryd.prog salg10_ops Q 19 (fun a' w' => ∃ v, a' = x.put (some 97) v ∧ (v = sv (NO C)) ∧ Below w.heap.size w w') x w := by
  have ho : salg10_ops[19]? = some salg10_o19 := rfl
  simp only [Array.getD_eq_getD_getElem?] at u3 u4 u5 u7 u8 u9
  have q18 : x.tmps.getD 96 undef = sv C := p18
  have q11 : x.tmps.getD 89 undef = .bool false := p11
  simp only [Array.getD_eq_getD_getElem?] at q18 q11
  have e11 : (salg10_ops[11]?.bind fun x => x.dst) = some 89 := rfl
  have g11 := get_someT q11 (fun h => by cases h)
  refine wpOpIn_stepT hF ho (fun K hK => ?_)
  clear ho
  rw [Oper.semAt_plain F _ _ (by intro c h; cases h)]
  simp only [salg10_o19]
  go_simp
  refine ⟨hF.deep, (hF.call (not_any (C) w)).mono ?_⟩
  rintro e w' ⟨rfl, hb⟩
  exact hK _ _ ⟨_, act_putD x hdef _ _, rfl, hb⟩
set_option maxRecDepth 100000 in
set_option maxHeartbeats 2000000 in
theorem salg10_s20 {F : Fence} (hF : Wide F) {n : Nat} (b3 b4 b5 b7 b8 b9 : Nat) (A B C : Nat → Bool) (Q : Exit → Act → World → Prop) (df : List Deferred) (w0 : World)
    (h3 : SBox w0 b3 A) (h4 : SBox w0 b4 B) (h5 : SBox w0 b5 C) (h7 : SBox w0 b7 (UN A B C)) (h8 : SBox w0 b8 (ME A B C)) (h9 : SBox w0 b9 (NO A)) (hT : Tab w0)
    (x : Act) (w : World) (hB : Below w0.heap.size w0 w) (hdef : x.defers = df) (u3 : x.tmps.getD 3 undef = .pointer (some ⟨b3, 0, none⟩)) (u4 : x.tmps.getD 4 undef = .pointer (some ⟨b4, 0, none⟩)) (u5 : x.tmps.getD 5 undef = .pointer (some ⟨b5, 0, none⟩)) (u7 : x.tmps.getD 7 undef = .pointer (some ⟨b7, 0, none⟩)) (u8 : x.tmps.getD 8 undef = .pointer (some ⟨b8, 0, none⟩)) (u9 : x.tmps.getD 9 undef = .pointer (some ⟨b9, 0, none⟩))
    (p15 : salg10_val b3 b4 b5 b7 b8 b9 A B C 15 (x.tmps.getD 93 undef) w)
    (p17 : salg10_val b3 b4 b5 b7 b8 b9 A B C 17 (x.tmps.getD 95 undef) w)
    (p19 : salg10_val b3 b4 b5 b7 b8 b9 A B C 19 (x.tmps.getD 97 undef) w)
    (p11 : salg10_val b3 b4 b5 b7 b8 b9 A B C 11 (x.tmps.getD 89 undef) w)
    : wpOpIn F n Tryd.prog salg10_ops Q 20 (fun a' w' => ∃ v, a' = x.put (some 98) v ∧ (∃ g, v = .slice (some ⟨g, 0, none⟩) 3 3 ∧ Sets w' (some ⟨g, 0, none⟩) 3 (three (NO A) (NO B) (NO C))) ∧ Below w.heap.size w w') x w := by
  have ho : salg10_ops[20]? = some salg10_o20 := rfl
  simp only [Array.getD_eq_getD_getElem?] at u3 u4 u5 u7 u8 u9
  have q15 : x.tmps.getD 93 undef = sv (NO A) := p15
  have q17 : x.tmps.getD 95 undef = sv (NO B) := p17
  have q19 : x.tmps.getD 97 undef = sv (NO C) := p19
  have q11 : x.tmps.getD 89 undef = .bool false := p11
  simp only [Array.getD_eq_getD_getElem?] at q15 q17 q19 q11
  have e11 : (salg10_ops[11]?.bind fun x => x.dst) = some 89 := rfl
  have g11 := get_someT q11 (fun h => by cases h)
  simp only [sv, st, sc] at q15 q17 q19
  refine wpOpIn_stepT hF ho (fun K hK => ?_)
  clear ho
  rw [Oper.semAt_plain F _ _ (by intro c h; cases h)]
  simp only [salg10_o20]
  go_simp
  exact hK _ _ ⟨_, act_putD x hdef _ _, ⟨_, rfl, three_sets w w.heap.size rfl (NO A) (NO B) (NO C) _⟩, below_alloc _ _⟩
set_option maxRecDepth 100000 in
set_option maxHeartbeats 2000000 in
theorem salg10_s21 {F : Fence} (hF : Wide F) {n : Nat} (b3 b4 b5 b7 b8 b9 : Nat) (A B C : Nat → Bool) (Q : Exit → Act → World → Prop) (df : List Deferred) (w0 : World)
    (h3 : SBox w0 b3 A) (h4 : SBox w0 b4 B) (h5 : SBox w0 b5 C) (h7 : SBox w0 b7 (UN A B C)) (h8 : SBox w0 b8 (ME A B C)) (h9 : SBox w0 b9 (NO A)) (hT : Tab w0)
    (x : Act) (w : World) (hB : Below w0.heap.size w0 w) (hdef : x.defers = df) (u3 : x.tmps.getD 3 undef = .pointer (some ⟨b3, 0, none⟩)) (u4 : x.tmps.getD 4 undef = .pointer (some ⟨b4, 0, none⟩)) (u5 : x.tmps.getD 5 undef = .pointer (some ⟨b5, 0, none⟩)) (u7 : x.tmps.getD 7 undef = .pointer (some ⟨b7, 0, none⟩)) (u8 : x.tmps.getD 8 undef = .pointer (some ⟨b8, 0, none⟩)) (u9 : x.tmps.getD 9 undef = .pointer (some ⟨b9, 0, none⟩))
    (p20 : salg10_val b3 b4 b5 b7 b8 b9 A B C 20 (x.tmps.getD 98 undef) w)
    (p11 : salg10_val b3 b4 b5 b7 b8 b9 A B C 11 (x.tmps.getD 89 undef) w)
    : wpOpIn F n Tryd.prog salg10_ops Q 21 (fun a' w' => ∃ v, a' = x.put (some 99) v ∧ (v = sv (anyS (three (NO A) (NO B) (NO C)) 3)) ∧ Below w.heap.size w w') x w := by
  have ho : salg10_ops[21]? = some salg10_o21 := rfl
  simp only [Array.getD_eq_getD_getElem?] at u3 u4 u5 u7 u8 u9
  obtain ⟨g20, q20, p20⟩ := p20
  have q20 : x.tmps.getD 98 undef = .slice (some ⟨g20, 0, none⟩) 3 3 := q20
  have q11 : x.tmps.getD 89 undef = .bool false := p11
  simp only [Array.getD_eq_getD_getElem?] at q20 q11
  have e11 : (salg10_ops[11]?.bind fun x => x.dst) = some 89 := rfl
  have g11 := get_someT q11 (fun h => by cases h)
  refine wpOpIn_stepT hF ho (fun K hK => ?_)
  clear ho
  rw [Oper.semAt_plain F _ _ (by intro c h; cases h)]
  simp only [salg10_o21]
  go_simp
  refine ⟨hF.deep, (hF.call (union_any _ 3 3 (three (NO A) (NO B) (NO C)) w (by omega) p20)).mono ?_⟩
  rintro e w' ⟨rfl, hb⟩
  exact hK _ _ ⟨_, act_putD x hdef _ _, rfl, hb⟩
set_option maxRecDepth 100000 in
set_option maxHeartbeats 2000000 in
theorem salg10_s22 {F : Fence} (hF : Wide F) {n : Nat} (b3 b4 b5 b7 b8 b9 : Nat) (A B C : Nat → Bool) (Q : Exit → Act → World → Prop) (df : List Deferred) (w0 : World)
    (h3 : SBox w0 b3 A) (h4 : SBox w0 b4 B) (h5 : SBox w0 b5 C) (h7 : SBox w0 b7 (UN A B C)) (h8 : SBox w0 b8 (ME A B C)) (h9 : SBox w0 b9 (NO A)) (hT : Tab w0)
    (x : Act) (w : World) (hB : Below w0.heap.size w0 w) (hdef : x.defers = df) (u3 : x.tmps.getD 3 undef = .pointer (some ⟨b3, 0, none⟩)) (u4 : x.tmps.getD 4 undef = .pointer (some ⟨b4, 0, none⟩)) (u5 : x.tmps.getD 5 undef = .pointer (some ⟨b5, 0, none⟩)) (u7 : x.tmps.getD 7 undef = .pointer (some ⟨b7, 0, none⟩)) (u8 : x.tmps.getD 8 undef = .pointer (some ⟨b8, 0, none⟩)) (u9 : x.tmps.getD 9 undef = .pointer (some ⟨b9, 0, none⟩))
    (p13 : salg10_val b3 b4 b5 b7 b8 b9 A B C 13 (x.tmps.getD 91 undef) w)
    (p21 : salg10_val b3 b4 b5 b7 b8 b9 A B C 21 (x.tmps.getD 99 undef) w)
    (p11 : salg10_val b3 b4 b5 b7 b8 b9 A B C 11 (x.tmps.getD 89 undef) w)
    : wpOpIn F n Tryd.prog salg10_ops Q 22 (fun a' w' => ∃ v, a' = x.put (some 100) v ∧ (v = .bool false) ∧ Below w.heap.size w w') x w := by
  have ho : salg10_ops[22]? = some salg10_o22 := rfl
  simp only [Array.getD_eq_getD_getElem?] at u3 u4 u5 u7 u8 u9
  have q13 : x.tmps.getD 91 undef = sv (NO (ME A B C)) := p13
  have q21 : x.tmps.getD 99 undef = sv (anyS (three (NO A) (NO B) (NO C)) 3) := p21
  have q11 : x.tmps.getD 89 undef = .bool false := p11
  simp only [Array.getD_eq_getD_getElem?] at q13 q21 q11
  have e11 : (salg10_ops[11]?.bind fun x => x.dst) = some 89 := rfl
  have g11 := get_someT q11 (fun h => by cases h)
  simp only [sv, st, sc] at q13 q21
  have he := fun W => eqSt (NO (ME A B C)) (anyS (three (NO A) (NO B) (NO C)) 3) W true ⟨fun _ => fun b _ => by simp [anyS, three, ME, NO], fun _ => rfl⟩
  simp only [st, sc] at he
  refine wpOpIn_stepT hF ho (fun K hK => ?_)
  clear ho
  rw [Oper.semAt_plain F _ _ (by intro c h; cases h)]
  simp only [salg10_o22]
  go_simp
  exact hK _ _ ⟨_, act_putD x hdef _ _, rfl, Below.refl _ _⟩
set_option maxRecDepth 100000 in
set_option maxHeartbeats 2000000 in
theorem salg10_s23 {F : Fence} (hF : Wide F) {n : Nat} (b3 b4 b5 b7 b8 b9 : Nat) (A B C : Nat → Bool) (Q : Exit → Act → World → Prop) (df : List Deferred) (w0 : World)
    (h3 : SBox w0 b3 A) (h4 : SBox w0 b4 B) (h5 : SBox w0 b5 C) (h7 : SBox w0 b7 (UN A B C)) (h8 : SBox w0 b8 (ME A B C)) (h9 : SBox w0 b9 (NO A)) (hT : Tab w0)
    (x : Act) (w : World) (hB : Below w0.heap.size w0 w) (hdef : x.defers = df) (u3 : x.tmps.getD 3 undef = .pointer (some ⟨b3, 0, none⟩)) (u4 : x.tmps.getD 4 undef = .pointer (some ⟨b4, 0, none⟩)) (u5 : x.tmps.getD 5 undef = .pointer (some ⟨b5, 0, none⟩)) (u7 : x.tmps.getD 7 undef = .pointer (some ⟨b7, 0, none⟩)) (u8 : x.tmps.getD 8 undef = .pointer (some ⟨b8, 0, none⟩)) (u9 : x.tmps.getD 9 undef = .pointer (some ⟨b9, 0, none⟩))
    (p11 : salg10_val b3 b4 b5 b7 b8 b9 A B C 11 (x.tmps.getD 89 undef) w)
    (p22 : salg10_val b3 b4 b5 b7 b8 b9 A B C 22 (x.tmps.getD 100 undef) w)
    : wpOpIn F n Tryd.prog salg10_ops Q 23 (fun a' w' => ∃ v, a' = x.put (some 101) v ∧ (v = .bool false) ∧ Below w.heap.size w w') x w := by
  have ho : salg10_ops[23]? = some salg10_o23 := rfl
  simp only [Array.getD_eq_getD_getElem?] at u3 u4 u5 u7 u8 u9
  have q11 : x.tmps.getD 89 undef = .bool false := p11
  have q22 : x.tmps.getD 100 undef = .bool false := p22
  simp only [Array.getD_eq_getD_getElem?] at q11 q22
  refine wpOpIn_plain ho rfl (oper_inK hF.fn (fun K hK => ?_))
  clear ho
  rw [Oper.semAt_plain F _ _ (by intro c h; cases h)]
  simp only [salg10_o23]
  go_simp
  exact hK _ _ ⟨_, act_putD x hdef _ _, rfl, Below.refl _ _⟩
set_option maxRecDepth 100000 in
set_option maxHeartbeats 2000000 in
theorem salg10_s24 {F : Fence} (hF : Wide F) {n : Nat} (b3 b4 b5 b7 b8 b9 : Nat) (A B C : Nat → Bool) (Q : Exit → Act → World → Prop) (df : List Deferred) (w0 : World)
    (h3 : SBox w0 b3 A) (h4 : SBox w0 b4 B) (h5 : SBox w0 b5 C) (h7 : SBox w0 b7 (UN A B C)) (h8 : SBox w0 b8 (ME A B C)) (h9 : SBox w0 b9 (NO A)) (hT : Tab w0)
    (x : Act) (w : World) (hB : Below w0.heap.size w0 w) (hdef : x.defers = df) (u3 : x.tmps.getD 3 undef = .pointer (some ⟨b3, 0, none⟩)) (u4 : x.tmps.getD 4 undef = .pointer (some ⟨b4, 0, none⟩)) (u5 : x.tmps.getD 5 undef = .pointer (some ⟨b5, 0, none⟩)) (u7 : x.tmps.getD 7 undef = .pointer (some ⟨b7, 0, none⟩)) (u8 : x.tmps.getD 8 undef = .pointer (some ⟨b8, 0, none⟩)) (u9 : x.tmps.getD 9 undef = .pointer (some ⟨b9, 0, none⟩))
    (p23 : salg10_val b3 b4 b5 b7 b8 b9 A B C 23 (x.tmps.getD 101 undef) w)
    : wpOpIn F n Tryd.prog salg10_ops Q 24 (fun a' w' => ∃ v, a' = x.put (some 102) v ∧ (v = .bool false) ∧ Below w.heap.size w w') x w := by
  have ho : salg10_ops[24]? = some salg10_o24 := rfl
  simp only [Array.getD_eq_getD_getElem?] at u3 u4 u5 u7 u8 u9
  have q23 : x.tmps.getD 101 undef = .bool false := p23
  simp only [Array.getD_eq_getD_getElem?] at q23
  refine wpOpIn_plain ho rfl (oper_inK hF.fn (fun K hK => ?_))
  clear ho
  rw [Oper.semAt_plain F _ _ (by intro c h; cases h)]
  simp only [salg10_o24]
  go_simp
  exact hK _ _ ⟨_, act_putD x hdef _ _, rfl, Below.refl _ _⟩
set_option maxRecDepth 100000 in
set_option maxHeartbeats 2000000 in
theorem salg10_s25 {F : Fence} (hF : Wide F) {n : Nat} (b3 b4 b5 b7 b8 b9 : Nat) (A B C : Nat → Bool) (Q : Exit → Act → World → Prop) (df : List Deferred) (w0 : World)
    (h3 : SBox w0 b3 A) (h4 : SBox w0 b4 B) (h5 : SBox w0 b5 C) (h7 : SBox w0 b7 (UN A B C)) (h8 : SBox w0 b8 (ME A B C)) (h9 : SBox w0 b9 (NO A)) (hT : Tab w0)
    (x : Act) (w : World) (hB : Below w0.heap.size w0 w) (hdef : x.defers = df) (u3 : x.tmps.getD 3 undef = .pointer (some ⟨b3, 0, none⟩)) (u4 : x.tmps.getD 4 undef = .pointer (some ⟨b4, 0, none⟩)) (u5 : x.tmps.getD 5 undef = .pointer (some ⟨b5, 0, none⟩)) (u7 : x.tmps.getD 7 undef = .pointer (some ⟨b7, 0, none⟩)) (u8 : x.tmps.getD 8 undef = .pointer (some ⟨b8, 0, none⟩)) (u9 : x.tmps.getD 9 undef = .pointer (some ⟨b9, 0, none⟩))
    (p24 : salg10_val b3 b4 b5 b7 b8 b9 A B C 24 (x.tmps.getD 102 undef) w)
    : wpOpIn F n Tryd.prog salg10_ops Q 25 (fun a' w' => ∃ v, a' = x.put (some 103) v ∧ (v = sv (NO A)) ∧ Below w.heap.size w w') x w := by
  have ho : salg10_ops[25]? = some salg10_o25 := rfl
  simp only [Array.getD_eq_getD_getElem?] at u3 u4 u5 u7 u8 u9
  have q24 : x.tmps.getD 102 undef = .bool false := p24
  simp only [Array.getD_eq_getD_getElem?] at q24
  have e24 : (salg10_ops[24]?.bind fun x => x.dst) = some 102 := rfl
  have g24 := get_someT q24 (fun h => by cases h)
  have hsb := h9.below hB h9.lt
  have c0 := hsb.cell 0 (by omega)
  have c1 := hsb.cell 1 (by omega)
  have c2 := hsb.cell 2 (by omega)
  have c3 := hsb.cell 3 (by omega)
  refine wpOpIn_stepT hF ho (fun K hK => ?_)
  clear ho
  rw [Oper.semAt_plain F _ _ (by intro c h; cases h)]
  simp only [salg10_o25]
  go_simp
  exact hK _ _ ⟨_, act_putD x hdef _ _, rfl, Below.refl _ _⟩
set_option maxRecDepth 100000 in
set_option maxHeartbeats 2000000 in
theorem salg10_s26 {F : Fence} (hF : Wide F) {n : Nat} (b3 b4 b5 b7 b8 b9 : Nat) (A B C : Nat → Bool) (Q : Exit → Act → World → Prop) (df : List Deferred) (w0 : World)
    (h3 : SBox w0 b3 A) (h4 : SBox w0 b4 B) (h5 : SBox w0 b5 C) (h7 : SBox w0 b7 (UN A B C)) (h8 : SBox w0 b8 (ME A B C)) (h9 : SBox w0 b9 (NO A)) (hT : Tab w0)
    (x : Act) (w : World) (hB : Below w0.heap.size w0 w) (hdef : x.defers = df) (u3 : x.tmps.getD 3 undef = .pointer (some ⟨b3, 0, none⟩)) (u4 : x.tmps.getD 4 undef = .pointer (some ⟨b4, 0, none⟩)) (u5 : x.tmps.getD 5 undef = .pointer (some ⟨b5, 0, none⟩)) (u7 : x.tmps.getD 7 undef = .pointer (some ⟨b7, 0, none⟩)) (u8 : x.tmps.getD 8 undef = .pointer (some ⟨b8, 0, none⟩)) (u9 : x.tmps.getD 9 undef = .pointer (some ⟨b9, 0, none⟩))
    (p25 : salg10_val b3 b4 b5 b7 b8 b9 A B C 25 (x.tmps.getD 103 undef) w)
    (p24 : salg10_val b3 b4 b5 b7 b8 b9 A B C 24 (x.tmps.getD 102 undef) w)
    : wpOpIn F n Tryd.prog salg10_ops Q 26 (fun a' w' => ∃ v, a' = x.put (some 104) v ∧ (v = sv (NO (NO A))) ∧ Below w.heap.size w w') x w := by
  have ho : salg10_ops[26]? = some salg10_o26 := rfl
  simp only [Array.getD_eq_getD_getElem?] at u3 u4 u5 u7 u8 u9
  have q25 : x.tmps.getD 103 undef = sv (NO A) := p25
  have q24 : x.tmps.getD 102 undef = .bool false := p24
  simp only [Array.getD_eq_getD_getElem?] at q25 q24
  have e24 : (salg10_ops[24]?.bind fun x => x.dst) = some 102 := rfl
  have g24 := get_someT q24 (fun h => by cases h)
  refine wpOpIn_stepT hF ho (fun K hK => ?_)
  clear ho
  rw [Oper.semAt_plain F _ _ (by intro c h; cases h)]
  simp only [salg10_o26]
  go_simp
  refine ⟨hF.deep, (hF.call (not_any (NO A) w)).mono ?_⟩
  rintro e w' ⟨rfl, hb⟩
  exact hK _ _ ⟨_, act_putD x hdef _ _, rfl, hb⟩
set_option maxRecDepth 100000 in
set_option maxHeartbeats 2000000 in
theorem salg10_s27 {F : Fence} (hF : Wide F) {n : Nat} (b3 b4 b5 b7 b8 b9 : Nat) (A B C : Nat → Bool) (Q : Exit → Act → World → Prop) (df : List Deferred) (w0 : World)
    (h3 : SBox w0 b3 A) (h4 : SBox w0 b4 B) (h5 : SBox w0 b5 C) (h7 : SBox w0 b7 (UN A B C)) (h8 : SBox w0 b8 (ME A B C)) (h9 : SBox w0 b9 (NO A)) (hT : Tab w0)
    (x : Act) (w : World) (hB : Below w0.heap.size w0 w) (hdef : x.defers = df) (u3 : x.tmps.getD 3 undef = .pointer (some ⟨b3, 0, none⟩)) (u4 : x.tmps.getD 4 undef = .pointer (some ⟨b4, 0, none⟩)) (u5 : x.tmps.getD 5 undef = .pointer (some ⟨b5, 0, none⟩)) (u7 : x.tmps.getD 7 undef = .pointer (some ⟨b7, 0, none⟩)) (u8 : x.tmps.getD 8 undef = .pointer (some ⟨b8, 0, none⟩)) (u9 : x.tmps.getD 9 undef = .pointer (some ⟨b9, 0, none⟩))
    (p24 : salg10_val b3 b4 b5 b7 b8 b9 A B C 24 (x.tmps.getD 102 undef) w)
    : wpOpIn F n Tryd.prog salg10_ops Q 27 (fun a' w' => ∃ v, a' = x.put (some 105) v ∧ (v = sv A) ∧ Below w.heap.size w w') x w := by
  have ho : salg10_ops[27]? = some salg10_o27 := rfl
  simp only [Array.getD_eq_getD_getElem?] at u3 u4 u5 u7 u8 u9
  have q24 : x.tmps.getD 102 undef = .bool false := p24
  simp only [Array.getD_eq_getD_getElem?] at q24
  have e24 : (salg10_ops[24]?.bind fun x => x.dst) = some 102 := rfl
  have g24 := get_someT q24 (fun h => by cases h)
  have hsb := h3.below hB h3.lt
  have c0 := hsb.cell 0 (by omega)
  have c1 := hsb.cell 1 (by omega)
  have c2 := hsb.cell 2 (by omega)
  have c3 := hsb.cell 3 (by omega)
  refine wpOpIn_stepT hF ho (fun K hK => ?_)
  clear ho
  rw [Oper.semAt_plain F _ _ (by intro c h; cases h)]
  simp only [salg10_o27]
  go_simp
  exact hK _ _ ⟨_, act_putD x hdef _ _, rfl, Below.refl _ _⟩
set_option maxRecDepth 100000 in
set_option maxHeartbeats 2000000 in
theorem salg10_s28 {F : Fence} (hF : Wide F) {n : Nat} (b3 b4 b5 b7 b8 b9 : Nat) (A B C : Nat → Bool) (Q : Exit → Act → World → Prop) (df : List Deferred) (w0 : World)
    (h3 : SBox w0 b3 A) (h4 : SBox w0 b4 B) (h5 : SBox w0 b5 C) (h7 : SBox w0 b7 (UN A B C)) (h8 : SBox w0 b8 (ME A B C)) (h9 : SBox w0 b9 (NO A)) (hT : Tab w0)
    (x : Act) (w : World) (hB : Below w0.heap.size w0 w) (hdef : x.defers = df) (u3 : x.tmps.getD 3 undef = .pointer (some ⟨b3, 0, none⟩)) (u4 : x.tmps.getD 4 undef = .pointer (some ⟨b4, 0, none⟩)) (u5 : x.tmps.getD 5 undef = .pointer (some ⟨b5, 0, none⟩)) (u7 : x.tmps.getD 7 undef = .pointer (some ⟨b7, 0, none⟩)) (u8 : x.tmps.getD 8 undef = .pointer (some ⟨b8, 0, none⟩)) (u9 : x.tmps.getD 9 undef = .pointer (some ⟨b9, 0, none⟩))
    (p26 : salg10_val b3 b4 b5 b7 b8 b9 A B C 26 (x.tmps.getD 104 undef) w)
    (p27 : salg10_val b3 b4 b5 b7 b8 b9 A B C 27 (x.tmps.getD 105 undef) w)
    (p24 : salg10_val b3 b4 b5 b7 b8 b9 A B C 24 (x.tmps.getD 102 undef) w)
    : wpOpIn F n Tryd.prog salg10_ops Q 28 (fun a' w' => ∃ v, a' = x.put (some 106) v ∧ (v = .bool false) ∧ Below w.heap.size w w') x w := by
  have ho : salg10_ops[28]? = some salg10_o28 := rfl
  simp only [Array.getD_eq_getD_getElem?] at u3 u4 u5 u7 u8 u9
  have q26 : x.tmps.getD 104 undef = sv (NO (NO A)) := p26
  have q27 : x.tmps.getD 105 undef = sv A := p27
  have q24 : x.tmps.getD 102 undef = .bool false := p24
  simp only [Array.getD_eq_getD_getElem?] at q26 q27 q24
  have e24 : (salg10_ops[24]?.bind fun x => x.dst) = some 102 := rfl
  have g24 := get_someT q24 (fun h => by cases h)
  simp only [sv, st, sc] at q26 q27
  have he := fun W => eqSt (NO (NO A)) A W true ⟨fun _ => fun b _ => by simp [NO], fun _ => rfl⟩
  simp only [st, sc] at he
  refine wpOpIn_stepT hF ho (fun K hK => ?_)
  clear ho
  rw [Oper.semAt_plain F _ _ (by intro c h; cases h)]
  simp only [salg10_o28]
  go_simp
  exact hK _ _ ⟨_, act_putD x hdef _ _, rfl, Below.refl _ _⟩
set_option maxRecDepth 100000 in
set_option maxHeartbeats 2000000 in
theorem salg10_s29 {F : Fence} (hF : Wide F) {n : Nat} (b3 b4 b5 b7 b8 b9 : Nat) (A B C : Nat → Bool) (Q : Exit → Act → World → Prop) (df : List Deferred) (w0 : World)
    (h3 : SBox w0 b3 A) (h4 : SBox w0 b4 B) (h5 : SBox w0 b5 C) (h7 : SBox w0 b7 (UN A B C)) (h8 : SBox w0 b8 (ME A B C)) (h9 : SBox w0 b9 (NO A)) (hT : Tab w0)
    (x : Act) (w : World) (hB : Below w0.heap.size w0 w) (hdef : x.defers = df) (u3 : x.tmps.getD 3 undef = .pointer (some ⟨b3, 0, none⟩)) (u4 : x.tmps.getD 4 undef = .pointer (some ⟨b4, 0, none⟩)) (u5 : x.tmps.getD 5 undef = .pointer (some ⟨b5, 0, none⟩)) (u7 : x.tmps.getD 7 undef = .pointer (some ⟨b7, 0, none⟩)) (u8 : x.tmps.getD 8 undef = .pointer (some ⟨b8, 0, none⟩)) (u9 : x.tmps.getD 9 undef = .pointer (some ⟨b9, 0, none⟩))
    (p24 : salg10_val b3 b4 b5 b7 b8 b9 A B C 24 (x.tmps.getD 102 undef) w)
    (p28 : salg10_val b3 b4 b5 b7 b8 b9 A B C 28 (x.tmps.getD 106 undef) w)
    : wpOpIn F n Tryd.prog salg10_ops Q 29 (fun a' w' => ∃ v, a' = x.put (some 107) v ∧ (v = .bool false) ∧ Below w.heap.size w w') x w := by
  have ho : salg10_ops[29]? = some salg10_o29 := rfl
  simp only [Array.getD_eq_getD_getElem?] at u3 u4 u5 u7 u8 u9
  have q24 : x.tmps.getD 102 undef = .bool false := p24
  have q28 : x.tmps.getD 106 undef = .bool false := p28
  simp only [Array.getD_eq_getD_getElem?] at q24 q28
  refine wpOpIn_plain ho rfl (oper_inK hF.fn (fun K hK => ?_))
  clear ho
  rw [Oper.semAt_plain F _ _ (by intro c h; cases h)]
  simp only [salg10_o29]
  go_simp
  exact hK _ _ ⟨_, act_putD x hdef _ _, rfl, Below.refl _ _⟩

set_option maxRecDepth 100000 in
set_option maxHeartbeats 4000000 in
theorem salg10 {F : Fence} (hF : Wide F) {n : Nat} (b3 b4 b5 b7 b8 b9 : Nat) (A B C : Nat → Bool) (Q : Exit → Act → World → Prop) (t0 : Array Value) (df : List Deferred) (w0 : World) (ht : t0.size = 143)
    (hs3 : t0.getD 3 undef = .pointer (some ⟨b3, 0, none⟩)) (hs4 : t0.getD 4 undef = .pointer (some ⟨b4, 0, none⟩)) (hs5 : t0.getD 5 undef = .pointer (some ⟨b5, 0, none⟩)) (hs7 : t0.getD 7 undef = .pointer (some ⟨b7, 0, none⟩)) (hs8 : t0.getD 8 undef = .pointer (some ⟨b8, 0, none⟩)) (hs9 : t0.getD 9 undef = .pointer (some ⟨b9, 0, none⟩))
    (h3 : SBox w0 b3 A) (h4 : SBox w0 b4 B) (h5 : SBox w0 b5 C) (h7 : SBox w0 b7 (UN A B C)) (h8 : SBox w0 b8 (ME A B C)) (h9 : SBox w0 b9 (NO A)) (hT : Tab w0)
    (hQ : ∀ (vs : Nat → Value) (w : World), Below w0.heap.size w0 w → (vs 107 = .bool false) → Q .normal { tmps := [78, 79, 80, 81, 82, 83, 84, 85, 86, 87, 88, 89, 90, 91, 92, 93, 94, 95, 96, 97, 98, 99, 100, 101, 102, 103, 104, 105, 106, 107].foldl (fun y d => y.setIfInBounds d (vs d)) t0, defers := df } w) :
    (Code.region 10 salg10_ops true).wpIn F n Tryd.prog Q { tmps := t0, defers := df } w0 := by
  refine wpIn_region_tail 30 (by decide) (by kernel_rfl) (fun a b => Below a.heap.size a b) (salg10_val b3 b4 b5 b7 b8 b9 A B C) t0 df w0 (by rw [ht]; kernel_rfl) (by kernel_rfl) (by kernel_rfl) (by kernel_rfl) ((Below.refl _ _).drew) (fun _ _ _ h k => h.trans (k.mono h.size)) (salg10_below b3 b4 b5 b7 b8 b9 A B C) ?_ ?_
  · intro j o ho hj x w hB hdef hsz hs hdeps
    have hs' : ∀ s, ¬ salg10_mem s → x.tmps.getD s undef = t0.getD s undef := fun s hn => hs s (fun j hj e => hn (by rw [e]; exact salg10_slots j hj))
    have u3 := (hs' 3 (by decide)).trans hs3
    have u4 := (hs' 4 (by decide)).trans hs4
    have u5 := (hs' 5 (by decide)).trans hs5
    have u7 := (hs' 7 (by decide)).trans hs7
    have u8 := (hs' 8 (by decide)).trans hs8
    have u9 := (hs' 9 (by decide)).trans hs9
    match j, ho, hj with
    | 0, ho, _ =>
      have e : o = salg10_o0 := (Option.some.inj ho).symm
      subst e
      exact salg10_s0 hF b3 b4 b5 b7 b8 b9 A B C Q df w0 h3 h4 h5 h7 h8 h9 hT x w hB hdef u3 u4 u5 u7 u8 u9 
    | 1, ho, _ =>
      have e : o = salg10_o1 := (Option.some.inj ho).symm
      subst e
      exact salg10_s1 hF b3 b4 b5 b7 b8 b9 A B C Q df w0 h3 h4 h5 h7 h8 h9 hT x w hB hdef u3 u4 u5 u7 u8 u9 (hdeps { on := 0, ground := Ground.data } (by simp) rfl)
    | 2, ho, _ =>
      have e : o = salg10_o2 := (Option.some.inj ho).symm
      subst e
      exact salg10_s2 hF b3 b4 b5 b7 b8 b9 A B C Q df w0 h3 h4 h5 h7 h8 h9 hT x w hB hdef u3 u4 u5 u7 u8 u9 
    | 3, ho, _ =>
      have e : o = salg10_o3 := (Option.some.inj ho).symm
      subst e
      exact salg10_s3 hF b3 b4 b5 b7 b8 b9 A B C Q df w0 h3 h4 h5 h7 h8 h9 hT x w hB hdef u3 u4 u5 u7 u8 u9 (hdeps { on := 2, ground := Ground.data } (by simp) rfl)
    | 4, ho, _ =>
      have e : o = salg10_o4 := (Option.some.inj ho).symm
      subst e
      exact salg10_s4 hF b3 b4 b5 b7 b8 b9 A B C Q df w0 h3 h4 h5 h7 h8 h9 hT x w hB hdef u3 u4 u5 u7 u8 u9 
    | 5, ho, _ =>
      have e : o = salg10_o5 := (Option.some.inj ho).symm
      subst e
      exact salg10_s5 hF b3 b4 b5 b7 b8 b9 A B C Q df w0 h3 h4 h5 h7 h8 h9 hT x w hB hdef u3 u4 u5 u7 u8 u9 (hdeps { on := 4, ground := Ground.data } (by simp) rfl)
    | 6, ho, _ =>
      have e : o = salg10_o6 := (Option.some.inj ho).symm
      subst e
      exact salg10_s6 hF b3 b4 b5 b7 b8 b9 A B C Q df w0 h3 h4 h5 h7 h8 h9 hT x w hB hdef u3 u4 u5 u7 u8 u9 
    | 7, ho, _ =>
      have e : o = salg10_o7 := (Option.some.inj ho).symm
      subst e
      exact salg10_s7 hF b3 b4 b5 b7 b8 b9 A B C Q df w0 h3 h4 h5 h7 h8 h9 hT x w hB hdef u3 u4 u5 u7 u8 u9 (hdeps { on := 6, ground := Ground.data } (by simp) rfl)
    | 8, ho, _ =>
      have e : o = salg10_o8 := (Option.some.inj ho).symm
      subst e
      exact salg10_s8 hF b3 b4 b5 b7 b8 b9 A B C Q df w0 h3 h4 h5 h7 h8 h9 hT x w hB hdef u3 u4 u5 u7 u8 u9 (hdeps { on := 3, ground := Ground.data } (by simp) rfl) (hdeps { on := 5, ground := Ground.data } (by simp) rfl) (hdeps { on := 7, ground := Ground.data } (by simp) rfl)
    | 9, ho, _ =>
      have e : o = salg10_o9 := (Option.some.inj ho).symm
      subst e
      exact salg10_s9 hF b3 b4 b5 b7 b8 b9 A B C Q df w0 h3 h4 h5 h7 h8 h9 hT x w hB hdef u3 u4 u5 u7 u8 u9 (hdeps { on := 8, ground := Ground.data } (by simp) rfl)
    | 10, ho, _ =>
      have e : o = salg10_o10 := (Option.some.inj ho).symm
      subst e
      exact salg10_s10 hF b3 b4 b5 b7 b8 b9 A B C Q df w0 h3 h4 h5 h7 h8 h9 hT x w hB hdef u3 u4 u5 u7 u8 u9 (hdeps { on := 1, ground := Ground.data } (by simp) rfl) (hdeps { on := 9, ground := Ground.data } (by simp) rfl)
    | 11, ho, _ =>
      have e : o = salg10_o11 := (Option.some.inj ho).symm
      subst e
      exact salg10_s11 hF b3 b4 b5 b7 b8 b9 A B C Q df w0 h3 h4 h5 h7 h8 h9 hT x w hB hdef u3 u4 u5 u7 u8 u9 (hdeps { on := 10, ground := Ground.data } (by simp) rfl)
    | 12, ho, _ =>
      have e : o = salg10_o12 := (Option.some.inj ho).symm
      subst e
      exact salg10_s12 hF b3 b4 b5 b7 b8 b9 A B C Q df w0 h3 h4 h5 h7 h8 h9 hT x w hB hdef u3 u4 u5 u7 u8 u9 (hdeps { on := 11, ground := Ground.guard } (by simp) rfl)
    | 13, ho, _ =>
      have e : o = salg10_o13 := (Option.some.inj ho).symm
      subst e
      exact salg10_s13 hF b3 b4 b5 b7 b8 b9 A B C Q df w0 h3 h4 h5 h7 h8 h9 hT x w hB hdef u3 u4 u5 u7 u8 u9 (hdeps { on := 12, ground := Ground.data } (by simp) rfl) (hdeps { on := 11, ground := Ground.guard } (by simp) rfl)
    | 14, ho, _ =>
      have e : o = salg10_o14 := (Option.some.inj ho).symm
      subst e
      exact salg10_s14 hF b3 b4 b5 b7 b8 b9 A B C Q df w0 h3 h4 h5 h7 h8 h9 hT x w hB hdef u3 u4 u5 u7 u8 u9 (hdeps { on := 11, ground := Ground.guard } (by simp) rfl)
    | 15, ho, _ =>
      have e : o = salg10_o15 := (Option.some.inj ho).symm
      subst e
      exact salg10_s15 hF b3 b4 b5 b7 b8 b9 A B C Q df w0 h3 h4 h5 h7 h8 h9 hT x w hB hdef u3 u4 u5 u7 u8 u9 (hdeps { on := 14, ground := Ground.data } (by simp) rfl) (hdeps { on := 11, ground := Ground.guard } (by simp) rfl)
    | 16, ho, _ =>
      have e : o = salg10_o16 := (Option.some.inj ho).symm
      subst e
      exact salg10_s16 hF b3 b4 b5 b7 b8 b9 A B C Q df w0 h3 h4 h5 h7 h8 h9 hT x w hB hdef u3 u4 u5 u7 u8 u9 (hdeps { on := 11, ground := Ground.guard } (by simp) rfl)
    | 17, ho, _ =>
      have e : o = salg10_o17 := (Option.some.inj ho).symm
      subst e
      exact salg10_s17 hF b3 b4 b5 b7 b8 b9 A B C Q df w0 h3 h4 h5 h7 h8 h9 hT x w hB hdef u3 u4 u5 u7 u8 u9 (hdeps { on := 16, ground := Ground.data } (by simp) rfl) (hdeps { on := 11, ground := Ground.guard } (by simp) rfl)
    | 18, ho, _ =>
      have e : o = salg10_o18 := (Option.some.inj ho).symm
      subst e
      exact salg10_s18 hF b3 b4 b5 b7 b8 b9 A B C Q df w0 h3 h4 h5 h7 h8 h9 hT x w hB hdef u3 u4 u5 u7 u8 u9 (hdeps { on := 11, ground := Ground.guard } (by simp) rfl)
    | 19, ho, _ =>
      have e : o = salg10_o19 := (Option.some.inj ho).symm
      subst e
      exact salg10_s19 hF b3 b4 b5 b7 b8 b9 A B C Q df w0 h3 h4 h5 h7 h8 h9 hT x w hB hdef u3 u4 u5 u7 u8 u9 (hdeps { on := 18, ground := Ground.data } (by simp) rfl) (hdeps { on := 11, ground := Ground.guard } (by simp) rfl)
    | 20, ho, _ =>
      have e : o = salg10_o20 := (Option.some.inj ho).symm
      subst e
      exact salg10_s20 hF b3 b4 b5 b7 b8 b9 A B C Q df w0 h3 h4 h5 h7 h8 h9 hT x w hB hdef u3 u4 u5 u7 u8 u9 (hdeps { on := 15, ground := Ground.data } (by simp) rfl) (hdeps { on := 17, ground := Ground.data } (by simp) rfl) (hdeps { on := 19, ground := Ground.data } (by simp) rfl) (hdeps { on := 11, ground := Ground.guard } (by simp) rfl)
    | 21, ho, _ =>
      have e : o = salg10_o21 := (Option.some.inj ho).symm
      subst e
      exact salg10_s21 hF b3 b4 b5 b7 b8 b9 A B C Q df w0 h3 h4 h5 h7 h8 h9 hT x w hB hdef u3 u4 u5 u7 u8 u9 (hdeps { on := 20, ground := Ground.data } (by simp) rfl) (hdeps { on := 11, ground := Ground.guard } (by simp) rfl)
    | 22, ho, _ =>
      have e : o = salg10_o22 := (Option.some.inj ho).symm
      subst e
      exact salg10_s22 hF b3 b4 b5 b7 b8 b9 A B C Q df w0 h3 h4 h5 h7 h8 h9 hT x w hB hdef u3 u4 u5 u7 u8 u9 (hdeps { on := 13, ground := Ground.data } (by simp) rfl) (hdeps { on := 21, ground := Ground.data } (by simp) rfl) (hdeps { on := 11, ground := Ground.guard } (by simp) rfl)
    | 23, ho, _ =>
      have e : o = salg10_o23 := (Option.some.inj ho).symm
      subst e
      exact salg10_s23 hF b3 b4 b5 b7 b8 b9 A B C Q df w0 h3 h4 h5 h7 h8 h9 hT x w hB hdef u3 u4 u5 u7 u8 u9 (hdeps { on := 11, ground := Ground.data } (by simp) rfl) (hdeps { on := 22, ground := Ground.data } (by simp) rfl)
    | 24, ho, _ =>
      have e : o = salg10_o24 := (Option.some.inj ho).symm
      subst e
      exact salg10_s24 hF b3 b4 b5 b7 b8 b9 A B C Q df w0 h3 h4 h5 h7 h8 h9 hT x w hB hdef u3 u4 u5 u7 u8 u9 (hdeps { on := 23, ground := Ground.data } (by simp) rfl)
    | 25, ho, _ =>
      have e : o = salg10_o25 := (Option.some.inj ho).symm
      subst e
      exact salg10_s25 hF b3 b4 b5 b7 b8 b9 A B C Q df w0 h3 h4 h5 h7 h8 h9 hT x w hB hdef u3 u4 u5 u7 u8 u9 (hdeps { on := 24, ground := Ground.guard } (by simp) rfl)
    | 26, ho, _ =>
      have e : o = salg10_o26 := (Option.some.inj ho).symm
      subst e
      exact salg10_s26 hF b3 b4 b5 b7 b8 b9 A B C Q df w0 h3 h4 h5 h7 h8 h9 hT x w hB hdef u3 u4 u5 u7 u8 u9 (hdeps { on := 25, ground := Ground.data } (by simp) rfl) (hdeps { on := 24, ground := Ground.guard } (by simp) rfl)
    | 27, ho, _ =>
      have e : o = salg10_o27 := (Option.some.inj ho).symm
      subst e
      exact salg10_s27 hF b3 b4 b5 b7 b8 b9 A B C Q df w0 h3 h4 h5 h7 h8 h9 hT x w hB hdef u3 u4 u5 u7 u8 u9 (hdeps { on := 24, ground := Ground.guard } (by simp) rfl)
    | 28, ho, _ =>
      have e : o = salg10_o28 := (Option.some.inj ho).symm
      subst e
      exact salg10_s28 hF b3 b4 b5 b7 b8 b9 A B C Q df w0 h3 h4 h5 h7 h8 h9 hT x w hB hdef u3 u4 u5 u7 u8 u9 (hdeps { on := 26, ground := Ground.data } (by simp) rfl) (hdeps { on := 27, ground := Ground.data } (by simp) rfl) (hdeps { on := 24, ground := Ground.guard } (by simp) rfl)
    | 29, ho, _ =>
      have e : o = salg10_o29 := (Option.some.inj ho).symm
      subst e
      exact salg10_s29 hF b3 b4 b5 b7 b8 b9 A B C Q df w0 h3 h4 h5 h7 h8 h9 hT x w hB hdef u3 u4 u5 u7 u8 u9 (hdeps { on := 24, ground := Ground.data } (by simp) rfl) (hdeps { on := 28, ground := Ground.data } (by simp) rfl)
    | k + 30, _, hj => omega
  · intro x w hB hdef hsz hs hv
    have hx := frame_sets x.tmps t0 hsz [78, 79, 80, 81, 82, 83, 84, 85, 86, 87, 88, 89, 90, 91, 92, 93, 94, 95, 96, 97, 98, 99, 100, 101, 102, 103, 104, 105, 106, 107] (fun s hn => hs s (fun j hj e => hn (by rw [e]; exact salg10_slots j hj)))
    have hq := hQ (fun d => x.tmps.getD d undef) w hB (hv 29 (by decide))
    obtain ⟨T, Df⟩ := x
    dsimp only at hx hdef hq
    subst hdef
    rw [← hx] at hq
    exact hq
abbrev salg13_o0 : Oper := { dst := some 110, op := Op.load 24 (Operand.tmp 12), type := 24, pos := "outright.go:26", after := #[], guard := none }
abbrev salg13_o1 : Oper := { dst := some 111, op := Op.call { callee := Callee.value (Operand.func 24), args := #[Operand.tmp 110], argTypes := #[24] }, type := 24, pos := "outright.go:26", after := #[{ on := 0, ground := Ground.data }], guard := none }
abbrev salg13_o2 : Oper := { dst := some 112, op := Op.load 24 (Operand.tmp 12), type := 24, pos := "outright.go:26", after := #[], guard := none }
abbrev salg13_o3 : Oper := { dst := some 113, op := Op.binOp BinOp.eql 24 (Operand.tmp 111) (Operand.tmp 112) 24, type := 4, pos := "outright.go:26", after := #[{ on := 1, ground := Ground.data }, { on := 2, ground := Ground.data }], guard := none }
abbrev salg13_o4 : Oper := { dst := some 114, op := Op.move (Operand.tmp 113), type := 4, pos := "outright.go:26", after := #[{ on := 3, ground := Ground.data }, { on := 1, ground := Ground.chain }], guard := none }
abbrev salg13_o5 : Oper := { dst := some 115, op := Op.load 24 (Operand.tmp 12), type := 24, pos := "outright.go:26", after := #[{ on := 4, ground := Ground.guard }], guard := some (4, true) }
abbrev salg13_o6 : Oper := { dst := some 116, op := Op.load 24 (Operand.tmp 3), type := 24, pos := "outright.go:26", after := #[{ on := 4, ground := Ground.guard }], guard := some (4, true) }
abbrev salg13_o7 : Oper := { dst := some 117, op := Op.buildSlice 31 2 #[(0, Operand.tmp 115), (1, Operand.tmp 116)], type := 31, pos := "outright.go:26", after := #[{ on := 5, ground := Ground.data }, { on := 6, ground := Ground.data }, { on := 4, ground := Ground.guard }], guard := some (4, true) }
abbrev salg13_o8 : Oper := { dst := some 118, op := Op.call { callee := Callee.value (Operand.func 19), args := #[Operand.tmp 117], argTypes := #[31] }, type := 24, pos := "outright.go:26", after := #[{ on := 7, ground := Ground.data }, { on := 4, ground := Ground.chain }, { on := 4, ground := Ground.guard }], guard := some (4, true) }
abbrev salg13_o9 : Oper := { dst := some 119, op := Op.load 24 (Operand.tmp 3), type := 24, pos := "outright.go:26", after := #[{ on := 4, ground := Ground.guard }], guard := some (4, true) }
abbrev salg13_o10 : Oper := { dst := some 120, op := Op.binOp BinOp.eql 24 (Operand.tmp 118) (Operand.tmp 119) 24, type := 4, pos := "outright.go:26", after := #[{ on := 8, ground := Ground.data }, { on := 9, ground := Ground.data }, { on := 4, ground := Ground.guard }], guard := some (4, true) }
abbrev salg13_o11 : Oper := { dst := some 121, op := Op.pick (Operand.tmp 114) (Operand.tmp 120) (Operand.const (Value.bool false)), type := 4, pos := "outright.go:26", after := #[{ on := 4, ground := Ground.data }, { on := 10, ground := Ground.data }], guard := none }
abbrev salg13_o12 : Oper := { dst := some 122, op := Op.move (Operand.tmp 121), type := 4, pos := "outright.go:26", after := #[{ on := 11, ground := Ground.data }, { on := 8, ground := Ground.chain }], guard := none }
abbrev salg13_o13 : Oper := { dst := some 123, op := Op.load 24 (Operand.tmp 3), type := 24, pos := "outright.go:26", after := #[{ on := 12, ground := Ground.guard }], guard := some (12, true) }
abbrev salg13_o14 : Oper := { dst := some 124, op := Op.load 24 (Operand.tmp 4), type := 24, pos := "outright.go:26", after := #[{ on := 12, ground := Ground.guard }], guard := some (12, true) }
abbrev salg13_o15 : Oper := { dst := some 125, op := Op.buildSlice 31 2 #[(0, Operand.tmp 123), (1, Operand.tmp 124)], type := 31, pos := "outright.go:26", after := #[{ on := 13, ground := Ground.data }, { on := 14, ground := Ground.data }, { on := 12, ground := Ground.guard }], guard := some (12, true) }
abbrev salg13_o16 : Oper := { dst := some 126, op := Op.call { callee := Callee.value (Operand.func 17), args := #[Operand.tmp 125], argTypes := #[31] }, type := 24, pos := "outright.go:26", after := #[{ on := 15, ground := Ground.data }, { on := 12, ground := Ground.chain }, { on := 12, ground := Ground.guard }], guard := some (12, true) }
abbrev salg13_o17 : Oper := { dst := some 127, op := Op.call { callee := Callee.value (Operand.func 24), args := #[Operand.tmp 126], argTypes := #[24] }, type := 24, pos := "outright.go:26", after := #[{ on := 16, ground := Ground.data }, { on := 16, ground := Ground.chain }, { on := 12, ground := Ground.guard }], guard := some (12, true) }
abbrev salg13_o18 : Oper := { dst := some 128, op := Op.load 24 (Operand.tmp 12), type := 24, pos := "outright.go:26", after := #[{ on := 12, ground := Ground.guard }], guard := some (12, true) }
abbrev salg13_o19 : Oper := { dst := some 129, op := Op.load 24 (Operand.tmp 4), type := 24, pos := "outright.go:26", after := #[{ on := 12, ground := Ground.guard }], guard := some (12, true) }
abbrev salg13_o20 : Oper := { dst := some 130, op := Op.call { callee := Callee.value (Operand.func 24), args := #[Operand.tmp 129], argTypes := #[24] }, type := 24, pos := "outright.go:26", after := #[{ on := 19, ground := Ground.data }, { on := 17, ground := Ground.chain }, { on := 12, ground := Ground.guard }], guard := some (12, true) }
abbrev salg13_o21 : Oper := { dst := some 131, op := Op.buildSlice 31 2 #[(0, Operand.tmp 128), (1, Operand.tmp 130)], type := 31, pos := "outright.go:26", after := #[{ on := 18, ground := Ground.data }, { on := 20, ground := Ground.data }, { on := 12, ground := Ground.guard }], guard := some (12, true) }
abbrev salg13_o22 : Oper := { dst := some 132, op := Op.call { callee := Callee.value (Operand.func 17), args := #[Operand.tmp 131], argTypes := #[31] }, type := 24, pos := "outright.go:26", after := #[{ on := 21, ground := Ground.data }, { on := 20, ground := Ground.chain }, { on := 12, ground := Ground.guard }], guard := some (12, true) }
abbrev salg13_o23 : Oper := { dst := some 133, op := Op.binOp BinOp.eql 24 (Operand.tmp 127) (Operand.tmp 132) 24, type := 4, pos := "outright.go:26", after := #[{ on := 17, ground := Ground.data }, { on := 22, ground := Ground.data }, { on := 12, ground := Ground.guard }], guard := some (12, true) }
abbrev salg13_o24 : Oper := { dst := some 134, op := Op.pick (Operand.tmp 122) (Operand.tmp 133) (Operand.const (Value.bool false)), type := 4, pos := "outright.go:26", after := #[{ on := 12, ground := Ground.data }, { on := 23, ground := Ground.data }], guard := none }
abbrev salg13_o25 : Oper := { dst := some 135, op := Op.move (Operand.tmp 134), type := 4, pos := "outright.go:26", after := #[{ on := 24, ground := Ground.data }, { on := 22, ground := Ground.chain }], guard := none }
abbrev salg13_o26 : Oper := { dst := some 136, op := Op.load 24 (Operand.tmp 3), type := 24, pos := "outright.go:26", after := #[{ on := 25, ground := Ground.guard }], guard := some (25, true) }
abbrev salg13_o27 : Oper := { dst := some 137, op := Op.call { callee := Callee.value (Operand.func 25), args := #[Operand.tmp 136], argTypes := #[24] }, type := 3, pos := "outright.go:26", after := #[{ on := 26, ground := Ground.data }, { on := 25, ground := Ground.chain }, { on := 25, ground := Ground.guard }], guard := some (25, true) }
abbrev salg13_o28 : Oper := { dst := some 138, op := Op.load 24 (Operand.tmp 9), type := 24, pos := "outright.go:26", after := #[{ on := 25, ground := Ground.guard }], guard := some (25, true) }
abbrev salg13_o29 : Oper := { dst := some 139, op := Op.call { callee := Callee.value (Operand.func 25), args := #[Operand.tmp 138], argTypes := #[24] }, type := 3, pos := "outright.go:26", after := #[{ on := 28, ground := Ground.data }, { on := 27, ground := Ground.chain }, { on := 25, ground := Ground.guard }], guard := some (25, true) }
abbrev salg13_o30 : Oper := { dst := some 140, op := Op.binOp BinOp.add 3 (Operand.tmp 137) (Operand.tmp 139) 3, type := 3, pos := "outright.go:26", after := #[{ on := 27, ground := Ground.data }, { on := 29, ground := Ground.data }, { on := 25, ground := Ground.guard }], guard := some (25, true) }
abbrev salg13_o31 : Oper := { dst := some 141, op := Op.binOp BinOp.eql 3 (Operand.tmp 140) (Operand.const (Value.int IntKind.i64 256)) 3, type := 4, pos := "outright.go:26", after := #[{ on := 30, ground := Ground.data }, { on := 25, ground := Ground.guard }], guard := some (25, true) }
abbrev salg13_o32 : Oper := { dst := some 142, op := Op.pick (Operand.tmp 135) (Operand.tmp 141) (Operand.const (Value.bool false)), type := 4, pos := "outright.go:26", after := #[{ on := 25, ground := Ground.data }, { on := 31, ground := Ground.data }], guard := none }
abbrev salg13_o33 : Oper := { dst := some 6, op := Op.assign (Operand.tmp 142), type := 4, pos := "outright.go:26", after := #[{ on := 32, ground := Ground.data }, { on := 29, ground := Ground.chain }, { on := 0, ground := Ground.phase }, { on := 1, ground := Ground.phase }, { on := 2, ground := Ground.phase }, { on := 3, ground := Ground.phase }, { on := 4, ground := Ground.phase }, { on := 5, ground := Ground.phase }, { on := 6, ground := Ground.phase }, { on := 7, ground := Ground.phase }, { on := 8, ground := Ground.phase }, { on := 9, ground := Ground.phase }, { on := 10, ground := Ground.phase }, { on := 11, ground := Ground.phase }, { on := 12, ground := Ground.phase }, { on := 13, ground := Ground.phase }, { on := 14, ground := Ground.phase }, { on := 15, ground := Ground.phase }, { on := 16, ground := Ground.phase }, { on := 17, ground := Ground.phase }, { on := 18, ground := Ground.phase }, { on := 19, ground := Ground.phase }, { on := 20, ground := Ground.phase }, { on := 21, ground := Ground.phase }, { on := 22, ground := Ground.phase }, { on := 23, ground := Ground.phase }, { on := 24, ground := Ground.phase }, { on := 25, ground := Ground.phase }, { on := 26, ground := Ground.phase }, { on := 27, ground := Ground.phase }, { on := 28, ground := Ground.phase }, { on := 29, ground := Ground.phase }, { on := 30, ground := Ground.phase }, { on := 31, ground := Ground.phase }, { on := 32, ground := Ground.phase }], guard := none }
def salg13_ops : Array Oper := #[salg13_o0, salg13_o1, salg13_o2, salg13_o3, salg13_o4, salg13_o5, salg13_o6, salg13_o7, salg13_o8, salg13_o9, salg13_o10, salg13_o11, salg13_o12, salg13_o13, salg13_o14, salg13_o15, salg13_o16, salg13_o17, salg13_o18, salg13_o19, salg13_o20, salg13_o21, salg13_o22, salg13_o23, salg13_o24, salg13_o25, salg13_o26, salg13_o27, salg13_o28, salg13_o29, salg13_o30, salg13_o31, salg13_o32, salg13_o33]
abbrev salg13_mem (s : Nat) : Prop := s ∈ [110, 111, 112, 113, 114, 115, 116, 117, 118, 119, 120, 121, 122, 123, 124, 125, 126, 127, 128, 129, 130, 131, 132, 133, 134, 135, 136, 137, 138, 139, 140, 141, 142, 6]
set_option maxRecDepth 100000 in
theorem salg13_slots : ∀ j, j < 34 → salg13_mem (slotOf salg13_ops j) := by
  intro j hj
  match j, hj with
  | 0, _ => exact (by decide : salg13_mem 110)
  | 1, _ => exact (by decide : salg13_mem 111)
  | 2, _ => exact (by decide : salg13_mem 112)
  | 3, _ => exact (by decide : salg13_mem 113)
  | 4, _ => exact (by decide : salg13_mem 114)
  | 5, _ => exact (by decide : salg13_mem 115)
  | 6, _ => exact (by decide : salg13_mem 116)
  | 7, _ => exact (by decide : salg13_mem 117)
  | 8, _ => exact (by decide : salg13_mem 118)
  | 9, _ => exact (by decide : salg13_mem 119)
  | 10, _ => exact (by decide : salg13_mem 120)
  | 11, _ => exact (by decide : salg13_mem 121)
  | 12, _ => exact (by decide : salg13_mem 122)
  | 13, _ => exact (by decide : salg13_mem 123)
  | 14, _ => exact (by decide : salg13_mem 124)
  | 15, _ => exact (by decide : salg13_mem 125)
  | 16, _ => exact (by decide : salg13_mem 126)
  | 17, _ => exact (by decide : salg13_mem 127)
  | 18, _ => exact (by decide : salg13_mem 128)
  | 19, _ => exact (by decide : salg13_mem 129)
  | 20, _ => exact (by decide : salg13_mem 130)
  | 21, _ => exact (by decide : salg13_mem 131)
  | 22, _ => exact (by decide : salg13_mem 132)
  | 23, _ => exact (by decide : salg13_mem 133)
  | 24, _ => exact (by decide : salg13_mem 134)
  | 25, _ => exact (by decide : salg13_mem 135)
  | 26, _ => exact (by decide : salg13_mem 136)
  | 27, _ => exact (by decide : salg13_mem 137)
  | 28, _ => exact (by decide : salg13_mem 138)
  | 29, _ => exact (by decide : salg13_mem 139)
  | 30, _ => exact (by decide : salg13_mem 140)
  | 31, _ => exact (by decide : salg13_mem 141)
  | 32, _ => exact (by decide : salg13_mem 142)
  | 33, _ => exact (by decide : salg13_mem 6)
  | k + 34, hj => omega
def salg13_val (b3 b4 b9 b12 : Nat) (A B : Nat → Bool) : Nat → Value → World → Prop
  | 0, v, w => v = sv (fold A)
  | 1, v, w => v = sv (fold (fold A))
  | 2, v, w => v = sv (fold A)
  | 3, v, w => v = .bool true
  | 4, v, w => v = .bool true
  | 5, v, w => v = sv (fold A)
  | 6, v, w => v = sv A
  | 7, v, w => ∃ g, v = .slice (some ⟨g, 0, none⟩) 2 2 ∧ Sets w (some ⟨g, 0, none⟩) 2 (two (fold A) A)
  | 8, v, w => v = sv (allS (two (fold A) A) 2)
  | 9, v, w => v = sv A
  | 10, v, w => v = .bool true
  | 11, v, w => v = .bool true
  | 12, v, w => v = .bool true
  | 13, v, w => v = sv A
  | 14, v, w => v = sv B
  | 15, v, w => ∃ g, v = .slice (some ⟨g, 0, none⟩) 2 2 ∧ Sets w (some ⟨g, 0, none⟩) 2 (two A B)
  | 16, v, w => v = sv (anyS (two A B) 2)
  | 17, v, w => v = sv (fold (anyS (two A B) 2))
  | 18, v, w => v = sv (fold A)
  | 19, v, w => v = sv B
  | 20, v, w => v = sv (fold B)
  | 21, v, w => ∃ g, v = .slice (some ⟨g, 0, none⟩) 2 2 ∧ Sets w (some ⟨g, 0, none⟩) 2 (two (fold A) (fold B))
  | 22, v, w => v = sv (anyS (two (fold A) (fold B)) 2)
  | 23, v, w => v = .bool true
  | 24, v, w => v = .bool true
  | 25, v, w => v = .bool true
  | 26, v, w => v = sv A
  | 27, v, w => v = .int .i64 ((bl A 256).length : Nat)
  | 28, v, w => v = sv (NO A)
  | 29, v, w => v = .int .i64 ((bl (NO A) 256).length : Nat)
  | 30, v, w => v = .int .i64 256
  | 31, v, w => v = .bool true
  | 32, v, w => v = .bool true
  | 33, v, w => v = .bool true
  | _, _, _ => True
theorem salg13_below (b3 b4 b9 b12 : Nat) (A B : Nat → Bool) (w w' : World) (hb : Below w.heap.size w w') : ∀ j v, salg13_val b3 b4 b9 b12 A B j v w → salg13_val b3 b4 b9 b12 A B j v w' := by
  intro j v h
  match j, h with
  | 0, h => exact h
  | 1, h => exact h
  | 2, h => exact h
  | 3, h => exact h
  | 4, h => exact h
  | 5, h => exact h
  | 6, h => exact h
  | 7, h => obtain ⟨g, h1, h2⟩ := h; exact ⟨g, h1, h2.below hb⟩
  | 8, h => exact h
  | 9, h => exact h
  | 10, h => exact h
  | 11, h => exact h
  | 12, h => exact h
  | 13, h => exact h
  | 14, h => exact h
  | 15, h => obtain ⟨g, h1, h2⟩ := h; exact ⟨g, h1, h2.below hb⟩
  | 16, h => exact h
  | 17, h => exact h
  | 18, h => exact h
  | 19, h => exact h
  | 20, h => exact h
  | 21, h => obtain ⟨g, h1, h2⟩ := h; exact ⟨g, h1, h2.below hb⟩
  | 22, h => exact h
  | 23, h => exact h
  | 24, h => exact h
  | 25, h => exact h
  | 26, h => exact h
  | 27, h => exact h
  | 28, h => exact h
  | 29, h => exact h
  | 30, h => exact h
  | 31, h => exact h
  | 32, h => exact h
  | 33, h => exact h
  | _ + 34, h => exact h
set_option maxRecDepth 100000 in
set_option maxHeartbeats 2000000 in
theorem salg13_s0 {F : Fence} (hF : Wide F) {n : Nat} (b3 b4 b9 b12 : Nat) (A B : Nat → Bool) (Q : Exit → Act → World → Prop) (df : List Deferred) (w0 : World)
    (h3 : SBox w0 b3 A) (h4 : SBox w0 b4 B) (h9 : SBox w0 b9 (NO A)) (h12 : SBox w0 b12 (fold A)) (hT : Tab w0)
    (x : Act) (w : World) (hB : Below w0.heap.size w0 w) (hdef : x.defers = df) (u3 : x.tmps.getD 3 undef = .pointer (some ⟨b3, 0, none⟩)) (u4 : x.tmps.getD 4 undef = .pointer (some ⟨b4, 0, none⟩)) (u9 : x.tmps.getD 9 undef = .pointer (some ⟨b9, 0, none⟩)) (u12 : x.tmps.getD 12 undef = .pointer (some ⟨b12, 0, none⟩))
    : wpOpIn F n Tryd.prog salg13_ops Q 0 (fun a' w' => ∃ v, a' = x.put (some 110) v ∧ (v = sv (fold A)) ∧ Below w.heap.size w w') x w := by
  have ho : salg13_ops[0]? = some salg13_o0 := rfl
  simp only [Array.getD_eq_getD_getElem?] at u3 u4 u9 u12
  have hsb := h12.below hB h12.lt
  have c0 := hsb.cell 0 (by omega)
  have c1 := hsb.cell 1 (by omega)
  have c2 := hsb.cell 2 (by omega)
  have c3 := hsb.cell 3 (by omega)
  refine wpOpIn_plain ho rfl (oper_inK hF.fn (fun K hK => ?_))
  clear ho
  rw [Oper.semAt_plain F _ _ (by intro c h; cases h)]
  simp only [salg13_o0]
  go_simp
  exact hK _ _ ⟨_, act_putD x hdef _ _, rfl, Below.refl _ _⟩
set_option maxRecDepth 100000 in
set_option maxHeartbeats 2000000 in
theorem salg13_s1 {F : Fence} (hF : Wide F) {n : Nat} (b3 b4 b9 b12 : Nat) (A B : Nat → Bool) (Q : Exit → Act → World → Prop) (df : List Deferred) (w0 : World)
    (h3 : SBox w0 b3 A) (h4 : SBox w0 b4 B) (h9 : SBox w0 b9 (NO A)) (h12 : SBox w0 b12 (fold A)) (hT : Tab w0)
    (x : Act) (w : World) (hB : Below w0.heap.size w0 w) (hdef : x.defers = df) (u3 : x.tmps.getD 3 undef = .pointer (some ⟨b3, 0, none⟩)) (u4 : x.tmps.getD 4 undef = .pointer (some ⟨b4, 0, none⟩)) (u9 : x.tmps.getD 9 undef = .pointer (some ⟨b9, 0, none⟩)) (u12 : x.tmps.getD 12 undef = .pointer (some ⟨b12, 0, none⟩))
    (p0 : salg13_val b3 b4 b9 b12 A B 0 (x.tmps.getD 110 undef) w)
    : wpOpIn F n Tryd.prog salg13_ops Q 1 (fun a' w' => ∃ v, a' = x.put (some 111) v ∧ (v = sv (fold (fold A))) ∧ Below w.heap.size w w') x w := by
  have ho : salg13_ops[1]? = some salg13_o1 := rfl
  simp only [Array.getD_eq_getD_getElem?] at u3 u4 u9 u12
  have q0 : x.tmps.getD 110 undef = sv (fold A) := p0
  simp only [Array.getD_eq_getD_getElem?] at q0
  refine wpOpIn_plain ho rfl (oper_inK hF.fn (fun K hK => ?_))
  clear ho
  rw [Oper.semAt_plain F _ _ (by intro c h; cases h)]
  simp only [salg13_o1]
  go_simp
  refine ⟨hF.deep, (hF.call (fold_any (fold A) w (hT.below hB))).mono ?_⟩
  rintro e w' ⟨rfl, hb⟩
  exact hK _ _ ⟨_, act_putD x hdef _ _, rfl, hb⟩
set_option maxRecDepth 100000 in
set_option maxHeartbeats 2000000 in
theorem salg13_s2 {F : Fence} (hF : Wide F) {n : Nat} (b3 b4 b9 b12 : Nat) (A B : Nat → Bool) (Q : Exit → Act → World → Prop) (df : List Deferred) (w0 : World)
    (h3 : SBox w0 b3 A) (h4 : SBox w0 b4 B) (h9 : SBox w0 b9 (NO A)) (h12 : SBox w0 b12 (fold A)) (hT : Tab w0)
    (x : Act) (w : World) (hB : Below w0.heap.size w0 w) (hdef : x.defers = df) (u3 : x.tmps.getD 3 undef = .pointer (some ⟨b3, 0, none⟩)) (u4 : x.tmps.getD 4 undef = .pointer (some ⟨b4, 0, none⟩)) (u9 : x.tmps.getD 9 undef = .pointer (some ⟨b9, 0, none⟩)) (u12 : x.tmps.getD 12 undef = .pointer (some ⟨b12, 0, none⟩))
    : wpOpIn F n Tryd.prog salg13_ops Q 2 (fun a' w' => ∃ v, a' = x.put (some 112) v ∧ (v = sv (fold A)) ∧ Below w.heap.size w w') x w := by
  have ho : salg13_ops[2]? = some salg13_o2 := rfl
  simp only [Array.getD_eq_getD_getElem?] at u3 u4 u9 u12
  have hsb := h12.below hB h12.lt
  have c0 := hsb.cell 0 (by omega)
  have c1 := hsb.cell 1 (by omega)
  have c2 := hsb.cell 2 (by omega)
  have c3 := hsb.cell 3 (by omega)
  refine wpOpIn_plain ho rfl (oper_inK hF.fn (fun K hK => ?_))
  clear ho
  rw [Oper.semAt_plain F _ _ (by intro c h; cases h)]
  simp only [salg13_o2]
  go_simp
  exact hK _ _ ⟨_, act_putD x hdef _ _, rfl, Below.refl _ _⟩
set_option maxRecDepth 100000 in
set_option maxHeartbeats 2000000 in
theorem salg13_s3 {F : Fence} (hF : Wide F) {n : Nat} (b3 b4 b9 b12 : Nat) (A B : Nat → Bool) (Q : Exit → Act → World → Prop) (df : List Deferred) (w0 : World)
    (h3 : SBox w0 b3 A) (h4 : SBox w0 b4 B) (h9 : SBox w0 b9 (NO A)) (h12 : SBox w0 b12 (fold A)) (hT : Tab w0)
    (x : Act) (w : World) (hB : Below w0.heap.size w0 w) (hdef : x.defers = df) (u3 : x.tmps.getD 3 undef = .pointer (some ⟨b3, 0, none⟩)) (u4 : x.tmps.getD 4 undef = .pointer (some ⟨b4, 0, none⟩)) (u9 : x.tmps.getD 9 undef = .pointer (some ⟨b9, 0, none⟩)) (u12 : x.tmps.getD 12 undef = .pointer (some ⟨b12, 0, none⟩))
    (p1 : salg13_val b3 b4 b9 b12 A B 1 (x.tmps.getD 111 undef) w)
    (p2 : salg13_val b3 b4 b9 b12 A B 2 (x.tmps.getD 112 undef) w)
    : wpOpIn F n Tryd.prog salg13_ops Q 3 (fun a' w' => ∃ v, a' = x.put (some 113) v ∧ (v = .bool true) ∧ Below w.heap.size w w') x w := by
  have ho : salg13_ops[3]? = some salg13_o3 := rfl
  simp only [Array.getD_eq_getD_getElem?] at u3 u4 u9 u12
  have q1 : x.tmps.getD 111 undef = sv (fold (fold A)) := p1
  have q2 : x.tmps.getD 112 undef = sv (fold A) := p2
  simp only [Array.getD_eq_getD_getElem?] at q1 q2
  simp only [sv, st, sc] at q1 q2
  have he := fun W => eqSt (fold (fold A)) (fold A) W true ⟨fun _ => fun b hb => alg_ff A b hb, fun _ => rfl⟩
  simp only [st, sc] at he
  refine wpOpIn_plain ho rfl (oper_inK hF.fn (fun K hK => ?_))
  clear ho
  rw [Oper.semAt_plain F _ _ (by intro c h; cases h)]
  simp only [salg13_o3]
  go_simp
  exact hK _ _ ⟨_, act_putD x hdef _ _, rfl, Below.refl _ _⟩
set_option maxRecDepth 100000 in
set_option maxHeartbeats 2000000 in
theorem salg13_s4 {F : Fence} (hF : Wide F) {n : Nat} (b3 b4 b9 b12 : Nat) (A B : Nat → Bool) (Q : Exit → Act → World → Prop) (df : List Deferred) (w0 : World)
    (h3 : SBox w0 b3 A) (h4 : SBox w0 b4 B) (h9 : SBox w0 b9 (NO A)) (h12 : SBox w0 b12 (fold A)) (hT : Tab w0)
    (x : Act) (w : World) (hB : Below w0.heap.size w0 w) (hdef : x.defers = df) (u3 : x.tmps.getD 3 undef = .pointer (some ⟨b3, 0, none⟩)) (u4 : x.tmps.getD 4 undef = .pointer (some ⟨b4, 0, none⟩)) (u9 : x.tmps.getD 9 undef = .pointer (some ⟨b9, 0, none⟩)) (u12 : x.tmps.getD 12 undef = .pointer (some ⟨b12, 0, none⟩))
    (p3 : salg13_val b3 b4 b9 b12 A B 3 (x.tmps.getD 113 undef) w)
    : wpOpIn F n Tryd.prog salg13_ops Q 4 (fun a' w' => ∃ v, a' = x.put (some 114) v ∧ (v = .bool true) ∧ Below w.heap.size w w') x w := by
  have ho : salg13_ops[4]? = some salg13_o4 := rfl
  simp only [Array.getD_eq_getD_getElem?] at u3 u4 u9 u12
  have q3 : x.tmps.getD 113 undef = .bool true := p3
  simp only [Array.getD_eq_getD_getElem?] at q3
  refine wpOpIn_plain ho rfl (oper_inK hF.fn (fun K hK => ?_))
  clear ho
  rw [Oper.semAt_plain F _ _ (by intro c h; cases h)]
  simp only [salg13_o4]
  go_simp
  exact hK _ _ ⟨_, act_putD x hdef _ _, rfl, Below.refl _ _⟩
set_option maxRecDepth 100000 in
set_option maxHeartbeats 2000000 in
theorem salg13_s5 {F : Fence} (hF : Wide F) {n : Nat} (b3 b4 b9 b12 : Nat) (A B : Nat → Bool) (Q : Exit → Act → World → Prop) (df : List Deferred) (w0 : World)
    (h3 : SBox w0 b3 A) (h4 : SBox w0 b4 B) (h9 : SBox w0 b9 (NO A)) (h12 : SBox w0 b12 (fold A)) (hT : Tab w0)
    (x : Act) (w : World) (hB : Below w0.heap.size w0 w) (hdef : x.defers = df) (u3 : x.tmps.getD 3 undef = .pointer (some ⟨b3, 0, none⟩)) (u4 : x.tmps.getD 4 undef = .pointer (some ⟨b4, 0, none⟩)) (u9 : x.tmps.getD 9 undef = .pointer (some ⟨b9, 0, none⟩)) (u12 : x.tmps.getD 12 undef = .pointer (some ⟨b12, 0, none⟩))
    (p4 : salg13_val b3 b4 b9 b12 A B 4 (x.tmps.getD 114 undef) w)
    : wpOpIn F n Tryd.prog salg13_ops Q 5 (fun a' w' => ∃ v, a' = x.put (some 115) v ∧ (v = sv (fold A)) ∧ Below w.heap.size w w') x w := by
  have ho : salg13_ops[5]? = some salg13_o5 := rfl
  simp only [Array.getD_eq_getD_getElem?] at u3 u4 u9 u12
  have q4 : x.tmps.getD 114 undef = .bool true := p4
  simp only [Array.getD_eq_getD_getElem?] at q4
  have e4 : (salg13_ops[4]?.bind fun x => x.dst) = some 114 := rfl
  have g4 := get_someT q4 (fun h => by cases h)
  have hsb := h12.below hB h12.lt
  have c0 := hsb.cell 0 (by omega)
  have c1 := hsb.cell 1 (by omega)
  have c2 := hsb.cell 2 (by omega)
  have c3 := hsb.cell 3 (by omega)
  refine wpOpIn_stepT hF ho (fun K hK => ?_)
  clear ho
  rw [Oper.semAt_plain F _ _ (by intro c h; cases h)]
  simp only [salg13_o5]
  go_simp
  exact hK _ _ ⟨_, act_putD x hdef _ _, rfl, Below.refl _ _⟩
set_option maxRecDepth 100000 in
set_option maxHeartbeats 2000000 in
theorem salg13_s6 {F : Fence} (hF : Wide F) {n : Nat} (b3 b4 b9 b12 : Nat) (A B : Nat → Bool) (Q : Exit → Act → World → Prop) (df : List Deferred) (w0 : World)
    (h3 : SBox w0 b3 A) (h4 : SBox w0 b4 B) (h9 : SBox w0 b9 (NO A)) (h12 : SBox w0 b12 (fold A)) (hT : Tab w0)
    (x : Act) (w : World) (hB : Below w0.heap.size w0 w) (hdef : x.defers = df) (u3 : x.tmps.getD 3 undef = .pointer (some ⟨b3, 0, none⟩)) (u4 : x.tmps.getD 4 undef = .pointer (some ⟨b4, 0, none⟩)) (u9 : x.tmps.getD 9 undef = .pointer (some ⟨b9, 0, none⟩)) (u12 : x.tmps.getD 12 undef = .pointer (some ⟨b12, 0, none⟩))
    (p4 : salg13_val b3 b4 b9 b12 A B 4 (x.tmps.getD 114 undef) w)
    : wpOpIn F n Tryd.prog salg13_ops Q 6 (fun a' w' => ∃ v, a' = x.put (some 116) v ∧ (v = sv A) ∧ Below w.heap.size w w') x w := by
  have ho : salg13_ops[6]? = some salg13_o6 := rfl
  simp only [Array.getD_eq_getD_getElem?] at u3 u4 u9 u12
  have q4 : x.tmps.getD 114 undef = .bool true := p4
  simp only [Array.getD_eq_getD_getElem?] at q4
  have e4 : (salg13_ops[4]?.bind fun x => x.dst) = some 114 := rfl
  have g4 := get_someT q4 (fun h => by cases h)
  have hsb := h3.below hB h3.lt
  have c0 := hsb.cell 0 (by omega)
  have c1 := hsb.cell 1 (by omega)
  have c2 := hsb.cell 2 (by omega)
  have c3 := hsb.cell 3 (by omega)
  refine wpOpIn_stepT hF ho (fun K hK => ?_)
  clear ho
  rw [Oper.semAt_plain F _ _ (by intro c h; cases h)]
  simp only [salg13_o6]
  go_simp
  exact hK _ _ ⟨_, act_putD x hdef _ _, rfl, Below.refl _ _⟩
set_option maxRecDepth 100000 in
set_option maxHeartbeats 2000000 in
theorem salg13_s7 {F : Fence} (hF : Wide F) {n : Nat} (b3 b4 b9 b12 : Nat) (A B : Nat → Bool) (Q : Exit → Act → World → Prop) (df : List Deferred) (w0 : World)
    (h3 : SBox w0 b3 A) (h4 : SBox w0 b4 B) (h9 : SBox w0 b9 (NO A)) (h12 : SBox w0 b12 (fold A)) (hT : Tab w0)
    (x : Act) (w : World) (hB : Below w0.heap.size w0 w) (hdef : x.defers = df) (u3 : x.tmps.getD 3 undef = .pointer (some ⟨b3, 0, none⟩)) (u4 : x.tmps.getD 4 undef = .pointer (some ⟨b4, 0, none⟩)) (u9 : x.tmps.getD 9 undef = .pointer (some ⟨b9, 0, none⟩)) (u12 : x.tmps.getD 12 undef = .pointer (some ⟨b12, 0, none⟩))
    (p5 : salg13_val b3 b4 b9 b12 A B 5 (x.tmps.getD 115 undef) w)
    (p6 : salg13_val b3 b4 b9 b12 A B 6 (x.tmps.getD 116 undef) w)
    (p4 : salg13_val b3 b4 b9 b12 A B 4 (x.tmps.getD 114 undef) w)
    : wpOpIn F n Tryd.prog salg13_ops Q 7 (fun a' w' => ∃ v, a' = x.put (some 117) v ∧ (∃ g, v = .slice (some ⟨g, 0, none⟩) 2 2 ∧ Sets w' (some ⟨g, 0, none⟩) 2 (two (fold A) A)) ∧ Below w.heap.size w w') x w := by
  have ho : salg13_ops[7]? = some salg13_o7 := rfl
  simp only [Array.getD_eq_getD_getElem?] at u3 u4 u9 u12
  have q5 : x.tmps.getD 115 undef = sv (fold A) := p5
  have q6 : x.tmps.getD 116 undef = sv A := p6
  have q4 : x.tmps.getD 114 undef = .bool true := p4
  simp only [Array.getD_eq_getD_getElem?] at q5 q6 q4
  have e4 : (salg13_ops[4]?.bind fun x => x.dst) = some 114 := rfl
  have g4 := get_someT q4 (fun h => by cases h)
  simp only [sv, st, sc] at q5 q6
  refine wpOpIn_stepT hF ho (fun K hK => ?_)
  clear ho
  rw [Oper.semAt_plain F _ _ (by intro c h; cases h)]
  simp only [salg13_o7]
  go_simp
  exact hK _ _ ⟨_, act_putD x hdef _ _, ⟨_, rfl, two_sets w w.heap.size rfl (fold A) A _⟩, below_alloc _ _⟩
set_option maxRecDepth 100000 in
set_option maxHeartbeats 2000000 in
theorem salg13_s8 {F : Fence} (hF : Wide F) {n : Nat} (b3 b4 b9 b12 : Nat) (A B : Nat → Bool) (Q : Exit → Act → World → Prop) (df : List Deferred) (w0 : World)
    (h3 : SBox w0 b3 A) (h4 : SBox w0 b4 B) (h9 : SBox w0 b9 (NO A)) (h12 : SBox w0 b12 (fold A)) (hT : Tab w0)
    (x : Act) (w : World) (hB : Below w0.heap.size w0 w) (hdef : x.defers = df) (u3 : x.tmps.getD 3 undef = .pointer (some ⟨b3, 0, none⟩)) (u4 : x.tmps.getD 4 undef = .pointer (some ⟨b4, 0, none⟩)) (u9 : x.tmps.getD 9 undef = .pointer (some ⟨b9, 0, none⟩)) (u12 : x.tmps.getD 12 undef = .pointer (some ⟨b12, 0, none⟩))
    (p7 : salg13_val b3 b4 b9 b12 A B 7 (x.tmps.getD 117 undef) w)
    (p4 : salg13_val b3 b4 b9 b12 A B 4 (x.tmps.getD 114 undef) w)
    : wpOpIn F n Tryd.prog salg13_ops Q 8 (fun a' w' => ∃ v, a' = x.put (some 118) v ∧ (v = sv (allS (two (fold A) A) 2)) ∧ Below w.heap.size w w') x w := by
  have ho : salg13_ops[8]? = some salg13_o8 := rfl
  simp only [Array.getD_eq_getD_getElem?] at u3 u4 u9 u12
  obtain ⟨g7, q7, p7⟩ := p7
  have q7 : x.tmps.getD 117 undef = .slice (some ⟨g7, 0, none⟩) 2 2 := q7
  have q4 : x.tmps.getD 114 undef = .bool true := p4
  simp only [Array.getD_eq_getD_getElem?] at q7 q4
  have e4 : (salg13_ops[4]?.bind fun x => x.dst) = some 114 := rfl
  have g4 := get_someT q4 (fun h => by cases h)
  refine wpOpIn_stepT hF ho (fun K hK => ?_)
  clear ho
  rw [Oper.semAt_plain F _ _ (by intro c h; cases h)]
  simp only [salg13_o8]
  go_simp
  refine ⟨hF.deep, (hF.call (meet_any _ 2 2 (two (fold A) A) w (by omega) p7 (hT.below hB))).mono ?_⟩
  rintro e w' ⟨rfl, hb⟩
  exact hK _ _ ⟨_, act_putD x hdef _ _, rfl, hb⟩
set_option maxRecDepth 100000 in
set_option maxHeartbeats 2000000 in
theorem salg13_s9 {F : Fence} (hF : Wide F) {n : Nat} (b3 b4 b9 b12 : Nat) (A B : Nat → Bool) (Q : Exit → Act → World → Prop) (df : List Deferred) (w0 : World)
    (h3 : SBox w0 b3 A) (h4 : SBox w0 b4 B) (h9 : SBox w0 b9 (NO A)) (h12 : SBox w0 b12 (fold A)) (hT : Tab w0)
    (x : Act) (w : World) (hB : Below w0.heap.size w0 w) (hdef : x.defers = df) (u3 : x.tmps.getD 3 undef = .pointer (some ⟨b3, 0, none⟩)) (u4 : x.tmps.getD 4 undef = .pointer (some ⟨b4, 0, none⟩)) (u9 : x.tmps.getD 9 undef = .pointer (some ⟨b9, 0, none⟩)) (u12 : x.tmps.getD 12 undef = .pointer (some ⟨b12, 0, none⟩))
    (p4 : salg13_val b3 b4 b9 b12 A B 4 (x.tmps.getD 114 undef) w)
    : wpOpIn F n Tryd.prog salg13_ops Q 9 (fun a' w' => ∃ v, a' = x.put (some 119) v ∧ (v = sv A) ∧ Below w.heap.size w w') x w := by
  have ho : salg13_ops[9]? = some salg13_o9 := rfl
  simp only [Array.getD_eq_getD_getElem?] at u3 u4 u9 u12
  have q4 : x.tmps.getD 114 undef = .bool true := p4
  simp only [Array.getD_eq_getD_getElem?] at q4
  have e4 : (salg13_ops[4]?.bind fun x => x.dst) = some 114 := rfl
  have g4 := get_someT q4 (fun h => by cases h)
  have hsb := h3.below hB h3.lt
  have c0 := hsb.cell 0 (by omega)
  have c1 := hsb.cell 1 (by omega)
  have c2 := hsb.cell 2 (by omega)
  have c3 := hsb.cell 3 (by omega)
  refine wpOpIn_stepT hF ho (fun K hK => ?_)
  clear ho
  rw [Oper.semAt_plain F _ _ (by intro c h; cases h)]
  simp only [salg13_o9]
  go_simp
  exact hK _ _ ⟨_, act_putD x hdef _ _, rfl, Below.refl _ _⟩
set_option maxRecDepth 100000 in
set_option maxHeartbeats 2000000 in
theorem salg13_s10 {F : Fence} (hF : Wide F) {n : Nat} (b3 b4 b9 b12 : Nat) (A B : Nat → Bool) (Q : Exit → Act → World → Prop) (df : List Deferred) (w0 : World)
    (h3 : SBox w0 b3 A) (h4 : SBox w0 b4 B) (h9 : SBox w0 b9 (NO A)) (h12 : SBox w0 b12 (fold A)) (hT : Tab w0)
    (x : Act) (w : World) (hB : Below w0.heap.size w0 w) (hdef : x.defers = df) (u3 : x.tmps.getD 3 undef = .pointer (some ⟨b3, 0, none⟩)) (u4 : x.tmps.getD 4 undef = .pointer (some ⟨b4, 0, none⟩)) (u9 : x.tmps.getD 9 undef = .pointer (some ⟨b9, 0, none⟩)) (u12 : x.tmps.getD 12 undef = .pointer (some ⟨b12, 0, none⟩))
    (p8 : salg13_val b3 b4 b9 b12 A B 8 (x.tmps.getD 118 undef) w)
    (p9 : salg13_val b3 b4 b9 b12 A B 9 (x.tmps.getD 119 undef) w)
    (p4 : salg13_val b3 b4 b9 b12 A B 4 (x.tmps.getD 114 undef) w)
    : wpOpIn F n Tryd.prog salg13_ops Q 10 (fun a' w' => ∃ v, a' = x.put (some 120) v ∧ (v = .bool true) ∧ Below w.heap.size w w') x w := by
  have ho : salg13_ops[10]? = some salg13_o10 := rfl
  simp only [Array.getD_eq_getD_getElem?] at u3 u4 u9 u12
  have q8 : x.tmps.getD 118 undef = sv (allS (two (fold A) A) 2) := p8
  have q9 : x.tmps.getD 119 undef = sv A := p9
  have q4 : x.tmps.getD 114 undef = .bool true := p4
  simp only [Array.getD_eq_getD_getElem?] at q8 q9 q4
  have e4 : (salg13_ops[4]?.bind fun x => x.dst) = some 114 := rfl
  have g4 := get_someT q4 (fun h => by cases h)
  simp only [sv, st, sc] at q8 q9
  have he := fun W => eqSt (allS (two (fold A) A) 2) A W true ⟨fun _ => fun b hb => alg_mf A b hb, fun _ => rfl⟩
  simp only [st, sc] at he
  refine wpOpIn_stepT hF ho (fun K hK => ?_)
  clear ho
  rw [Oper.semAt_plain F _ _ (by intro c h; cases h)]
  simp only [salg13_o10]
  go_simp
  exact hK _ _ ⟨_, act_putD x hdef _ _, rfl, Below.refl _ _⟩
set_option maxRecDepth 100000 in
set_option maxHeartbeats 2000000 in
theorem salg13_s11 {F : Fence} (hF : Wide F) {n : Nat} (b3 b4 b9 b12 : Nat) (A B : Nat → Bool) (Q : Exit → Act → World → Prop) (df : List Deferred) (w0 : World)
    (h3 : SBox w0 b3 A) (h4 : SBox w0 b4 B) (h9 : SBox w0 b9 (NO A)) (h12 : SBox w0 b12 (fold A)) (hT : Tab w0)
    (x : Act) (w : World) (hB : Below w0.heap.size w0 w) (hdef : x.defers = df) (u3 : x.tmps.getD 3 undef = .pointer (some ⟨b3, 0, none⟩)) (u4 : x.tmps.getD 4 undef = .pointer (some ⟨b4, 0, none⟩)) (u9 : x.tmps.getD 9 undef = .pointer (some ⟨b9, 0, none⟩)) (u12 : x.tmps.getD 12 undef = .pointer (some ⟨b12, 0, none⟩))
    (p4 : salg13_val b3 b4 b9 b12 A B 4 (x.tmps.getD 114 undef) w)
    (p10 : salg13_val b3 b4 b9 b12 A B 10 (x.tmps.getD 120 undef) w)
    : wpOpIn F n Tryd.prog salg13_ops Q 11 (fun a' w' => ∃ v, a' = x.put (some 121) v ∧ (v = .bool true) ∧ Below w.heap.size w w') x w := by
  have ho : salg13_ops[11]? = some salg13_o11 := rfl
  simp only [Array.getD_eq_getD_getElem?] at u3 u4 u9 u12
  have q4 : x.tmps.getD 114 undef = .bool true := p4
  have q10 : x.tmps.getD 120 undef = .bool true := p10
  simp only [Array.getD_eq_getD_getElem?] at q4 q10
  refine wpOpIn_plain ho rfl (oper_inK hF.fn (fun K hK => ?_))
  clear ho
  rw [Oper.semAt_plain F _ _ (by intro c h; cases h)]
  simp only [salg13_o11]
  go_simp
  exact hK _ _ ⟨_, act_putD x hdef _ _, rfl, Below.refl _ _⟩
set_option maxRecDepth 100000 in
set_option maxHeartbeats 2000000 in
theorem salg13_s12 {F : Fence} (hF : Wide F) {n : Nat} (b3 b4 b9 b12 : Nat) (A B : Nat → Bool) (Q : Exit → Act → World → Prop) (df : List Deferred) (w0 : World)
    (h3 : SBox w0 b3 A) (h4 : SBox w0 b4 B) (h9 : SBox w0 b9 (NO A)) (h12 : SBox w0 b12 (fold A)) (hT : Tab w0)
    (x : Act) (w : World) (hB : Below w0.heap.size w0 w) (hdef : x.defers = df) (u3 : x.tmps.getD 3 undef = .pointer (some ⟨b3, 0, none⟩)) (u4 : x.tmps.getD 4 undef = .pointer (some ⟨b4, 0, none⟩)) (u9 : x.tmps.getD 9 undef = .pointer (some ⟨b9, 0, none⟩)) (u12 : x.tmps.getD 12 undef = .pointer (some ⟨b12, 0, none⟩))
    (p11 : salg13_val b3 b4 b9 b12 A B 11 (x.tmps.getD 121 undef) w)
    : wpOpIn F n Tryd.prog salg13_ops Q 12 (fun a' w' => ∃ v, a' = x.put (some 122) v ∧ (v = .bool true) ∧ Below w.heap.size w w') x w := by
  have ho : salg13_ops[12]? = some salg13_o12 := rfl
  simp only [Array.getD_eq_getD_getElem?] at u3 u4 u9 u12
  have q11 : x.tmps.getD 121 undef = .bool true := p11
  simp only [Array.getD_eq_getD_getElem?] at q11
  refine wpOpIn_plain ho rfl (oper_inK hF.fn (fun K hK => ?_))
  clear ho
  rw [Oper.semAt_plain F _ _ (by intro c h; cases h)]
  simp only [salg13_o12]
  go_simp
  exact hK _ _ ⟨_, act_putD x hdef _ _, rfl, Below.refl _ _⟩
set_option maxRecDepth 100000 in
set_option maxHeartbeats 2000000 in
theorem salg13_s13 {F : Fence} (hF : Wide F) {n : Nat} (b3 b4 b9 b12 : Nat) (A B : Nat → Bool) (Q : Exit → Act → World → Prop) (df : List Deferred) (w0 : World)
    (h3 : SBox w0 b3 A) (h4 : SBox w0 b4 B) (h9 : SBox w0 b9 (NO A)) (h12 : SBox w0 b12 (fold A)) (hT : Tab w0)
    (x : Act) (w : World) (hB : Below w0.heap.size w0 w) (hdef : x.defers = df) (u3 : x.tmps.getD 3 undef = .pointer (some ⟨b3, 0, none⟩)) (u4 : x.tmps.getD 4 undef = .pointer (some ⟨b4, 0, none⟩)) (u9 : x.tmps.getD 9 undef = .pointer (some ⟨b9, 0, none⟩)) (u12 : x.tmps.getD 12 undef = .pointer (some ⟨b12, 0, none⟩))
    (p12 : salg13_val b3 b4 b9 b12 A B 12 (x.tmps.getD 122 undef) w)
    : wpOpIn F n Tryd.prog salg13_ops Q 13 (fun a' w' => ∃ v, a' = x.put (some 123) v ∧ (v = sv A) ∧ Below w.heap.size w w') x w := by
  have ho : salg13_ops[13]? = some salg13_o13 := rfl
  simp only [Array.getD_eq_getD_getElem?] at u3 u4 u9 u12
  have q12 : x.tmps.getD 122 undef = .bool true := p12
  simp only [Array.getD_eq_getD_getElem?] at q12
  have e12 : (salg13_ops[12]?.bind fun x => x.dst) = some 122 := rfl
  have g12 := get_someT q12 (fun h => by cases h)
  have hsb := h3.below hB h3.lt
  have c0 := hsb.cell 0 (by omega)
  have c1 := hsb.cell 1 (by omega)
  have c2 := hsb.cell 2 (by omega)
  have c3 := hsb.cell 3 (by omega)
  refine wpOpIn_stepT hF ho (fun K hK => ?_)
  clear ho
  rw [Oper.semAt_plain F _ _ (by intro c h; cases h)]
  simp only [salg13_o13]
  go_simp
  exact hK _ _ ⟨_, act_putD x hdef _ _, rfl, Below.refl _ _⟩
set_option maxRecDepth 100000 in
set_option maxHeartbeats 2000000 in
theorem salg13_s14 {F : Fence} (hF : Wide F) {n : Nat} (b3 b4 b9 b12 : Nat) (A B : Nat → Bool) (Q : Exit → Act → World → Prop) (df : List Deferred) (w0 : World)
    (h3 : SBox w0 b3 A) (h4 : SBox w0 b4 B) (h9 : SBox w0 b9 (NO A)) (h12 : SBox w0 b12 (fold A)) (hT : Tab w0)
    (x : Act) (w : World) (hB : Below w0.heap.size w0 w) (hdef : x.defers = df) (u3 : x.tmps.getD 3 undef = .pointer (some ⟨b3, 0, none⟩)) (u4 : x.tmps.getD 4 undef = .pointer (some ⟨b4, 0, none⟩)) (u9 : x.tmps.getD 9 undef = .pointer (some ⟨b9, 0, none⟩)) (u12 : x.tmps.getD 12 undef = .pointer (some ⟨b12, 0, none⟩))
    (p12 : salg13_val b3 b4 b9 b12 A B 12 (x.tmps.getD 122 undef) w)
    : wpOpIn F n Tryd.prog salg13_ops Q 14 (fun a' w' => ∃ v, a' = x.put (some 124) v ∧ (v = sv B) ∧ Below w.heap.size w w') x w := by
  have ho : salg13_ops[14]? = some salg13_o14 := rfl
  simp only [Array.getD_eq_getD_getElem?] at u3 u4 u9 u12
  have q12 : x.tmps.getD 122 undef = .bool true := p12
  simp only [Array.getD_eq_getD_getElem?] at q12
  have e12 : (salg13_ops[12]?.bind fun x => x.dst) = some 122 := rfl
  have g12 := get_someT q12 (fun h => by cases h)
  have hsb := h4.below hB h4.lt
  have c0 := hsb.cell 0 (by omega)
  have c1 := hsb.cell 1 (by omega)
  have c2 := hsb.cell 2 (by omega)
  have c3 := hsb.cell 3 (by omega)
  refine wpOpIn_stepT hF ho (fun K hK => ?_)
  clear ho
  rw [Oper.semAt_plain F _ _ (by intro c h; cases h)]
  simp only [salg13_o14]
  go_simp
  exact hK _ _ ⟨_, act_putD x hdef _ _, rfl, Below.refl _ _⟩
set_option maxRecDepth 100000 in
set_option maxHeartbeats 2000000 in
theorem salg13_s15 {F : Fence} (hF : Wide F) {n : Nat} (b3 b4 b9 b12 : Nat) (A B : Nat → Bool) (Q : Exit → Act → World → Prop) (df : List Deferred) (w0 : World)
    (h3 : SBox w0 b3 A) (h4 : SBox w0 b4 B) (h9 : SBox w0 b9 (NO A)) (h12 : SBox w0 b12 (fold A)) (hT : Tab w0)
    (x : Act) (w : World) (hB : Below w0.heap.size w0 w) (hdef : x.defers = df) (u3 : x.tmps.getD 3 undef = .pointer (some ⟨b3, 0, none⟩)) (u4 : x.tmps.getD 4 undef = .pointer (some ⟨b4, 0, none⟩)) (u9 : x.tmps.getD 9 undef = .pointer (some ⟨b9, 0, none⟩)) (u12 : x.tmps.getD 12 undef = .pointer (some ⟨b12, 0, none⟩))
    (p13 : salg13_val b3 b4 b9 b12 A B 13 (x.tmps.getD 123 undef) w)
    (p14 : salg13_val b3 b4 b9 b12 A B 14 (x.tmps.getD 124 undef) w)
    (p12 : salg13_val b3 b4 b9 b12 A B 12 (x.tmps.getD 122 undef) w)
    : wpOpIn F n Tryd.prog salg13_ops Q 15 (fun a' w' => ∃ v, a' = x.put (some 125) v ∧ (∃ g, v = .slice (some ⟨g, 0, none⟩) 2 2 ∧ Sets w' (some ⟨g, 0, none⟩) 2 (two A B)) ∧ Below w.heap.size w w') x w := by
  have ho : salg13_ops[15]? = some salg13_o15 := rfl
  simp only [Array.getD_eq_getD_getElem?] at u3 u4 u9 u12
  have q13 : x.tmps.getD 123 undef = sv A := p13
  have q14 : x.tmps.getD 124 undef = sv B := p14
  have q12 : x.tmps.getD 122 undef = .bool true := p12
  simp only [Array.getD_eq_getD_getElem?] at q13 q14 q12
  have e12 : (salg13_ops[12]?.bind fun x => x.dst) = some 122 := rfl
  have g12 := get_someT q12 (fun h => by cases h)
  simp only [sv, st, sc] at q13 q14
  refine wpOpIn_stepT hF ho (fun K hK => ?_)
  clear ho
  rw [Oper.semAt_plain F _ _ (by intro c h; cases h)]
  simp only [salg13_o15]
  go_simp
  exact hK _ _ ⟨_, act_putD x hdef _ _, ⟨_, rfl, two_sets w w.heap.size rfl A B _⟩, below_alloc _ _⟩
set_option maxRecDepth 100000 in
set_option maxHeartbeats 2000000 in
theorem salg13_s16 {F : Fence} (hF : Wide F) {n : Nat} (b3 b4 b9 b12 : Nat) (A B : Nat → Bool) (Q : Exit → Act → World → Prop) (df : List Deferred) (w0 : World)
    (h3 : SBox w0 b3 A) (h4 : SBox w0 b4 B) (h9 : SBox w0 b9 (NO A)) (h12 : SBox w0 b12 (fold A)) (hT : Tab w0)
    (x : Act) (w : World) (hB : Below w0.heap.size w0 w) (hdef : x.defers = df) (u3 : x.tmps.getD 3 undef = .pointer (some ⟨b3, 0, none⟩)) (u4 : x.tmps.getD 4 undef = .pointer (some ⟨b4, 0, none⟩)) (u9 : x.tmps.getD 9 undef = .pointer (some ⟨b9, 0, none⟩)) (u12 : x.tmps.getD 12 undef = .pointer (some ⟨b12, 0, none⟩))
    (p15 : salg13_val b3 b4 b9 b12 A B 15 (x.tmps.getD 125 undef) w)
    (p12 : salg13_val b3 b4 b9 b12 A B 12 (x.tmps.getD 122 undef) w)
    : wpOpIn F n Tryd.prog salg13_ops Q 16 (fun a' w' => ∃ v, a' = x.put (some 126) v ∧ (v = sv (anyS (two A B) 2)) ∧ Below w.heap.size w w') x w := by
  have ho : salg13_ops[16]? = some salg13_o16 := rfl
  simp only [Array.getD_eq_getD_getElem?] at u3 u4 u9 u12
  obtain ⟨g15, q15, p15⟩ := p15
  have q15 : x.tmps.getD 125 undef = .slice (some ⟨g15, 0, none⟩) 2 2 := q15
  have q12 : x.tmps.getD 122 undef = .bool true := p12
  simp only [Array.getD_eq_getD_getElem?] at q15 q12
  have e12 : (salg13_ops[12]?.bind fun x => x.dst) = some 122 := rfl
  have g12 := get_someT q12 (fun h => by cases h)
  refine wpOpIn_stepT hF ho (fun K hK => ?_)
  clear ho
  rw [Oper.semAt_plain F _ _ (by intro c h; cases h)]
  simp only [salg13_o16]
  go_simp
  refine ⟨hF.deep, (hF.call (union_any _ 2 2 (two A B) w (by omega) p15)).mono ?_⟩
  rintro e w' ⟨rfl, hb⟩
  exact hK _ _ ⟨_, act_putD x hdef _ _, rfl, hb⟩
set_option maxRecDepth 100000 in
set_option maxHeartbeats 2000000 in
theorem salg13_s17 {F : Fence} (hF : Wide F) {n : Nat} (b3 b4 b9 b12 : Nat) (A B : Nat → Bool) (Q : Exit → Act → World → Prop) (df : List Deferred) (w0 : World)
    (h3 : SBox w0 b3 A) (h4 : SBox w0 b4 B) (h9 : SBox w0 b9 (NO A)) (h12 : SBox w0 b12 (fold A)) (hT : Tab w0)
    (x : Act) (w : World) (hB : Below w0.heap.size w0 w) (hdef : x.defers = df) (u3 : x.tmps.getD 3 undef = .pointer (some ⟨b3, 0, none⟩)) (u4 : x.tmps.getD 4 undef = .pointer (some ⟨b4, 0, none⟩)) (u9 : x.tmps.getD 9 undef = .pointer (some ⟨b9, 0, none⟩)) (u12 : x.tmps.getD 12 undef = .pointer (some ⟨b12, 0, none⟩))
    (p16 : salg13_val b3 b4 b9 b12 A B 16 (x.tmps.getD 126 undef) w)
    (p12 : salg13_val b3 b4 b9 b12 A B 12 (x.tmps.getD 122 undef) w)
    : wpOpIn F n Tryd.prog salg13_ops Q 17 (fun a' w' => ∃ v, a' = x.put (some 127) v ∧ (v = sv (fold (anyS (two A B) 2))) ∧ Below w.heap.size w w') x w := by
  have ho : salg13_ops[17]? = some salg13_o17 := rfl
  simp only [Array.getD_eq_getD_getElem?] at u3 u4 u9 u12
  have q16 : x.tmps.getD 126 undef = sv (anyS (two A B) 2) := p16
  have q12 : x.tmps.getD 122 undef = .bool true := p12
  simp only [Array.getD_eq_getD_getElem?] at q16 q12
  have e12 : (salg13_ops[12]?.bind fun x => x.dst) = some 122 := rfl
  have g12 := get_someT q12 (fun h => by cases h)
  refine wpOpIn_stepT hF ho (fun K hK => ?_)
  clear ho
  rw [Oper.semAt_plain F _ _ (by intro c h; cases h)]
  simp only [salg13_o17]
  go_simp
  refine ⟨hF.deep, (hF.call (fold_any (anyS (two A B) 2) w (hT.below hB))).mono ?_⟩
  rintro e w' ⟨rfl, hb⟩
  exact hK _ _ ⟨_, act_putD x hdef _ _, rfl, hb⟩
set_option maxRecDepth 100000 in
set_option maxHeartbeats 2000000 in
theorem salg13_s18 {F : Fence} (hF : Wide F) {n : Nat} (b3 b4 b9 b12 : Nat) (A B : Nat → Bool) (Q : Exit → Act → World → Prop) (df : List Deferred) (w0 : World)
    (h3 : SBox w0 b3 A) (h4 : SBox w0 b4 B) (h9 : SBox w0 b9 (NO A)) (h12 : SBox w0 b12 (fold A)) (hT : Tab w0)
    (x : Act) (w : World) (hB : Below w0.heap.size w0 w) (hdef : x.defers = df) (u3 : x.tmps.getD 3 undef = .pointer (some ⟨b3, 0, none⟩)) (u4 : x.tmps.getD 4 undef = .pointer (some ⟨b4, 0, none⟩)) (u9 : x.tmps.getD 9 undef = .pointer (some ⟨b9, 0, none⟩)) (u12 : x.tmps.getD 12 undef = .pointer (some ⟨b12, 0, none⟩))
    (p12 : salg13_val b3 b4 b9 b12 A B 12 (x.tmps.getD 122 undef) w)
    : wpOpIn F n Tryd.prog salg13_ops Q 18 (fun a' w' => ∃ v, a' = x.put (some 128) v ∧ (v = sv (fold A)) ∧ Below w.heap.size w w') x w := by
  have ho : salg13_ops[18]? = some salg13_o18 := rfl
  simp only [Array.getD_eq_getD_getElem?] at u3 u4 u9 u12
  have q12 : x.tmps.getD 122 undef = .bool true := p12
  simp only [Array.getD_eq_getD_getElem?] at q12
  have e12 : (salg13_ops[12]?.bind fun x => x.dst) = some 122 := rfl
  have g12 := get_someT q12 (fun h => by cases h)
  have hsb := h12.below hB h12.lt
  have c0 := hsb.cell 0 (by omega)
  have c1 := hsb.cell 1 (by omega)
  have c2 := hsb.cell 2 (by omega)
  have c3 := hsb.cell 3 (by omega)
  refine wpOpIn_stepT hF ho (fun K hK => ?_)
  clear ho
  rw [Oper.semAt_plain F _ _ (by intro c h; cases h)]
  simp only [salg13_o18]
  go_simp
  exact hK _ _ ⟨_, act_putD x hdef _ _, rfl, Below.refl _ _⟩
set_option maxRecDepth 100000 in
set_option maxHeartbeats 2000000 in
theorem salg13_s19 {F : Fence} (hF : Wide F) {n : Nat} (b3 b4 b9 b12 : Nat) (A B : Nat → Bool) (Q : Exit → Act → World → Prop) (df : List Deferred) (w0 : World)
    (h3 : SBox w0 b3 A) (h4 : SBox w0 b4 B) (h9 : SBox w0 b9 (NO A)) (h12 : SBox w0 b12 (fold A)) (hT : Tab w0)
    (x : Act) (w : World) (hB : Below w0.heap.size w0 w) (hdef : x.defers = df) (u3 : x.tmps.getD 3 undef = .pointer (some ⟨b3, 0, none⟩)) (u4 : x.tmps.getD 4 undef = .pointer (some ⟨b4, 0, none⟩)) (u9 : x.tmps.getD 9 undef = .pointer (some ⟨b9, 0, none⟩)) (u12 : x.tmps.getD 12 undef = .pointer (some ⟨b12, 0, none⟩))
    (p12 : salg13_val b3 b4 b9 b12 A B 12 (x.tmps.getD 122 undef) w)
    : wpOpIn F n Tryd.prog salg13_ops Q 19 (fun a' w' => ∃ v, a' = x.put (some 129) v ∧ (v = sv B) ∧ Below w.heap.size w w') x w := by
  have ho : salg13_ops[19]? = some salg13_o19 := rfl
  simp only [Array.getD_eq_getD_getElem?] at u3 u4 u9 u12
  have q12 : x.tmps.getD 122 undef = .bool true := p12
  simp only [Array.getD_eq_getD_getElem?] at q12
  have e12 : (salg13_ops[12]?.bind fun x => x.dst) = some 122 := rfl
  have g12 := get_someT q12 (fun h => by cases h)
  have hsb := h4.below hB h4.lt
  have c0 := hsb.cell 0 (by omega)
  have c1 := hsb.cell 1 (by omega)
  have c2 := hsb.cell 2 (by omega)
  have c3 := hsb.cell 3 (by omega)
  refine wpOpIn_stepT hF ho (fun K hK => ?_)
  clear ho
  rw [Oper.semAt_plain F _ _ (by intro c h; cases h)]
  simp only [salg13_o19]
  go_simp
  exact hK _ _ ⟨_, act_putD x hdef _ _, rfl, Below.refl _ _⟩
set_option maxRecDepth 100000 in
set_option maxHeartbeats 2000000 in
theorem salg13_s20 {F : Fence} (hF : Wide F) {n : Nat} (b3 b4 b9 b12 : Nat) (A B : Nat → Bool) (Q : Exit → Act → World → Prop) (df : List Deferred) (w0 : World)
    (h3 : SBox w0 b3 A) (h4 : SBox w0 b4 B) (h9 : SBox w0 b9 (NO A)) (h12 : SBox w0 b12 (fold A)) (hT : Tab w0)
    (x : Act) (w : World) (hB : Below w0.heap.size w0 w) (hdef : x.defers = df) (u3 : x.tmps.getD 3 undef = .pointer (some ⟨b3, 0, none⟩)) (u4 : x.tmps.getD 4 undef = .pointer (some ⟨b4, 0, none⟩)) (u9 : x.tmps.getD 9 undef = .pointer (some ⟨b9, 0, none⟩)) (u12 : x.tmps.getD 12 undef = .pointer (some ⟨b12, 0, none⟩))
    (p19 : salg13_val b3 b4 b9 b12 A B 19 (x.tmps.getD 129 undef) w)
    (p12 : salg13_val b3 b4 b9 b12 A B 12 (x.tmps.getD 122 undef) w)
    : wpOpIn F n Tryd.prog salg13_ops Q 20 (fun a' w' => ∃ v, a' = x.put (some 130) v ∧ (v = sv (fold B)) ∧ Below w.heap.size w w') x w := by
  have ho : salg13_ops[20]? = some salg13_o20 := rfl
  simp only [Array.getD_eq_getD_getElem?] at u3 u4 u9 u12
  have q19 : x.tmps.getD 129 undef = sv B := p19
  have q12 : x.tmps.getD 122 undef = .bool true := p12
  simp only [Array.getD_eq_getD_getElem?] at q19 q12
  have e12 : (salg13_ops[12]?.bind fun x => x.dst) = some 122 := rfl
  have g12 := get_someT q12 (fun h => by cases h)
  refine wpOpIn_stepT hF ho (fun K hK => ?_)
  clear ho
  rw [Oper.semAt_plain F _ _ (by intro c h; cases h)]
  simp only [salg13_o20]
  go_simp
  refine ⟨hF.deep, (hF.call (fold_any B w (hT.below hB))).mono ?_⟩
  rintro e w' ⟨rfl, hb⟩
  exact hK _ _ ⟨_, act_putD x hdef _ _, rfl, hb⟩
set_option maxRecDepth 100000 in
set_option maxHeartbeats 2000000 in
theorem salg13_s21 {F : Fence} (hF : Wide F) {n : Nat} (b3 b4 b9 b12 : Nat) (A B : Nat → Bool) (Q : Exit → Act → World → Prop) (df : List Deferred) (w0 : World)
    (h3 : SBox w0 b3 A) (h4 : SBox w0 b4 B) (h9 : SBox w0 b9 (NO A)) (h12 : SBox w0 b12 (fold A)) (hT : Tab w0)
    (x : Act) (w : World) (hB : Below w0.heap.size w0 w) (hdef : x.defers = df) (u3 : x.tmps.getD 3 undef = .pointer (some ⟨b3, 0, none⟩)) (u4 : x.tmps.getD 4 undef = .pointer (some ⟨b4, 0, none⟩)) (u9 : x.tmps.getD 9 undef = .pointer (some ⟨b9, 0, none⟩)) (u12 : x.tmps.getD 12 undef = .pointer (some ⟨b12, 0, none⟩))
    (p18 : salg13_val b3 b4 b9 b12 A B 18 (x.tmps.getD 128 undef) w)
    (p20 : salg13_val b3 b4 b9 b12 A B 20 (x.tmps.getD 130 undef) w)
    (p12 : salg13_val b3 b4 b9 b12 A B 12 (x.tmps.getD 122 undef) w)
    : wpOpIn F n Tryd.prog salg13_ops Q 21 (fun a' w' => ∃ v, a' = x.put (some 131) v ∧ (∃ g, v = .slice (some ⟨g, 0, none⟩) 2 2 ∧ Sets w' (some ⟨g, 0, none⟩) 2 (two (fold A) (fold B))) ∧ Below w.heap.size w w') x w := by
  have ho : salg13_ops[21]? = some salg13_o21 := rfl
  simp only [Array.getD_eq_getD_getElem?] at u3 u4 u9 u12
  have q18 : x.tmps.getD 128 undef = sv (fold A) := p18
  have q20 : x.tmps.getD 130 undef = sv (fold B) := p20
  have q12 : x.tmps.getD 122 undef = .bool true := p12
  simp only [Array.getD_eq_getD_getElem?] at q18 q20 q12
  have e12 : (salg13_ops[12]?.bind fun x => x.dst) = some 122 := rfl
  have g12 := get_someT q12 (fun h => by cases h)
  simp only [sv, st, sc] at q18 q20
  refine wpOpIn_stepT hF ho (fun K hK => ?_)
  clear ho
  rw [Oper.semAt_plain F _ _ (by intro c h; cases h)]
  simp only [salg13_o21]
  go_simp
  exact hK _ _ ⟨_, act_putD x hdef _ _, ⟨_, rfl, two_sets w w.heap.size rfl (fold A) (fold B) _⟩, below_alloc _ _⟩
set_option maxRecDepth 100000 in
set_option maxHeartbeats 2000000 in
theorem salg13_s22 {F : Fence} (hF : Wide F) {n : Nat} (b3 b4 b9 b12 : Nat) (A B : Nat → Bool) (Q : Exit → Act → World → Prop) (df : List Deferred) (w0 : World)
    (h3 : SBox w0 b3 A) (h4 : SBox w0 b4 B) (h9 : SBox w0 b9 (NO A)) (h12 : SBox w0 b12 (fold A)) (hT : Tab w0)
    (x : Act) (w : World) (hB : Below w0.heap.size w0 w) (hdef : x.defers = df) (u3 : x.tmps.getD 3 undef = .pointer (some ⟨b3, 0, none⟩)) (u4 : x.tmps.getD 4 undef = .pointer (some ⟨b4, 0, none⟩)) (u9 : x.tmps.getD 9 undef = .pointer (some ⟨b9, 0, none⟩)) (u12 : x.tmps.getD 12 undef = .pointer (some ⟨b12, 0, none⟩))
    (p21 : salg13_val b3 b4 b9 b12 A B 21 (x.tmps.getD 131 undef) w)
    (p12 : salg13_val b3 b4 b9 b12 A B 12 (x.tmps.getD 122 undef) w)
    : wpOpIn F n Tryd.prog salg13_ops Q 22 (fun a' w' => ∃ v, a' = x.put (some 132) v ∧ (v = sv (anyS (two (fold A) (fold B)) 2)) ∧ Below w.heap.size w w') x w := by
  have ho : salg13_ops[22]? = some salg13_o22 := rfl
  simp only [Array.getD_eq_getD_getElem?] at u3 u4 u9 u12
  obtain ⟨g21, q21, p21⟩ := p21
  have q21 : x.tmps.getD 131 undef = .slice (some ⟨g21, 0, none⟩) 2 2 := q21
  have q12 : x.tmps.getD 122 undef = .bool true := p12
  simp only [Array.getD_eq_getD_getElem?] at q21 q12
  have e12 : (salg13_ops[12]?.bind fun x => x.dst) = some 122 := rfl
  have g12 := get_someT q12 (fun h => by cases h)
  refine wpOpIn_stepT hF ho (fun K hK => ?_)
  clear ho
  rw [Oper.semAt_plain F _ _ (by intro c h; cases h)]
  simp only [salg13_o22]
  go_simp
  refine ⟨hF.deep, (hF.call (union_any _ 2 2 (two (fold A) (fold B)) w (by omega) p21)).mono ?_⟩
  rintro e w' ⟨rfl, hb⟩
  exact hK _ _ ⟨_, act_putD x hdef _ _, rfl, hb⟩
set_option maxRecDepth 100000 in
set_option maxHeartbeats 2000000 in
theorem salg13_s23 {F : Fence} (hF : Wide F) {n : Nat} (b3 b4 b9 b12 : Nat) (A B : Nat → Bool) (Q : Exit → Act → World → Prop) (df : List Deferred) (w0 : World)
    (h3 : SBox w0 b3 A) (h4 : SBox w0 b4 B) (h9 : SBox w0 b9 (NO A)) (h12 : SBox w0 b12 (fold A)) (hT : Tab w0)
    (x : Act) (w : World) (hB : Below w0.heap.size w0 w) (hdef : x.defers = df) (u3 : x.tmps.getD 3 undef = .pointer (some ⟨b3, 0, none⟩)) (u4 : x.tmps.getD 4 undef = .pointer (some ⟨b4, 0, none⟩)) (u9 : x.tmps.getD 9 undef = .pointer (some ⟨b9, 0, none⟩)) (u12 : x.tmps.getD 12 undef = .pointer (some ⟨b12, 0, none⟩))
    (p17 : salg13_val b3 b4 b9 b12 A B 17 (x.tmps.getD 127 undef) w)
    (p22 : salg13_val b3 b4 b9 b12 A B 22 (x.tmps.getD 132 undef) w)
    (p12 : salg13_val b3 b4 b9 b12 A B 12 (x.tmps.getD 122 undef) w)
    : wpOpIn F n Tryd.prog salg13_ops Q 23 (fun a' w' => ∃ v, a' = x.put (some 133) v ∧ (v = .bool true) ∧ Below w.heap.size w w') x w := by
  have ho : salg13_ops[23]? = some salg13_o23 := rfl
  simp only [Array.getD_eq_getD_getElem?] at u3 u4 u9 u12
  have q17 : x.tmps.getD 127 undef = sv (fold (anyS (two A B) 2)) := p17
  have q22 : x.tmps.getD 132 undef = sv (anyS (two (fold A) (fold B)) 2) := p22
  have q12 : x.tmps.getD 122 undef = .bool true := p12
  simp only [Array.getD_eq_getD_getElem?] at q17 q22 q12
  have e12 : (salg13_ops[12]?.bind fun x => x.dst) = some 122 := rfl
  have g12 := get_someT q12 (fun h => by cases h)
  simp only [sv, st, sc] at q17 q22
  have he := fun W => eqSt (fold (anyS (two A B) 2)) (anyS (two (fold A) (fold B)) 2) W true ⟨fun _ => fun b hb => alg_fu A B b hb, fun _ => rfl⟩
  simp only [st, sc] at he
  refine wpOpIn_stepT hF ho (fun K hK => ?_)
  clear ho
  rw [Oper.semAt_plain F _ _ (by intro c h; cases h)]
  simp only [salg13_o23]
  go_simp
  exact hK _ _ ⟨_, act_putD x hdef _ _, rfl, Below.refl _ _⟩
set_option maxRecDepth 100000 in
set_option maxHeartbeats 2000000 in
theorem salg13_s24 {F : Fence} (hF : Wide F) {n : Nat} (b3 b4 b9 b12 : Nat) (A B : Nat → Bool) (Q : Exit → Act → World → Prop) (df : List Deferred) (w0 : World)
    (h3 : SBox w0 b3 A) (h4 : SBox w0 b4 B) (h9 : SBox w0 b9 (NO A)) (h12 : SBox w0 b12 (fold A)) (hT : Tab w0)
    (x : Act) (w : World) (hB : Below w0.heap.size w0 w) (hdef : x.defers = df) (u3 : x.tmps.getD 3 undef = .pointer (some ⟨b3, 0, none⟩)) (u4 : x.tmps.getD 4 undef = .pointer (some ⟨b4, 0, none⟩)) (u9 : x.tmps.getD 9 undef = .pointer (some ⟨b9, 0, none⟩)) (u12 : x.tmps.getD 12 undef = .pointer (some ⟨b12, 0, none⟩))
    (p12 : salg13_val b3 b4 b9 b12 A B 12 (x.tmps.getD 122 undef) w)
    (p23 : salg13_val b3 b4 b9 b12 A B 23 (x.tmps.getD 133 undef) w)
    : wpOpIn F n Tryd.prog salg13_ops Q 24 (fun a' w' => ∃ v, a' = x.put (some 134) v ∧ (v = .bool true) ∧ Below w.heap.size w w') x w := by
  have ho : salg13_ops[24]? = some salg13_o24 := rfl
  simp only [Array.getD_eq_getD_getElem?] at u3 u4 u9 u12
  have q12 : x.tmps.getD 122 undef = .bool true := p12
  have q23 : x.tmps.getD 133 undef = .bool true := p23
  simp only [Array.getD_eq_getD_getElem?] at q12 q23
  refine wpOpIn_plain ho rfl (oper_inK hF.fn (fun K hK => ?_))
  clear ho
  rw [Oper.semAt_plain F _ _ (by intro c h; cases h)]
  simp only [salg13_o24]
  go_simp
  exact hK _ _ ⟨_, act_putD x hdef _ _, rfl, Below.refl _ _⟩
set_option maxRecDepth 100000 in
set_option maxHeartbeats 2000000 in
theorem salg13_s25 {F : Fence} (hF : Wide F) {n : Nat} (b3 b4 b9 b12 : Nat) (A B : Nat → Bool) (Q : Exit → Act → World → Prop) (df : List Deferred) (w0 : World)
    (h3 : SBox w0 b3 A) (h4 : SBox w0 b4 B) (h9 : SBox w0 b9 (NO A)) (h12 : SBox w0 b12 (fold A)) (hT : Tab w0)
    (x : Act) (w : World) (hB : Below w0.heap.size w0 w) (hdef : x.defers = df) (u3 : x.tmps.getD 3 undef = .pointer (some ⟨b3, 0, none⟩)) (u4 : x.tmps.getD 4 undef = .pointer (some ⟨b4, 0, none⟩)) (u9 : x.tmps.getD 9 undef = .pointer (some ⟨b9, 0, none⟩)) (u12 : x.tmps.getD 12 undef = .pointer (some ⟨b12, 0, none⟩))
    (p24 : salg13_val b3 b4 b9 b12 A B 24 (x.tmps.getD 134 undef) w)
    : wpOpIn F n Tryd.prog salg13_ops Q 25 (fun a' w' => ∃ v, a' = x.put (some 135) v ∧ (v = .bool true) ∧ Below w.heap.size w w') x w := by
  have ho : salg13_ops[25]? = some salg13_o25 := rfl
  simp only [Array.getD_eq_getD_getElem?] at u3 u4 u9 u12
  have q24 : x.tmps.getD 134 undef = .bool true := p24
  simp only [Array.getD_eq_getD_getElem?] at q24
  refine wpOpIn_plain ho rfl (oper_inK hF.fn (fun K hK => ?_))
  clear ho
  rw [Oper.semAt_plain F _ _ (by intro c h; cases h)]
  simp only [salg13_o25]
  go_simp
  exact hK _ _ ⟨_, act_putD x hdef _ _, rfl, Below.refl _ _⟩
set_option maxRecDepth 100000 in
set_option maxHeartbeats 2000000 in
theorem salg13_s26 {F : Fence} (hF : Wide F) {n : Nat} (b3 b4 b9 b12 : Nat) (A B : Nat → Bool) (Q : Exit → Act → World → Prop) (df : List Deferred) (w0 : World)
    (h3 : SBox w0 b3 A) (h4 : SBox w0 b4 B) (h9 : SBox w0 b9 (NO A)) (h12 : SBox w0 b12 (fold A)) (hT : Tab w0)
    (x : Act) (w : World) (hB : Below w0.heap.size w0 w) (hdef : x.defers = df) (u3 : x.tmps.getD 3 undef = .pointer (some ⟨b3, 0, none⟩)) (u4 : x.tmps.getD 4 undef = .pointer (some ⟨b4, 0, none⟩)) (u9 : x.tmps.getD 9 undef = .pointer (some ⟨b9, 0, none⟩)) (u12 : x.tmps.getD 12 undef = .pointer (some ⟨b12, 0, none⟩))
    (p25 : salg13_val b3 b4 b9 b12 A B 25 (x.tmps.getD 135 undef) w)
    : wpOpIn F n Tryd.prog salg13_ops Q 26 (fun a' w' => ∃ v, a' = x.put (some 136) v ∧ (v = sv A) ∧ Below w.heap.size w w') x w := by
  have ho : salg13_ops[26]? = some salg13_o26 := rfl
  simp only [Array.getD_eq_getD_getElem?] at u3 u4 u9 u12
  have q25 : x.tmps.getD 135 undef = .bool true := p25
  simp only [Array.getD_eq_getD_getElem?] at q25
  have e25 : (salg13_ops[25]?.bind fun x => x.dst) = some 135 := rfl
  have g25 := get_someT q25 (fun h => by cases h)
  have hsb := h3.below hB h3.lt
  have c0 := hsb.cell 0 (by omega)
  have c1 := hsb.cell 1 (by omega)
  have c2 := hsb.cell 2 (by omega)
  have c3 := hsb.cell 3 (by omega)
  refine wpOpIn_stepT hF ho (fun K hK => ?_)
  clear ho
  rw [Oper.semAt_plain F _ _ (by intro c h; cases h)]
  simp only [salg13_o26]
  go_simp
  exact hK _ _ ⟨_, act_putD x hdef _ _, rfl, Below.refl _ _⟩
set_option maxRecDepth 100000 in
set_option maxHeartbeats 2000000 in
theorem salg13_s27 {F : Fence} (hF : Wide F) {n : Nat} (b3 b4 b9 b12 : Nat) (A B : Nat → Bool) (Q : Exit → Act → World → Prop) (df : List Deferred) (w0 : World)
    (h3 : SBox w0 b3 A) (h4 : SBox w0 b4 B) (h9 : SBox w0 b9 (NO A)) (h12 : SBox w0 b12 (fold A)) (hT : Tab w0)
    (x : Act) (w : World) (hB : Below w0.heap.size w0 w) (hdef : x.defers = df) (u3 : x.tmps.getD 3 undef = .pointer (some ⟨b3, 0, none⟩)) (u4 : x.tmps.getD 4 undef = .pointer (some ⟨b4, 0, none⟩)) (u9 : x.tmps.getD 9 undef = .pointer (some ⟨b9, 0, none⟩)) (u12 : x.tmps.getD 12 undef = .pointer (some ⟨b12, 0, none⟩))
    (p26 : salg13_val b3 b4 b9 b12 A B 26 (x.tmps.getD 136 undef) w)
    (p25 : salg13_val b3 b4 b9 b12 A B 25 (x.tmps.getD 135 undef) w)
    : wpOpIn F n Tryd.prog salg13_ops Q 27 (fun a' w' => ∃ v, a' = x.put (some 137) v ∧ (v = .int .i64 ((bl A 256).length : Nat)) ∧ Below w.heap.size w w') x w := by
  have ho : salg13_ops[27]? = some salg13_o27 := rfl
  simp only [Array.getD_eq_getD_getElem?] at u3 u4 u9 u12
  have q26 : x.tmps.getD 136 undef = sv A := p26
  have q25 : x.tmps.getD 135 undef = .bool true := p25
  simp only [Array.getD_eq_getD_getElem?] at q26 q25
  have e25 : (salg13_ops[25]?.bind fun x => x.dst) = some 135 := rfl
  have g25 := get_someT q25 (fun h => by cases h)
  refine wpOpIn_stepT hF ho (fun K hK => ?_)
  clear ho
  rw [Oper.semAt_plain F _ _ (by intro c h; cases h)]
  simp only [salg13_o27]
  go_simp
  refine ⟨hF.deep, (hF.call (count_any A w)).mono ?_⟩
  rintro e w' ⟨rfl, hb⟩
  exact hK _ _ ⟨_, act_putD x hdef _ _, rfl, hb⟩
set_option maxRecDepth 100000 in
set_option maxHeartbeats 2000000 in
theorem salg13_s28 {F : Fence} (hF : Wide F) {n : Nat} (b3 b4 b9 b12 : Nat) (A B : Nat → Bool) (Q : Exit → Act → World → Prop) (df : List Deferred) (w0 : World)
    (h3 : SBox w0 b3 A) (h4 : SBox w0 b4 B) (h9 : SBox w0 b9 (NO A)) (h12 : SBox w0 b12 (fold A)) (hT : Tab w0)
    (x : Act) (w : World) (hB : Below w0.heap.size w0 w) (hdef : x.defers = df) (u3 : x.tmps.getD 3 undef = .pointer (some ⟨b3, 0, none⟩)) (u4 : x.tmps.getD 4 undef = .pointer (some ⟨b4, 0, none⟩)) (u9 : x.tmps.getD 9 undef = .pointer (some ⟨b9, 0, none⟩)) (u12 : x.tmps.getD 12 undef = .pointer (some ⟨b12, 0, none⟩))
    (p25 : salg13_val b3 b4 b9 b12 A B 25 (x.tmps.getD 135 undef) w)
    : wpOpIn F n Tryd.prog salg13_ops Q 28 (fun a' w' => ∃ v, a' = x.put (some 138) v ∧ (v = sv (NO A)) ∧ Below w.heap.size w w') x w := by
  have ho : salg13_ops[28]? = some salg13_o28 := rfl
  simp only [Array.getD_eq_getD_getElem?] at u3 u4 u9 u12
  have q25 : x.tmps.getD 135 undef = .bool true := p25
  simp only [Array.getD_eq_getD_getElem?] at q25
  have e25 : (salg13_ops[25]?.bind fun x => x.dst) = some 135 := rfl
  have g25 := get_someT q25 (fun h => by cases h)
  have hsb := h9.below hB h9.lt
  have c0 := hsb.cell 0 (by omega)
  have c1 := hsb.cell 1 (by omega)
  have c2 := hsb.cell 2 (by omega)
  have c3 := hsb.cell 3 (by omega)
  refine wpOpIn_stepT hF ho (fun K hK => ?_)
  clear ho
  rw [Oper.semAt_plain F _ _ (by intro c h; cases h)]
  simp only [salg13_o28]
  go_simp
  exact hK _ _ ⟨_, act_putD x hdef _ _, rfl, Below.refl _ _⟩
set_option maxRecDepth 100000 in
set_option maxHeartbeats 2000000 in
theorem salg13_s29 {F : Fence} (hF : Wide F) {n : Nat} (b3 b4 b9 b12 : Nat) (A B : Nat → Bool) (Q : Exit → Act → World → Prop) (df : List Deferred) (w0 : World)
    (h3 : SBox w0 b3 A) (h4 : SBox w0 b4 B) (h9 : SBox w0 b9 (NO A)) (h12 : SBox w0 b12 (fold A)) (hT : Tab w0)
    (x : Act) (w : World) (hB : Below w0.heap.size w0 w) (hdef : x.defers = df) (u3 : x.tmps.getD 3 undef = .pointer (some ⟨b3, 0, none⟩)) (u4 : x.tmps.getD 4 undef = .pointer (some ⟨b4, 0, none⟩)) (u9 : x.tmps.getD 9 undef = .pointer (some ⟨b9, 0, none⟩)) (u12 : x.tmps.getD 12 undef = .pointer (some ⟨b12, 0, none⟩))
    (p28 : salg13_val b3 b4 b9 b12 A B 28 (x.tmps.getD 138 undef) w)
    (p25 : salg13_val b3 b4 b9 b12 A B 25 (x.tmps.getD 135 undef) w)
    : wpOpIn F n Tryd.prog salg13_ops Q 29 (fun a' w' => ∃ v, a' = x.put (some 139) v ∧ (v = .int .i64 ((bl (NO A) 256).length : Nat)) ∧ Below w.heap.size w w') x w := by
  have ho : salg13_ops[29]? = some salg13_o29 := rfl
  simp only [Array.getD_eq_getD_getElem?] at u3 u4 u9 u12
  have q28 : x.tmps.getD 138 undef = sv (NO A) := p28
  have q25 : x.tmps.getD 135 undef = .bool true := p25
  simp only [Array.getD_eq_getD_getElem?] at q28 q25
  have e25 : (salg13_ops[25]?.bind fun x => x.dst) = some 135 := rfl
  have g25 := get_someT q25 (fun h => by cases h)
  refine wpOpIn_stepT hF ho (fun K hK => ?_)
  clear ho
  rw [Oper.semAt_plain F _ _ (by intro c h; cases h)]
  simp only [salg13_o29]
  go_simp
  refine ⟨hF.deep, (hF.call (count_any (NO A) w)).mono ?_⟩
  rintro e w' ⟨rfl, hb⟩
  exact hK _ _ ⟨_, act_putD x hdef _ _, rfl, hb⟩
set_option maxRecDepth 100000 in
set_option maxHeartbeats 2000000 in
theorem salg13_s30 {F : Fence} (hF : Wide F) {n : Nat} (b3 b4 b9 b12 : Nat) (A B : Nat → Bool) (Q : Exit → Act → World → Prop) (df : List Deferred) (w0 : World)
    (h3 : SBox w0 b3 A) (h4 : SBox w0 b4 B) (h9 : SBox w0 b9 (NO A)) (h12 : SBox w0 b12 (fold A)) (hT : Tab w0)
    (x : Act) (w : World) (hB : Below w0.heap.size w0 w) (hdef : x.defers = df) (u3 : x.tmps.getD 3 undef = .pointer (some ⟨b3, 0, none⟩)) (u4 : x.tmps.getD 4 undef = .pointer (some ⟨b4, 0, none⟩)) (u9 : x.tmps.getD 9 undef = .pointer (some ⟨b9, 0, none⟩)) (u12 : x.tmps.getD 12 undef = .pointer (some ⟨b12, 0, none⟩))
    (p27 : salg13_val b3 b4 b9 b12 A B 27 (x.tmps.getD 137 undef) w)
    (p29 : salg13_val b3 b4 b9 b12 A B 29 (x.tmps.getD 139 undef) w)
    (p25 : salg13_val b3 b4 b9 b12 A B 25 (x.tmps.getD 135 undef) w)
    : wpOpIn F n Tryd.prog salg13_ops Q 30 (fun a' w' => ∃ v, a' = x.put (some 140) v ∧ (v = .int .i64 256) ∧ Below w.heap.size w w') x w := by
  have ho : salg13_ops[30]? = some salg13_o30 := rfl
  simp only [Array.getD_eq_getD_getElem?] at u3 u4 u9 u12
  have q27 : x.tmps.getD 137 undef = .int .i64 ((bl A 256).length : Nat) := p27
  have q29 : x.tmps.getD 139 undef = .int .i64 ((bl (NO A) 256).length : Nat) := p29
  have q25 : x.tmps.getD 135 undef = .bool true := p25
  simp only [Array.getD_eq_getD_getElem?] at q27 q29 q25
  have e25 : (salg13_ops[25]?.bind fun x => x.dst) = some 135 := rfl
  have g25 := get_someT q25 (fun h => by cases h)
  have hcn := alg_cnt A
  have hbl1 := bl_length_le A 256
  have hbl2 := bl_length_le (NO A) 256
  have hadd : ((bl A 256).length : Int) + ((bl (NO A) 256).length : Int) = 256 := by omega
  refine wpOpIn_stepT hF ho (fun K hK => ?_)
  clear ho
  rw [Oper.semAt_plain F _ _ (by intro c h; cases h)]
  simp only [salg13_o30]
  go_simp
  exact hK _ _ ⟨_, act_putD x hdef _ _, rfl, Below.refl _ _⟩
set_option maxRecDepth 100000 in
set_option maxHeartbeats 2000000 in
theorem salg13_s31 {F : Fence} (hF : Wide F) {n : Nat} (b3 b4 b9 b12 : Nat) (A B : Nat → Bool) (Q : Exit → Act → World → Prop) (df : List Deferred) (w0 : World)
    (h3 : SBox w0 b3 A) (h4 : SBox w0 b4 B) (h9 : SBox w0 b9 (NO A)) (h12 : SBox w0 b12 (fold A)) (hT : Tab w0)
    (x : Act) (w : World) (hB : Below w0.heap.size w0 w) (hdef : x.defers = df) (u3 : x.tmps.getD 3 undef = .pointer (some ⟨b3, 0, none⟩)) (u4 : x.tmps.getD 4 undef = .pointer (some ⟨b4, 0, none⟩)) (u9 : x.tmps.getD 9 undef = .pointer (some ⟨b9, 0, none⟩)) (u12 : x.tmps.getD 12 undef = .pointer (some ⟨b12, 0, none⟩))
    (p30 : salg13_val b3 b4 b9 b12 A B 30 (x.tmps.getD 140 undef) w)
    (p25 : salg13_val b3 b4 b9 b12 A B 25 (x.tmps.getD 135 undef) w)
    : wpOpIn F n Tryd.prog salg13_ops Q 31 (fun a' w' => ∃ v, a' = x.put (some 141) v ∧ (v = .bool true) ∧ Below w.heap.size w w') x w := by
  have ho : salg13_ops[31]? = some salg13_o31 := rfl
  simp only [Array.getD_eq_getD_getElem?] at u3 u4 u9 u12
  have q30 : x.tmps.getD 140 undef = .int .i64 256 := p30
  have q25 : x.tmps.getD 135 undef = .bool true := p25
  simp only [Array.getD_eq_getD_getElem?] at q30 q25
  have e25 : (salg13_ops[25]?.bind fun x => x.dst) = some 135 := rfl
  have g25 := get_someT q25 (fun h => by cases h)
  refine wpOpIn_stepT hF ho (fun K hK => ?_)
  clear ho
  rw [Oper.semAt_plain F _ _ (by intro c h; cases h)]
  simp only [salg13_o31]
  go_simp
  exact hK _ _ ⟨_, act_putD x hdef _ _, rfl, Below.refl _ _⟩
set_option maxRecDepth 100000 in
set_option maxHeartbeats 2000000 in
theorem salg13_s32 {F : Fence} (hF : Wide F) {n : Nat} (b3 b4 b9 b12 : Nat) (A B : Nat → Bool) (Q : Exit → Act → World → Prop) (df : List Deferred) (w0 : World)
    (h3 : SBox w0 b3 A) (h4 : SBox w0 b4 B) (h9 : SBox w0 b9 (NO A)) (h12 : SBox w0 b12 (fold A)) (hT : Tab w0)
    (x : Act) (w : World) (hB : Below w0.heap.size w0 w) (hdef : x.defers = df) (u3 : x.tmps.getD 3 undef = .pointer (some ⟨b3, 0, none⟩)) (u4 : x.tmps.getD 4 undef = .pointer (some ⟨b4, 0, none⟩)) (u9 : x.tmps.getD 9 undef = .pointer (some ⟨b9, 0, none⟩)) (u12 : x.tmps.getD 12 undef = .pointer (some ⟨b12, 0, none⟩))
    (p25 : salg13_val b3 b4 b9 b12 A B 25 (x.tmps.getD 135 undef) w)
    (p31 : salg13_val b3 b4 b9 b12 A B 31 (x.tmps.getD 141 undef) w)
    : wpOpIn F n Tryd.prog salg13_ops Q 32 (fun a' w' => ∃ v, a' = x.put (some 142) v ∧ (v = .bool true) ∧ Below w.heap.size w w') x w := by
  have ho : salg13_ops[32]? = some salg13_o32 := rfl
  simp only [Array.getD_eq_getD_getElem?] at u3 u4 u9 u12
  have q25 : x.tmps.getD 135 undef = .bool true := p25
  have q31 : x.tmps.getD 141 undef = .bool true := p31
  simp only [Array.getD_eq_getD_getElem?] at q25 q31
  refine wpOpIn_plain ho rfl (oper_inK hF.fn (fun K hK => ?_))
  clear ho
  rw [Oper.semAt_plain F _ _ (by intro c h; cases h)]
  simp only [salg13_o32]
  go_simp
  exact hK _ _ ⟨_, act_putD x hdef _ _, rfl, Below.refl _ _⟩
set_option maxRecDepth 100000 in
set_option maxHeartbeats 2000000 in
theorem salg13_s33 {F : Fence} (hF : Wide F) {n : Nat} (b3 b4 b9 b12 : Nat) (A B : Nat → Bool) (Q : Exit → Act → World → Prop) (df : List Deferred) (w0 : World)
    (h3 : SBox w0 b3 A) (h4 : SBox w0 b4 B) (h9 : SBox w0 b9 (NO A)) (h12 : SBox w0 b12 (fold A)) (hT : Tab w0)
    (x : Act) (w : World) (hB : Below w0.heap.size w0 w) (hdef : x.defers = df) (u3 : x.tmps.getD 3 undef = .pointer (some ⟨b3, 0, none⟩)) (u4 : x.tmps.getD 4 undef = .pointer (some ⟨b4, 0, none⟩)) (u9 : x.tmps.getD 9 undef = .pointer (some ⟨b9, 0, none⟩)) (u12 : x.tmps.getD 12 undef = .pointer (some ⟨b12, 0, none⟩))
    (p32 : salg13_val b3 b4 b9 b12 A B 32 (x.tmps.getD 142 undef) w)
    : wpOpIn F n Tryd.prog salg13_ops Q 33 (fun a' w' => ∃ v, a' = x.put (some 6) v ∧ (v = .bool true) ∧ Below w.heap.size w w') x w := by
  have ho : salg13_ops[33]? = some salg13_o33 := rfl
  simp only [Array.getD_eq_getD_getElem?] at u3 u4 u9 u12
  have q32 : x.tmps.getD 142 undef = .bool true := p32
  simp only [Array.getD_eq_getD_getElem?] at q32
  refine wpOpIn_plain ho rfl (oper_inK hF.fn (fun K hK => ?_))
  clear ho
  rw [Oper.semAt_plain F _ _ (by intro c h; cases h)]
  simp only [salg13_o33]
  go_simp
  exact hK _ _ ⟨_, act_putD x hdef _ _, rfl, Below.refl _ _⟩

set_option maxRecDepth 100000 in
set_option maxHeartbeats 4000000 in
theorem salg13 {F : Fence} (hF : Wide F) {n : Nat} (b3 b4 b9 b12 : Nat) (A B : Nat → Bool) (Q : Exit → Act → World → Prop) (t0 : Array Value) (df : List Deferred) (w0 : World) (ht : t0.size = 143)
    (hs3 : t0.getD 3 undef = .pointer (some ⟨b3, 0, none⟩)) (hs4 : t0.getD 4 undef = .pointer (some ⟨b4, 0, none⟩)) (hs9 : t0.getD 9 undef = .pointer (some ⟨b9, 0, none⟩)) (hs12 : t0.getD 12 undef = .pointer (some ⟨b12, 0, none⟩))
    (h3 : SBox w0 b3 A) (h4 : SBox w0 b4 B) (h9 : SBox w0 b9 (NO A)) (h12 : SBox w0 b12 (fold A)) (hT : Tab w0)
    (hQ : ∀ (vs : Nat → Value) (w : World), Below w0.heap.size w0 w → (vs 6 = .bool true) → Q .normal { tmps := [110, 111, 112, 113, 114, 115, 116, 117, 118, 119, 120, 121, 122, 123, 124, 125, 126, 127, 128, 129, 130, 131, 132, 133, 134, 135, 136, 137, 138, 139, 140, 141, 142, 6].foldl (fun y d => y.setIfInBounds d (vs d)) t0, defers := df } w) :
    (Code.region 13 salg13_ops true).wpIn F n Tryd.prog Q { tmps := t0, defers := df } w0 := by
  refine wpIn_region_tail 34 (by decide) (by kernel_rfl) (fun a b => Below a.heap.size a b) (salg13_val b3 b4 b9 b12 A B) t0 df w0 (by rw [ht]; kernel_rfl) (by kernel_rfl) (by kernel_rfl) (by kernel_rfl) ((Below.refl _ _).drew) (fun _ _ _ h k => h.trans (k.mono h.size)) (salg13_below b3 b4 b9 b12 A B) ?_ ?_
  · intro j o ho hj x w hB hdef hsz hs hdeps
    have hs' : ∀ s, ¬ salg13_mem s → x.tmps.getD s undef = t0.getD s undef := fun s hn => hs s (fun j hj e => hn (by rw [e]; exact salg13_slots j hj))
    have u3 := (hs' 3 (by decide)).trans hs3
    have u4 := (hs' 4 (by decide)).trans hs4
    have u9 := (hs' 9 (by decide)).trans hs9
    have u12 := (hs' 12 (by decide)).trans hs12
    match j, ho, hj with
    | 0, ho, _ =>
      have e : o = salg13_o0 := (Option.some.inj ho).symm
      subst e
      exact salg13_s0 hF b3 b4 b9 b12 A B Q df w0 h3 h4 h9 h12 hT x w hB hdef u3 u4 u9 u12 
    | 1, ho, _ =>
      have e : o = salg13_o1 := (Option.some.inj ho).symm
      subst e
      exact salg13_s1 hF b3 b4 b9 b12 A B Q df w0 h3 h4 h9 h12 hT x w hB hdef u3 u4 u9 u12 (hdeps { on := 0, ground := Ground.data } (by simp) rfl)
    | 2, ho, _ =>
      have e : o = salg13_o2 := (Option.some.inj ho).symm
      subst e
      exact salg13_s2 hF b3 b4 b9 b12 A B Q df w0 h3 h4 h9 h12 hT x w hB hdef u3 u4 u9 u12 
    | 3, ho, _ =>
      have e : o = salg13_o3 := (Option.some.inj ho).symm
      subst e
      exact salg13_s3 hF b3 b4 b9 b12 A B Q df w0 h3 h4 h9 h12 hT x w hB hdef u3 u4 u9 u12 (hdeps { on := 1, ground := Ground.data } (by simp) rfl) (hdeps { on := 2, ground := Ground.data } (by simp) rfl)
    | 4, ho, _ =>
      have e : o = salg13_o4 := (Option.some.inj ho).symm
      subst e
      exact salg13_s4 hF b3 b4 b9 b12 A B Q df w0 h3 h4 h9 h12 hT x w hB hdef u3 u4 u9 u12 (hdeps { on := 3, ground := Ground.data } (by simp) rfl)
    | 5, ho, _ =>
      have e : o = salg13_o5 := (Option.some.inj ho).symm
      subst e
      exact salg13_s5 hF b3 b4 b9 b12 A B Q df w0 h3 h4 h9 h12 hT x w hB hdef u3 u4 u9 u12 (hdeps { on := 4, ground := Ground.guard } (by simp) rfl)
    | 6, ho, _ =>
      have e : o = salg13_o6 := (Option.some.inj ho).symm
      subst e
      exact salg13_s6 hF b3 b4 b9 b12 A B Q df w0 h3 h4 h9 h12 hT x w hB hdef u3 u4 u9 u12 (hdeps { on := 4, ground := Ground.guard } (by simp) rfl)
    | 7, ho, _ =>
      have e : o = salg13_o7 := (Option.some.inj ho).symm
      subst e
      exact salg13_s7 hF b3 b4 b9 b12 A B Q df w0 h3 h4 h9 h12 hT x w hB hdef u3 u4 u9 u12 (hdeps { on := 5, ground := Ground.data } (by simp) rfl) (hdeps { on := 6, ground := Ground.data } (by simp) rfl) (hdeps { on := 4, ground := Ground.guard } (by simp) rfl)
    | 8, ho, _ =>
      have e : o = salg13_o8 := (Option.some.inj ho).symm
      subst e
      exact salg13_s8 hF b3 b4 b9 b12 A B Q df w0 h3 h4 h9 h12 hT x w hB hdef u3 u4 u9 u12 (hdeps { on := 7, ground := Ground.data } (by simp) rfl) (hdeps { on := 4, ground := Ground.guard } (by simp) rfl)
    | 9, ho, _ =>
      have e : o = salg13_o9 := (Option.some.inj ho).symm
      subst e
      exact salg13_s9 hF b3 b4 b9 b12 A B Q df w0 h3 h4 h9 h12 hT x w hB hdef u3 u4 u9 u12 (hdeps { on := 4, ground := Ground.guard } (by simp) rfl)
    | 10, ho, _ =>
      have e : o = salg13_o10 := (Option.some.inj ho).symm
      subst e
      exact salg13_s10 hF b3 b4 b9 b12 A B Q df w0 h3 h4 h9 h12 hT x w hB hdef u3 u4 u9 u12 (hdeps { on := 8, ground := Ground.data } (by simp) rfl) (hdeps { on := 9, ground := Ground.data } (by simp) rfl) (hdeps { on := 4, ground := Ground.guard } (by simp) rfl)
    | 11, ho, _ =>
      have e : o = salg13_o11 := (Option.some.inj ho).symm
      subst e
      exact salg13_s11 hF b3 b4 b9 b12 A B Q df w0 h3 h4 h9 h12 hT x w hB hdef u3 u4 u9 u12 (hdeps { on := 4, ground := Ground.data } (by simp) rfl) (hdeps { on := 10, ground := Ground.data } (by simp) rfl)
    | 12, ho, _ =>
      have e : o = salg13_o12 := (Option.some.inj ho).symm
      subst e
      exact salg13_s12 hF b3 b4 b9 b12 A B Q df w0 h3 h4 h9 h12 hT x w hB hdef u3 u4 u9 u12 (hdeps { on := 11, ground := Ground.data } (by simp) rfl)
    | 13, ho, _ =>
      have e : o = salg13_o13 := (Option.some.inj ho).symm
      subst e
      exact salg13_s13 hF b3 b4 b9 b12 A B Q df w0 h3 h4 h9 h12 hT x w hB hdef u3 u4 u9 u12 (hdeps { on := 12, ground := Ground.guard } (by simp) rfl)
    | 14, ho, _ =>
      have e : o = salg13_o14 := (Option.some.inj ho).symm
      subst e
      exact salg13_s14 hF b3 b4 b9 b12 A B Q df w0 h3 h4 h9 h12 hT x w hB hdef u3 u4 u9 u12 (hdeps { on := 12, ground := Ground.guard } (by simp) rfl)
    | 15, ho, _ =>
      have e : o = salg13_o15 := (Option.some.inj ho).symm
      subst e
      exact salg13_s15 hF b3 b4 b9 b12 A B Q df w0 h3 h4 h9 h12 hT x w hB hdef u3 u4 u9 u12 (hdeps { on := 13, ground := Ground.data } (by simp) rfl) (hdeps { on := 14, ground := Ground.data } (by simp) rfl) (hdeps { on := 12, ground := Ground.guard } (by simp) rfl)
    | 16, ho, _ =>
      have e : o = salg13_o16 := (Option.some.inj ho).symm
      subst e
      exact salg13_s16 hF b3 b4 b9 b12 A B Q df w0 h3 h4 h9 h12 hT x w hB hdef u3 u4 u9 u12 (hdeps { on := 15, ground := Ground.data } (by simp) rfl) (hdeps { on := 12, ground := Ground.guard } (by simp) rfl)
    | 17, ho, _ =>
      have e : o = salg13_o17 := (Option.some.inj ho).symm
      subst e
      exact salg13_s17 hF b3 b4 b9 b12 A B Q df w0 h3 h4 h9 h12 hT x w hB hdef u3 u4 u9 u12 (hdeps { on := 16, ground := Ground.data } (by simp) rfl) (hdeps { on := 12, ground := Ground.guard } (by simp) rfl)
    | 18, ho, _ =>
      have e : o = salg13_o18 := (Option.some.inj ho).symm
      subst e
      exact salg13_s18 hF b3 b4 b9 b12 A B Q df w0 h3 h4 h9 h12 hT x w hB hdef u3 u4 u9 u12 (hdeps { on := 12, ground := Ground.guard } (by simp) rfl)
    | 19, ho, _ =>
      have e : o = salg13_o19 := (Option.some.inj ho).symm
      subst e
      exact salg13_s19 hF b3 b4 b9 b12 A B Q df w0 h3 h4 h9 h12 hT x w hB hdef u3 u4 u9 u12 (hdeps { on := 12, ground := Ground.guard } (by simp) rfl)
    | 20, ho, _ =>
      have e : o = salg13_o20 := (Option.some.inj ho).symm
      subst e
      exact salg13_s20 hF b3 b4 b9 b12 A B Q df w0 h3 h4 h9 h12 hT x w hB hdef u3 u4 u9 u12 (hdeps { on := 19, ground := Ground.data } (by simp) rfl) (hdeps { on := 12, ground := Ground.guard } (by simp) rfl)
    | 21, ho, _ =>
      have e : o = salg13_o21 := (Option.some.inj ho).symm
      subst e
      exact salg13_s21 hF b3 b4 b9 b12 A B Q df w0 h3 h4 h9 h12 hT x w hB hdef u3 u4 u9 u12 (hdeps { on := 18, ground := Ground.data } (by simp) rfl) (hdeps { on := 20, ground := Ground.data } (by simp) rfl) (hdeps { on := 12, ground := Ground.guard } (by simp) rfl)
    | 22, ho, _ =>
      have e : o = salg13_o22 := (Option.some.inj ho).symm
      subst e
      exact salg13_s22 hF b3 b4 b9 b12 A B Q df w0 h3 h4 h9 h12 hT x w hB hdef u3 u4 u9 u12 (hdeps { on := 21, ground := Ground.data } (by simp) rfl) (hdeps { on := 12, ground := Ground.guard } (by simp) rfl)
    | 23, ho, _ =>
      have e : o = salg13_o23 := (Option.some.inj ho).symm
      subst e
      exact salg13_s23 hF b3 b4 b9 b12 A B Q df w0 h3 h4 h9 h12 hT x w hB hdef u3 u4 u9 u12 (hdeps { on := 17, ground := Ground.data } (by simp) rfl) (hdeps { on := 22, ground := Ground.data } (by simp) rfl) (hdeps { on := 12, ground := Ground.guard } (by simp) rfl)
    | 24, ho, _ =>
      have e : o = salg13_o24 := (Option.some.inj ho).symm
      subst e
      exact salg13_s24 hF b3 b4 b9 b12 A B Q df w0 h3 h4 h9 h12 hT x w hB hdef u3 u4 u9 u12 (hdeps { on := 12, ground := Ground.data } (by simp) rfl) (hdeps { on := 23, ground := Ground.data } (by simp) rfl)
    | 25, ho, _ =>
      have e : o = salg13_o25 := (Option.some.inj ho).symm
      subst e
      exact salg13_s25 hF b3 b4 b9 b12 A B Q df w0 h3 h4 h9 h12 hT x w hB hdef u3 u4 u9 u12 (hdeps { on := 24, ground := Ground.data } (by simp) rfl)
    | 26, ho, _ =>
      have e : o = salg13_o26 := (Option.some.inj ho).symm
      subst e
      exact salg13_s26 hF b3 b4 b9 b12 A B Q df w0 h3 h4 h9 h12 hT x w hB hdef u3 u4 u9 u12 (hdeps { on := 25, ground := Ground.guard } (by simp) rfl)
    | 27, ho, _ =>
      have e : o = salg13_o27 := (Option.some.inj ho).symm
      subst e
      exact salg13_s27 hF b3 b4 b9 b12 A B Q df w0 h3 h4 h9 h12 hT x w hB hdef u3 u4 u9 u12 (hdeps { on := 26, ground := Ground.data } (by simp) rfl) (hdeps { on := 25, ground := Ground.guard } (by simp) rfl)
    | 28, ho, _ =>
      have e : o = salg13_o28 := (Option.some.inj ho).symm
      subst e
      exact salg13_s28 hF b3 b4 b9 b12 A B Q df w0 h3 h4 h9 h12 hT x w hB hdef u3 u4 u9 u12 (hdeps { on := 25, ground := Ground.guard } (by simp) rfl)
    | 29, ho, _ =>
      have e : o = salg13_o29 := (Option.some.inj ho).symm
      subst e
      exact salg13_s29 hF b3 b4 b9 b12 A B Q df w0 h3 h4 h9 h12 hT x w hB hdef u3 u4 u9 u12 (hdeps { on := 28, ground := Ground.data } (by simp) rfl) (hdeps { on := 25, ground := Ground.guard } (by simp) rfl)
    | 30, ho, _ =>
      have e : o = salg13_o30 := (Option.some.inj ho).symm
      subst e
      exact salg13_s30 hF b3 b4 b9 b12 A B Q df w0 h3 h4 h9 h12 hT x w hB hdef u3 u4 u9 u12 (hdeps { on := 27, ground := Ground.data } (by simp) rfl) (hdeps { on := 29, ground := Ground.data } (by simp) rfl) (hdeps { on := 25, ground := Ground.guard } (by simp) rfl)
    | 31, ho, _ =>
      have e : o = salg13_o31 := (Option.some.inj ho).symm
      subst e
      exact salg13_s31 hF b3 b4 b9 b12 A B Q df w0 h3 h4 h9 h12 hT x w hB hdef u3 u4 u9 u12 (hdeps { on := 30, ground := Ground.data } (by simp) rfl) (hdeps { on := 25, ground := Ground.guard } (by simp) rfl)
    | 32, ho, _ =>
      have e : o = salg13_o32 := (Option.some.inj ho).symm
      subst e
      exact salg13_s32 hF b3 b4 b9 b12 A B Q df w0 h3 h4 h9 h12 hT x w hB hdef u3 u4 u9 u12 (hdeps { on := 25, ground := Ground.data } (by simp) rfl) (hdeps { on := 31, ground := Ground.data } (by simp) rfl)
    | 33, ho, _ =>
      have e : o = salg13_o33 := (Option.some.inj ho).symm
      subst e
      exact salg13_s33 hF b3 b4 b9 b12 A B Q df w0 h3 h4 h9 h12 hT x w hB hdef u3 u4 u9 u12 (hdeps { on := 32, ground := Ground.data } (by simp) rfl)
    | k + 34, _, hj => omega
  · intro x w hB hdef hsz hs hv
    have hx := frame_sets x.tmps t0 hsz [110, 111, 112, 113, 114, 115, 116, 117, 118, 119, 120, 121, 122, 123, 124, 125, 126, 127, 128, 129, 130, 131, 132, 133, 134, 135, 136, 137, 138, 139, 140, 141, 142, 6] (fun s hn => hs s (fun j hj e => hn (by rw [e]; exact salg13_slots j hj)))
    have hq := hQ (fun d => x.tmps.getD d undef) w hB (hv 33 (by decide))
    obtain ⟨T, Df⟩ := x
    dsimp only at hx hdef hq
    subst hdef
    rw [← hx] at hq
    exact hq
end Go.Proofs.YtmnjicpgdhnimaaDoor
