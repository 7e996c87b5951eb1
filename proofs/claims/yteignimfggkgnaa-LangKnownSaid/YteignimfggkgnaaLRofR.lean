/-
  The reference Of's drawn region (written by tools/gen-lrof.py).
-/
import Derived.Test.YteignimfggkgnaaLTab
import Derived.Test.YteignimfggkgnaaRegT
namespace Go.Proofs.Yteignimfggkgnaa
open Go.RowKit Go.Shelf
set_option linter.unusedVariables false
set_option linter.unusedSimpArgs false

abbrev lrof13_o0 : Oper := { dst := some 39, op := Op.move (Operand.tmp 7), type := 38, pos := "ref.go:58", after := #[], guard := none }
abbrev lrof13_o1 : Oper := { dst := some 40, op := Op.move (Operand.tmp 8), type := 3, pos := "ref.go:58", after := #[], guard := none }
abbrev lrof13_o2 : Oper := { dst := some 41, op := Op.indexAddr 38 (Operand.tmp 39) (Operand.tmp 40), type := 0, pos := "ref.go:58", after := #[{ on := 0, ground := Ground.data }, { on := 1, ground := Ground.data }], guard := none }
abbrev lrof13_o3 : Oper := { dst := some 42, op := Op.fieldAddr 41 (Operand.tmp 41) 0, type := 0, pos := "ref.go:58", after := #[{ on := 2, ground := Ground.data }], guard := none }
abbrev lrof13_o4 : Oper := { dst := some 43, op := Op.load 9 (Operand.tmp 42), type := 9, pos := "ref.go:58", after := #[{ on := 3, ground := Ground.data }], guard := none }
abbrev lrof13_o5 : Oper := { dst := some 44, op := Op.move (Operand.tmp 4), type := 9, pos := "ref.go:58", after := #[], guard := none }
abbrev lrof13_o6 : Oper := { dst := some 45, op := Op.move (Operand.tmp 5), type := 3, pos := "ref.go:58", after := #[], guard := none }
abbrev lrof13_o7 : Oper := { dst := some 46, op := Op.binOp BinOp.add 3 (Operand.tmp 45) (Operand.const (Value.int IntKind.i64 1)) 3, type := 3, pos := "ref.go:58", after := #[{ on := 6, ground := Ground.data }], guard := none }
abbrev lrof13_o8 : Oper := { dst := some 47, op := Op.slice 9 (Operand.tmp 44) (some (Operand.tmp 46)) none none, type := 9, pos := "ref.go:58", after := #[{ on := 5, ground := Ground.data }, { on := 7, ground := Ground.data }], guard := none }
abbrev lrof13_o9 : Oper := { dst := some 48, op := Op.binOp BinOp.eql 9 (Operand.tmp 43) (Operand.tmp 47) 9, type := 4, pos := "ref.go:58", after := #[{ on := 4, ground := Ground.data }, { on := 8, ground := Ground.data }], guard := none }
def lrof13_ops : Array Oper := #[lrof13_o0, lrof13_o1, lrof13_o2, lrof13_o3, lrof13_o4, lrof13_o5, lrof13_o6, lrof13_o7, lrof13_o8, lrof13_o9]
abbrev lrof13_mem (s : Nat) : Prop := s ∈ [39, 40, 41, 42, 43, 44, 45, 46, 47, 48]
set_option maxRecDepth 100000 in
theorem lrof13_slots : ∀ j, j < 10 → lrof13_mem (slotOf lrof13_ops j) := by
  intro j hj
  match j, hj with
  | 0, _ => exact (by decide : lrof13_mem 39)
  | 1, _ => exact (by decide : lrof13_mem 40)
  | 2, _ => exact (by decide : lrof13_mem 41)
  | 3, _ => exact (by decide : lrof13_mem 42)
  | 4, _ => exact (by decide : lrof13_mem 43)
  | 5, _ => exact (by decide : lrof13_mem 44)
  | 6, _ => exact (by decide : lrof13_mem 45)
  | 7, _ => exact (by decide : lrof13_mem 46)
  | 8, _ => exact (by decide : lrof13_mem 47)
  | 9, _ => exact (by decide : lrof13_mem 48)
  | k + 10, hj => omega
def lrof13_val (g i at_ : Nat) (p X E : List UInt8) (B : Bool) : Nat → Value → World → Prop
  | 0, v, w => v = .slice (some ⟨g, 0, none⟩) 22 22
  | 1, v, w => v = .int .i64 (i : Nat)
  | 2, v, w => v = .pointer (some ⟨g, i * 2, none⟩)
  | 3, v, w => v = .pointer (some ⟨g, i * 2, none⟩)
  | 4, v, w => v = by8 X
  | 5, v, w => v = by8 p
  | 6, v, w => v = .int .i64 (at_ : Nat)
  | 7, v, w => v = .int .i64 ((at_ : Int) + 1)
  | 8, v, w => v = by8 E
  | 9, v, w => v = .bool B
  | _, _, _ => True
theorem lrof13_below (g i at_ : Nat) (p X E : List UInt8) (B : Bool) (w w' : World) (hb : Below w.heap.size w w') : ∀ j v, lrof13_val g i at_ p X E B j v w → lrof13_val g i at_ p X E B j v w' := by
  intro j v h
  match j, h with
  | 0, h => exact h
  | 1, h => exact h
  | 2, h => exact h
  | 3, h => exact h
  | 4, h => exact h
  | 5, h => exact h
  | 6, h => exact h
  | 7, h => exact h
  | 8, h => exact h
  | 9, h => exact h
  | _ + 10, h => exact h
set_option maxRecDepth 100000 in
set_option maxHeartbeats 2000000 in
theorem lrof13_s0 {Fc : Fence} (hF : Wide Fc) {nC : Nat} (g i at_ : Nat) (p X E : List UInt8) (B : Bool) (Q : Exit → Act → World → Prop) (df : List Deferred) (w0 : World)
    (hi : i < 22) (hX : w0.cell? ⟨g, i * 2, none⟩ = some (by8 X)) (hat : at_ < p.length) (hpl : p.length ≤ 1000000) (hE : p.drop (at_ + 1) = E) (hBq : (X == E) = B)
    (x : Act) (w : World) (hB : Below w0.heap.size w0 w) (hdef : x.defers = df) (u4 : x.tmps.getD 4 undef = by8 p) (u5 : x.tmps.getD 5 undef = .int .i64 (at_ : Nat)) (u7 : x.tmps.getD 7 undef = .slice (some ⟨g, 0, none⟩) 22 22) (u8 : x.tmps.getD 8 undef = .int .i64 (i : Nat))
    : wpOpIn Fc nC Try.prog lrof13_ops Q 0 (fun a' w' => ∃ v, a' = x.put (some 39) v ∧ (v = .slice (some ⟨g, 0, none⟩) 22 22) ∧ Below w.heap.size w w') x w := by
  have ho : lrof13_ops[0]? = some lrof13_o0 := rfl
  simp only [Array.getD_eq_getD_getElem?] at u4 u5 u7 u8
  refine wpOpIn_plain ho rfl (oper_inK hF.fn (fun K hK => ?_))
  clear ho
  rw [Oper.semAt_plain Fc _ _ (by intro c h; cases h)]
  simp only [lrof13_o0]
  go_simp
  exact hK _ _ ⟨_, act_putD x hdef _ _, rfl, Below.refl _ _⟩
set_option maxRecDepth 100000 in
set_option maxHeartbeats 2000000 in
theorem lrof13_s1 {Fc : Fence} (hF : Wide Fc) {nC : Nat} (g i at_ : Nat) (p X E : List UInt8) (B : Bool) (Q : Exit → Act → World → Prop) (df : List Deferred) (w0 : World)
    (hi : i < 22) (hX : w0.cell? ⟨g, i * 2, none⟩ = some (by8 X)) (hat : at_ < p.length) (hpl : p.length ≤ 1000000) (hE : p.drop (at_ + 1) = E) (hBq : (X == E) = B)
    (x : Act) (w : World) (hB : Below w0.heap.size w0 w) (hdef : x.defers = df) (u4 : x.tmps.getD 4 undef = by8 p) (u5 : x.tmps.getD 5 undef = .int .i64 (at_ : Nat)) (u7 : x.tmps.getD 7 undef = .slice (some ⟨g, 0, none⟩) 22 22) (u8 : x.tmps.getD 8 undef = .int .i64 (i : Nat))
    : wpOpIn Fc nC Try.prog lrof13_ops Q 1 (fun a' w' => ∃ v, a' = x.put (some 40) v ∧ (v = .int .i64 (i : Nat)) ∧ Below w.heap.size w w') x w := by
  have ho : lrof13_ops[1]? = some lrof13_o1 := rfl
  simp only [Array.getD_eq_getD_getElem?] at u4 u5 u7 u8
  refine wpOpIn_plain ho rfl (oper_inK hF.fn (fun K hK => ?_))
  clear ho
  rw [Oper.semAt_plain Fc _ _ (by intro c h; cases h)]
  simp only [lrof13_o1]
  go_simp
  exact hK _ _ ⟨_, act_putD x hdef _ _, rfl, Below.refl _ _⟩
set_option maxRecDepth 100000 in
set_option maxHeartbeats 2000000 in
theorem lrof13_s2 {Fc : Fence} (hF : Wide Fc) {nC : Nat} (g i at_ : Nat) (p X E : List UInt8) (B : Bool) (Q : Exit → Act → World → Prop) (df : List Deferred) (w0 : World)
    (hi : i < 22) (hX : w0.cell? ⟨g, i * 2, none⟩ = some (by8 X)) (hat : at_ < p.length) (hpl : p.length ≤ 1000000) (hE : p.drop (at_ + 1) = E) (hBq : (X == E) = B)
    (x : Act) (w : World) (hB : Below w0.heap.size w0 w) (hdef : x.defers = df) (u4 : x.tmps.getD 4 undef = by8 p) (u5 : x.tmps.getD 5 undef = .int .i64 (at_ : Nat)) (u7 : x.tmps.getD 7 undef = .slice (some ⟨g, 0, none⟩) 22 22) (u8 : x.tmps.getD 8 undef = .int .i64 (i : Nat))
    (p0 : lrof13_val g i at_ p X E B 0 (x.tmps.getD 39 undef) w)
    (p1 : lrof13_val g i at_ p X E B 1 (x.tmps.getD 40 undef) w)
    : wpOpIn Fc nC Try.prog lrof13_ops Q 2 (fun a' w' => ∃ v, a' = x.put (some 41) v ∧ (v = .pointer (some ⟨g, i * 2, none⟩)) ∧ Below w.heap.size w w') x w := by
  have ho : lrof13_ops[2]? = some lrof13_o2 := rfl
  simp only [Array.getD_eq_getD_getElem?] at u4 u5 u7 u8
  have q0 : x.tmps.getD 39 undef = .slice (some ⟨g, 0, none⟩) 22 22 := p0
  have q1 : x.tmps.getD 40 undef = .int .i64 (i : Nat) := p1
  simp only [Array.getD_eq_getD_getElem?] at q0 q1
  have i0 : (0 : Int) ≤ (i : Int) := by omega
  have i1 : (i : Int) < 22 := by omega
  refine wpOpIn_plain ho rfl (oper_inK hF.fn (fun K hK => ?_))
  clear ho
  rw [Oper.semAt_plain Fc _ _ (by intro c h; cases h)]
  simp only [lrof13_o2]
  go_simp
  exact hK _ _ ⟨_, act_putD x hdef _ _, rfl, Below.refl _ _⟩
set_option maxRecDepth 100000 in
set_option maxHeartbeats 2000000 in
theorem lrof13_s3 {Fc : Fence} (hF : Wide Fc) {nC : Nat} (g i at_ : Nat) (p X E : List UInt8) (B : Bool) (Q : Exit → Act → World → Prop) (df : List Deferred) (w0 : World)
    (hi : i < 22) (hX : w0.cell? ⟨g, i * 2, none⟩ = some (by8 X)) (hat : at_ < p.length) (hpl : p.length ≤ 1000000) (hE : p.drop (at_ + 1) = E) (hBq : (X == E) = B)
    (x : Act) (w : World) (hB : Below w0.heap.size w0 w) (hdef : x.defers = df) (u4 : x.tmps.getD 4 undef = by8 p) (u5 : x.tmps.getD 5 undef = .int .i64 (at_ : Nat)) (u7 : x.tmps.getD 7 undef = .slice (some ⟨g, 0, none⟩) 22 22) (u8 : x.tmps.getD 8 undef = .int .i64 (i : Nat))
    (p2 : lrof13_val g i at_ p X E B 2 (x.tmps.getD 41 undef) w)
    : wpOpIn Fc nC Try.prog lrof13_ops Q 3 (fun a' w' => ∃ v, a' = x.put (some 42) v ∧ (v = .pointer (some ⟨g, i * 2, none⟩)) ∧ Below w.heap.size w w') x w := by
  have ho : lrof13_ops[3]? = some lrof13_o3 := rfl
  simp only [Array.getD_eq_getD_getElem?] at u4 u5 u7 u8
  have q2 : x.tmps.getD 41 undef = .pointer (some ⟨g, i * 2, none⟩) := p2
  simp only [Array.getD_eq_getD_getElem?] at q2
  refine wpOpIn_plain ho rfl (oper_inK hF.fn (fun K hK => ?_))
  clear ho
  rw [Oper.semAt_plain Fc _ _ (by intro c h; cases h)]
  simp only [lrof13_o3]
  go_simp
  exact hK _ _ ⟨_, act_putD x hdef _ _, rfl, Below.refl _ _⟩
set_option maxRecDepth 100000 in
set_option maxHeartbeats 2000000 in
theorem lrof13_s4 {Fc : Fence} (hF : Wide Fc) {nC : Nat} (g i at_ : Nat) (p X E : List UInt8) (B : Bool) (Q : Exit → Act → World → Prop) (df : List Deferred) (w0 : World)
    (hi : i < 22) (hX : w0.cell? ⟨g, i * 2, none⟩ = some (by8 X)) (hat : at_ < p.length) (hpl : p.length ≤ 1000000) (hE : p.drop (at_ + 1) = E) (hBq : (X == E) = B)
    (x : Act) (w : World) (hB : Below w0.heap.size w0 w) (hdef : x.defers = df) (u4 : x.tmps.getD 4 undef = by8 p) (u5 : x.tmps.getD 5 undef = .int .i64 (at_ : Nat)) (u7 : x.tmps.getD 7 undef = .slice (some ⟨g, 0, none⟩) 22 22) (u8 : x.tmps.getD 8 undef = .int .i64 (i : Nat))
    (p3 : lrof13_val g i at_ p X E B 3 (x.tmps.getD 42 undef) w)
    : wpOpIn Fc nC Try.prog lrof13_ops Q 4 (fun a' w' => ∃ v, a' = x.put (some 43) v ∧ (v = by8 X) ∧ Below w.heap.size w w') x w := by
  have ho : lrof13_ops[4]? = some lrof13_o4 := rfl
  simp only [Array.getD_eq_getD_getElem?] at u4 u5 u7 u8
  have q3 : x.tmps.getD 42 undef = .pointer (some ⟨g, i * 2, none⟩) := p3
  simp only [Array.getD_eq_getD_getElem?] at q3
  have c0 := cell_thru hX hB
  refine wpOpIn_plain ho rfl (oper_inK hF.fn (fun K hK => ?_))
  clear ho
  rw [Oper.semAt_plain Fc _ _ (by intro c h; cases h)]
  simp only [lrof13_o4]
  go_simp
  exact hK _ _ ⟨_, act_putD x hdef _ _, rfl, Below.refl _ _⟩
set_option maxRecDepth 100000 in
set_option maxHeartbeats 2000000 in
theorem lrof13_s5 {Fc : Fence} (hF : Wide Fc) {nC : Nat} (g i at_ : Nat) (p X E : List UInt8) (B : Bool) (Q : Exit → Act → World → Prop) (df : List Deferred) (w0 : World)
    (hi : i < 22) (hX : w0.cell? ⟨g, i * 2, none⟩ = some (by8 X)) (hat : at_ < p.length) (hpl : p.length ≤ 1000000) (hE : p.drop (at_ + 1) = E) (hBq : (X == E) = B)
    (x : Act) (w : World) (hB : Below w0.heap.size w0 w) (hdef : x.defers = df) (u4 : x.tmps.getD 4 undef = by8 p) (u5 : x.tmps.getD 5 undef = .int .i64 (at_ : Nat)) (u7 : x.tmps.getD 7 undef = .slice (some ⟨g, 0, none⟩) 22 22) (u8 : x.tmps.getD 8 undef = .int .i64 (i : Nat))
    : wpOpIn Fc nC Try.prog lrof13_ops Q 5 (fun a' w' => ∃ v, a' = x.put (some 44) v ∧ (v = by8 p) ∧ Below w.heap.size w w') x w := by
  have ho : lrof13_ops[5]? = some lrof13_o5 := rfl
  simp only [Array.getD_eq_getD_getElem?] at u4 u5 u7 u8
  refine wpOpIn_plain ho rfl (oper_inK hF.fn (fun K hK => ?_))
  clear ho
  rw [Oper.semAt_plain Fc _ _ (by intro c h; cases h)]
  simp only [lrof13_o5]
  go_simp
  exact hK _ _ ⟨_, act_putD x hdef _ _, rfl, Below.refl _ _⟩
set_option maxRecDepth 100000 in
set_option maxHeartbeats 2000000 in
theorem lrof13_s6 {Fc : Fence} (hF : Wide Fc) {nC : Nat} (g i at_ : Nat) (p X E : List UInt8) (B : Bool) (Q : Exit → Act → World → Prop) (df : List Deferred) (w0 : World)
    (hi : i < 22) (hX : w0.cell? ⟨g, i * 2, none⟩ = some (by8 X)) (hat : at_ < p.length) (hpl : p.length ≤ 1000000) (hE : p.drop (at_ + 1) = E) (hBq : (X == E) = B)
    (x : Act) (w : World) (hB : Below w0.heap.size w0 w) (hdef : x.defers = df) (u4 : x.tmps.getD 4 undef = by8 p) (u5 : x.tmps.getD 5 undef = .int .i64 (at_ : Nat)) (u7 : x.tmps.getD 7 undef = .slice (some ⟨g, 0, none⟩) 22 22) (u8 : x.tmps.getD 8 undef = .int .i64 (i : Nat))
    : wpOpIn Fc nC Try.prog lrof13_ops Q 6 (fun a' w' => ∃ v, a' = x.put (some 45) v ∧ (v = .int .i64 (at_ : Nat)) ∧ Below w.heap.size w w') x w := by
  have ho : lrof13_ops[6]? = some lrof13_o6 := rfl
  simp only [Array.getD_eq_getD_getElem?] at u4 u5 u7 u8
  refine wpOpIn_plain ho rfl (oper_inK hF.fn (fun K hK => ?_))
  clear ho
  rw [Oper.semAt_plain Fc _ _ (by intro c h; cases h)]
  simp only [lrof13_o6]
  go_simp
  exact hK _ _ ⟨_, act_putD x hdef _ _, rfl, Below.refl _ _⟩
set_option maxRecDepth 100000 in
set_option maxHeartbeats 2000000 in
theorem lrof13_s7 {Fc : Fence} (hF : Wide Fc) {nC : Nat} (g i at_ : Nat) (p X E : List UInt8) (B : Bool) (Q : Exit → Act → World → Prop) (df : List Deferred) (w0 : World)
    (hi : i < 22) (hX : w0.cell? ⟨g, i * 2, none⟩ = some (by8 X)) (hat : at_ < p.length) (hpl : p.length ≤ 1000000) (hE : p.drop (at_ + 1) = E) (hBq : (X == E) = B)
    (x : Act) (w : World) (hB : Below w0.heap.size w0 w) (hdef : x.defers = df) (u4 : x.tmps.getD 4 undef = by8 p) (u5 : x.tmps.getD 5 undef = .int .i64 (at_ : Nat)) (u7 : x.tmps.getD 7 undef = .slice (some ⟨g, 0, none⟩) 22 22) (u8 : x.tmps.getD 8 undef = .int .i64 (i : Nat))
    (p6 : lrof13_val g i at_ p X E B 6 (x.tmps.getD 45 undef) w)
    : wpOpIn Fc nC Try.prog lrof13_ops Q 7 (fun a' w' => ∃ v, a' = x.put (some 46) v ∧ (v = .int .i64 ((at_ : Int) + 1)) ∧ Below w.heap.size w w') x w := by
  have ho : lrof13_ops[7]? = some lrof13_o7 := rfl
  simp only [Array.getD_eq_getD_getElem?] at u4 u5 u7 u8
  have q6 : x.tmps.getD 45 undef = .int .i64 (at_ : Nat) := p6
  simp only [Array.getD_eq_getD_getElem?] at q6
  have c8 := IntWalk.i64_in ((at_ : Int) + 1) (by omega)
  refine wpOpIn_plain ho rfl (oper_inK hF.fn (fun K hK => ?_))
  clear ho
  rw [Oper.semAt_plain Fc _ _ (by intro c h; cases h)]
  simp only [lrof13_o7]
  go_simp
  exact hK _ _ ⟨_, act_putD x hdef _ _, rfl, Below.refl _ _⟩
set_option maxRecDepth 100000 in
set_option maxHeartbeats 2000000 in
theorem lrof13_s8 {Fc : Fence} (hF : Wide Fc) {nC : Nat} (g i at_ : Nat) (p X E : List UInt8) (B : Bool) (Q : Exit → Act → World → Prop) (df : List Deferred) (w0 : World)
    (hi : i < 22) (hX : w0.cell? ⟨g, i * 2, none⟩ = some (by8 X)) (hat : at_ < p.length) (hpl : p.length ≤ 1000000) (hE : p.drop (at_ + 1) = E) (hBq : (X == E) = B)
    (x : Act) (w : World) (hB : Below w0.heap.size w0 w) (hdef : x.defers = df) (u4 : x.tmps.getD 4 undef = by8 p) (u5 : x.tmps.getD 5 undef = .int .i64 (at_ : Nat)) (u7 : x.tmps.getD 7 undef = .slice (some ⟨g, 0, none⟩) 22 22) (u8 : x.tmps.getD 8 undef = .int .i64 (i : Nat))
    (p5 : lrof13_val g i at_ p X E B 5 (x.tmps.getD 44 undef) w)
    (p7 : lrof13_val g i at_ p X E B 7 (x.tmps.getD 46 undef) w)
    : wpOpIn Fc nC Try.prog lrof13_ops Q 8 (fun a' w' => ∃ v, a' = x.put (some 47) v ∧ (v = by8 E) ∧ Below w.heap.size w w') x w := by
  have ho : lrof13_ops[8]? = some lrof13_o8 := rfl
  simp only [Array.getD_eq_getD_getElem?] at u4 u5 u7 u8
  have q5 : x.tmps.getD 44 undef = by8 p := p5
  have q7 : x.tmps.getD 46 undef = .int .i64 ((at_ : Int) + 1) := p7
  simp only [Array.getD_eq_getD_getElem?] at q5 q7
  have hsz : (⟨p.toArray⟩ : ByteArray).size = p.length := by simp [ByteArray.size]
  have e2 : (⟨p.toArray⟩ : ByteArray).extract (at_ + 1) p.length = ⟨E.toArray⟩ := by rw [Lib.extract_eq, ← hE, List.take_of_length_le (by rw [List.length_drop]; exact Nat.le_refl _)]
  have c5 : at_ + 1 ≤ p.length := by omega
  have c3 : (0 : Int) ≤ (at_ : Int) + 1 := by omega
  have c4 : (at_ : Int) + 1 ≤ (p.length : Int) := by omega
  unfold by8 at q5 ⊢
  refine wpOpIn_plain ho rfl (oper_inK hF.fn (fun K hK => ?_))
  clear ho
  rw [Oper.semAt_plain Fc _ _ (by intro c h; cases h)]
  simp only [lrof13_o8]
  go_simp
  exact hK _ _ ⟨_, act_putD x hdef _ _, rfl, Below.refl _ _⟩
set_option maxRecDepth 100000 in
set_option maxHeartbeats 2000000 in
theorem lrof13_s9 {Fc : Fence} (hF : Wide Fc) {nC : Nat} (g i at_ : Nat) (p X E : List UInt8) (B : Bool) (Q : Exit → Act → World → Prop) (df : List Deferred) (w0 : World)
    (hi : i < 22) (hX : w0.cell? ⟨g, i * 2, none⟩ = some (by8 X)) (hat : at_ < p.length) (hpl : p.length ≤ 1000000) (hE : p.drop (at_ + 1) = E) (hBq : (X == E) = B)
    (x : Act) (w : World) (hB : Below w0.heap.size w0 w) (hdef : x.defers = df) (u4 : x.tmps.getD 4 undef = by8 p) (u5 : x.tmps.getD 5 undef = .int .i64 (at_ : Nat)) (u7 : x.tmps.getD 7 undef = .slice (some ⟨g, 0, none⟩) 22 22) (u8 : x.tmps.getD 8 undef = .int .i64 (i : Nat))
    (p4 : lrof13_val g i at_ p X E B 4 (x.tmps.getD 43 undef) w)
    (p8 : lrof13_val g i at_ p X E B 8 (x.tmps.getD 47 undef) w)
    : wpOpIn Fc nC Try.prog lrof13_ops Q 9 (fun a' w' => ∃ v, a' = x.put (some 48) v ∧ (v = .bool B) ∧ Below w.heap.size w w') x w := by
  have ho : lrof13_ops[9]? = some lrof13_o9 := rfl
  simp only [Array.getD_eq_getD_getElem?] at u4 u5 u7 u8
  have q4 : x.tmps.getD 43 undef = by8 X := p4
  have q8 : x.tmps.getD 47 undef = by8 E := p8
  simp only [Array.getD_eq_getD_getElem?] at q4 q8
  have hbq : ((⟨X.toArray⟩ : ByteArray) == ⟨E.toArray⟩) = B := by rw [by8_beq, hBq]
  unfold by8 at q4 q8
  refine wpOpIn_plain ho rfl (oper_inK hF.fn (fun K hK => ?_))
  clear ho
  rw [Oper.semAt_plain Fc _ _ (by intro c h; cases h)]
  simp only [lrof13_o9]
  go_simp
  exact hK _ _ ⟨_, act_putD x hdef _ _, rfl, Below.refl _ _⟩

set_option maxRecDepth 100000 in
set_option maxHeartbeats 4000000 in
theorem lrof13 {Fc : Fence} (hF : Wide Fc) {nC : Nat} (g i at_ : Nat) (p X E : List UInt8) (B : Bool) (Q : Exit → Act → World → Prop) (t0 : Array Value) (df : List Deferred) (w0 : World) (ht : t0.size = 54)
    (hs4 : t0.getD 4 undef = by8 p) (hs5 : t0.getD 5 undef = .int .i64 (at_ : Nat)) (hs7 : t0.getD 7 undef = .slice (some ⟨g, 0, none⟩) 22 22) (hs8 : t0.getD 8 undef = .int .i64 (i : Nat))
    (hi : i < 22) (hX : w0.cell? ⟨g, i * 2, none⟩ = some (by8 X)) (hat : at_ < p.length) (hpl : p.length ≤ 1000000) (hE : p.drop (at_ + 1) = E) (hBq : (X == E) = B)
    (hQ : ∀ (vs : Nat → Value) (w : World), Below w0.heap.size w0 w → (vs 48 = .bool B) → Q .normal { tmps := [39, 40, 41, 42, 43, 44, 45, 46, 47, 48].foldl (fun y d => y.setIfInBounds d (vs d)) t0, defers := df } w) :
    (Code.region 13 lrof13_ops true).wpIn Fc nC Try.prog Q { tmps := t0, defers := df } w0 := by
  refine wpIn_region_tail 10 (by decide) (by kernel_rfl) (fun a b => Below a.heap.size a b) (lrof13_val g i at_ p X E B) t0 df w0 (by rw [ht]; kernel_rfl) (by kernel_rfl) (by kernel_rfl) (by kernel_rfl) ((Below.refl _ _).drew) (fun _ _ _ h k => h.trans (k.mono h.size)) (lrof13_below g i at_ p X E B) ?_ ?_
  · intro j o ho hj x w hB hdef hsz hs hdeps
    have hs' : ∀ s, ¬ lrof13_mem s → x.tmps.getD s undef = t0.getD s undef := fun s hn => hs s (fun j hj e => hn (by rw [e]; exact lrof13_slots j hj))
    have u4 := (hs' 4 (by decide)).trans hs4
    have u5 := (hs' 5 (by decide)).trans hs5
    have u7 := (hs' 7 (by decide)).trans hs7
    have u8 := (hs' 8 (by decide)).trans hs8
    match j, ho, hj with
    | 0, ho, _ =>
      have e : o = lrof13_o0 := (Option.some.inj ho).symm
      subst e
      exact lrof13_s0 hF g i at_ p X E B Q df w0 hi hX hat hpl hE hBq x w hB hdef u4 u5 u7 u8 
    | 1, ho, _ =>
      have e : o = lrof13_o1 := (Option.some.inj ho).symm
      subst e
      exact lrof13_s1 hF g i at_ p X E B Q df w0 hi hX hat hpl hE hBq x w hB hdef u4 u5 u7 u8 
    | 2, ho, _ =>
      have e : o = lrof13_o2 := (Option.some.inj ho).symm
      subst e
      exact lrof13_s2 hF g i at_ p X E B Q df w0 hi hX hat hpl hE hBq x w hB hdef u4 u5 u7 u8 (hdeps { on := 0, ground := Ground.data } (by simp) rfl) (hdeps { on := 1, ground := Ground.data } (by simp) rfl)
    | 3, ho, _ =>
      have e : o = lrof13_o3 := (Option.some.inj ho).symm
      subst e
      exact lrof13_s3 hF g i at_ p X E B Q df w0 hi hX hat hpl hE hBq x w hB hdef u4 u5 u7 u8 (hdeps { on := 2, ground := Ground.data } (by simp) rfl)
    | 4, ho, _ =>
      have e : o = lrof13_o4 := (Option.some.inj ho).symm
      subst e
      exact lrof13_s4 hF g i at_ p X E B Q df w0 hi hX hat hpl hE hBq x w hB hdef u4 u5 u7 u8 (hdeps { on := 3, ground := Ground.data } (by simp) rfl)
    | 5, ho, _ =>
      have e : o = lrof13_o5 := (Option.some.inj ho).symm
      subst e
      exact lrof13_s5 hF g i at_ p X E B Q df w0 hi hX hat hpl hE hBq x w hB hdef u4 u5 u7 u8 
    | 6, ho, _ =>
      have e : o = lrof13_o6 := (Option.some.inj ho).symm
      subst e
      exact lrof13_s6 hF g i at_ p X E B Q df w0 hi hX hat hpl hE hBq x w hB hdef u4 u5 u7 u8 
    | 7, ho, _ =>
      have e : o = lrof13_o7 := (Option.some.inj ho).symm
      subst e
      exact lrof13_s7 hF g i at_ p X E B Q df w0 hi hX hat hpl hE hBq x w hB hdef u4 u5 u7 u8 (hdeps { on := 6, ground := Ground.data } (by simp) rfl)
    | 8, ho, _ =>
      have e : o = lrof13_o8 := (Option.some.inj ho).symm
      subst e
      exact lrof13_s8 hF g i at_ p X E B Q df w0 hi hX hat hpl hE hBq x w hB hdef u4 u5 u7 u8 (hdeps { on := 5, ground := Ground.data } (by simp) rfl) (hdeps { on := 7, ground := Ground.data } (by simp) rfl)
    | 9, ho, _ =>
      have e : o = lrof13_o9 := (Option.some.inj ho).symm
      subst e
      exact lrof13_s9 hF g i at_ p X E B Q df w0 hi hX hat hpl hE hBq x w hB hdef u4 u5 u7 u8 (hdeps { on := 4, ground := Ground.data } (by simp) rfl) (hdeps { on := 8, ground := Ground.data } (by simp) rfl)
    | k + 10, _, hj => omega
  · intro x w hB hdef hsz hs hv
    have hx := frame_sets x.tmps t0 hsz [39, 40, 41, 42, 43, 44, 45, 46, 47, 48] (fun s hn => hs s (fun j hj e => hn (by rw [e]; exact lrof13_slots j hj)))
    have hq := hQ (fun d => x.tmps.getD d undef) w hB (hv 9 (by decide))
    obtain ⟨T, Df⟩ := x
    dsimp only at hx hdef hq
    subst hdef
    rw [← hx] at hq
    exact hq
end Go.Proofs.Yteignimfggkgnaa
