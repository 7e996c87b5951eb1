/-
  LangKnown's drawn region (written by tools/gen-lknown.py).
-/
import Derived.Test.YteignimfggkgnaaLAllW
import Derived.Test.YteignimfggkgnaaRegT
namespace Go.Proofs.Yteignimfggkgnaa
open Go.RowKit Go.Shelf
set_option linter.unusedVariables false
set_option linter.unusedSimpArgs false

abbrev lkn9_o0 : Oper := { dst := some 20, op := Op.move (Operand.tmp 3), type := 26, pos := "outright.go:39", after := #[], guard := none }
abbrev lkn9_o1 : Oper := { dst := some 21, op := Op.move (Operand.tmp 5), type := 3, pos := "outright.go:39", after := #[], guard := none }
abbrev lkn9_o2 : Oper := { dst := some 22, op := Op.binOp BinOp.sub 3 (Operand.tmp 21) (Operand.const (Value.int IntKind.i64 1)) 3, type := 3, pos := "outright.go:39", after := #[{ on := 1, ground := Ground.data }], guard := none }
abbrev lkn9_o3 : Oper := { dst := some 23, op := Op.indexAddr 26 (Operand.tmp 20) (Operand.tmp 22), type := 0, pos := "outright.go:39", after := #[{ on := 0, ground := Ground.data }, { on := 2, ground := Ground.data }], guard := none }
abbrev lkn9_o4 : Oper := { dst := some 24, op := Op.load 9 (Operand.tmp 23), type := 9, pos := "outright.go:39", after := #[{ on := 3, ground := Ground.data }], guard := none }
abbrev lkn9_o5 : Oper := { dst := some 25, op := Op.move (Operand.tmp 3), type := 26, pos := "outright.go:39", after := #[], guard := none }
abbrev lkn9_o6 : Oper := { dst := some 26, op := Op.move (Operand.tmp 5), type := 3, pos := "outright.go:39", after := #[], guard := none }
abbrev lkn9_o7 : Oper := { dst := some 27, op := Op.indexAddr 26 (Operand.tmp 25) (Operand.tmp 26), type := 0, pos := "outright.go:39", after := #[{ on := 5, ground := Ground.data }, { on := 6, ground := Ground.data }], guard := none }
abbrev lkn9_o8 : Oper := { dst := some 28, op := Op.load 9 (Operand.tmp 27), type := 9, pos := "outright.go:39", after := #[{ on := 7, ground := Ground.data }], guard := none }
abbrev lkn9_o9 : Oper := { dst := some 29, op := Op.binOp BinOp.geq 9 (Operand.tmp 24) (Operand.tmp 28) 9, type := 4, pos := "outright.go:39", after := #[{ on := 4, ground := Ground.data }, { on := 8, ground := Ground.data }], guard := none }
def lkn9_ops : Array Oper := #[lkn9_o0, lkn9_o1, lkn9_o2, lkn9_o3, lkn9_o4, lkn9_o5, lkn9_o6, lkn9_o7, lkn9_o8, lkn9_o9]
abbrev lkn9_mem (s : Nat) : Prop := s ∈ [20, 21, 22, 23, 24, 25, 26, 27, 28, 29]
set_option maxRecDepth 100000 in
theorem lkn9_slots : ∀ j, j < 10 → lkn9_mem (slotOf lkn9_ops j) := by
  intro j hj
  match j, hj with
  | 0, _ => exact (by decide : lkn9_mem 20)
  | 1, _ => exact (by decide : lkn9_mem 21)
  | 2, _ => exact (by decide : lkn9_mem 22)
  | 3, _ => exact (by decide : lkn9_mem 23)
  | 4, _ => exact (by decide : lkn9_mem 24)
  | 5, _ => exact (by decide : lkn9_mem 25)
  | 6, _ => exact (by decide : lkn9_mem 26)
  | 7, _ => exact (by decide : lkn9_mem 27)
  | 8, _ => exact (by decide : lkn9_mem 28)
  | 9, _ => exact (by decide : lkn9_mem 29)
  | k + 10, hj => omega
def lkn9_val (g C n m : Nat) (X Y : List UInt8) : Nat → Value → World → Prop
  | 0, v, w => v = .slice (some ⟨g, 0, none⟩) n C
  | 1, v, w => v = .int .i64 ((m : Int) + 1)
  | 2, v, w => v = .int .i64 (m : Nat)
  | 3, v, w => v = .pointer (some ⟨g, m, none⟩)
  | 4, v, w => v = by8 X
  | 5, v, w => v = .slice (some ⟨g, 0, none⟩) n C
  | 6, v, w => v = .int .i64 ((m : Int) + 1)
  | 7, v, w => v = .pointer (some ⟨g, m + 1, none⟩)
  | 8, v, w => v = by8 Y
  | 9, v, w => v = .bool false
  | _, _, _ => True
theorem lkn9_below (g C n m : Nat) (X Y : List UInt8) (w w' : World) (hb : Below w.heap.size w w') : ∀ j v, lkn9_val g C n m X Y j v w → lkn9_val g C n m X Y j v w' := by
  intro j v h
  match j, h with
  | 0, h => exact h
  | 1, h => exact h
  | 2, h => exact h
  | 3, h => exact h
  | 4, h => exact h
  | 5, h => exact h
  | 6, h => exact h
  | 7, h => exact h
  | 8, h => exact h
  | 9, h => exact h
  | _ + 10, h => exact h
set_option maxRecDepth 100000 in
set_option maxHeartbeats 2000000 in
theorem lkn9_s0 {Fc : Fence} (hF : Wide Fc) {nC : Nat} (g C n m : Nat) (X Y : List UInt8) (Q : Exit → Act → World → Prop) (df : List Deferred) (w0 : World)
    (hm : m + 1 < n) (hn : n ≤ 100) (hX : w0.cell? ⟨g, m, none⟩ = some (by8 X)) (hY : w0.cell? ⟨g, m + 1, none⟩ = some (by8 Y)) (hXY : Op.bytesLess X Y = true)
    (x : Act) (w : World) (hB : Below w0.heap.size w0 w) (hdef : x.defers = df) (u3 : x.tmps.getD 3 undef = .slice (some ⟨g, 0, none⟩) n C) (u5 : x.tmps.getD 5 undef = .int .i64 ((m : Int) + 1))
    : wpOpIn Fc nC Try.prog lkn9_ops Q 0 (fun a' w' => ∃ v, a' = x.put (some 20) v ∧ (v = .slice (some ⟨g, 0, none⟩) n C) ∧ Below w.heap.size w w') x w := by
  have ho : lkn9_ops[0]? = some lkn9_o0 := rfl
  simp only [Array.getD_eq_getD_getElem?] at u3 u5
  refine wpOpIn_plain ho rfl (oper_inK hF.fn (fun K hK => ?_))
  clear ho
  rw [Oper.semAt_plain Fc _ _ (by intro c h; cases h)]
  simp only [lkn9_o0]
  go_simp
  exact hK _ _ ⟨_, act_putD x hdef _ _, rfl, Below.refl _ _⟩
set_option maxRecDepth 100000 in
set_option maxHeartbeats 2000000 in
theorem lkn9_s1 {Fc : Fence} (hF : Wide Fc) {nC : Nat} (g C n m : Nat) (X Y : List UInt8) (Q : Exit → Act → World → Prop) (df : List Deferred) (w0 : World)
    (hm : m + 1 < n) (hn : n ≤ 100) (hX : w0.cell? ⟨g, m, none⟩ = some (by8 X)) (hY : w0.cell? ⟨g, m + 1, none⟩ = some (by8 Y)) (hXY : Op.bytesLess X Y = true)
    (x : Act) (w : World) (hB : Below w0.heap.size w0 w) (hdef : x.defers = df) (u3 : x.tmps.getD 3 undef = .slice (some ⟨g, 0, none⟩) n C) (u5 : x.tmps.getD 5 undef = .int .i64 ((m : Int) + 1))
    : wpOpIn Fc nC Try.prog lkn9_ops Q 1 (fun a' w' => ∃ v, a' = x.put (some 21) v ∧ (v = .int .i64 ((m : Int) + 1)) ∧ Below w.heap.size w w') x w := by
  have ho : lkn9_ops[1]? = some lkn9_o1 := rfl
  simp only [Array.getD_eq_getD_getElem?] at u3 u5
  refine wpOpIn_plain ho rfl (oper_inK hF.fn (fun K hK => ?_))
  clear ho
  rw [Oper.semAt_plain Fc _ _ (by intro c h; cases h)]
  simp only [lkn9_o1]
  go_simp
  exact hK _ _ ⟨_, act_putD x hdef _ _, rfl, Below.refl _ _⟩
set_option maxRecDepth 100000 in
set_option maxHeartbeats 2000000 in
theorem lkn9_s2 {Fc : Fence} (hF : Wide Fc) {nC : Nat} (g C n m : Nat) (X Y : List UInt8) (Q : Exit → Act → World → Prop) (df : List Deferred) (w0 : World)
    (hm : m + 1 < n) (hn : n ≤ 100) (hX : w0.cell? ⟨g, m, none⟩ = some (by8 X)) (hY : w0.cell? ⟨g, m + 1, none⟩ = some (by8 Y)) (hXY : Op.bytesLess X Y = true)
    (x : Act) (w : World) (hB : Below w0.heap.size w0 w) (hdef : x.defers = df) (u3 : x.tmps.getD 3 undef = .slice (some ⟨g, 0, none⟩) n C) (u5 : x.tmps.getD 5 undef = .int .i64 ((m : Int) + 1))
    (p1 : lkn9_val g C n m X Y 1 (x.tmps.getD 21 undef) w)
    : wpOpIn Fc nC Try.prog lkn9_ops Q 2 (fun a' w' => ∃ v, a' = x.put (some 22) v ∧ (v = .int .i64 (m : Nat)) ∧ Below w.heap.size w w') x w := by
  have ho : lkn9_ops[2]? = some lkn9_o2 := rfl
  simp only [Array.getD_eq_getD_getElem?] at u3 u5
  have q1 : x.tmps.getD 21 undef = .int .i64 ((m : Int) + 1) := p1
  simp only [Array.getD_eq_getD_getElem?] at q1
  have e1 : (m : Int) + 1 - 1 = (m : Int) := by omega
  have e2 := IntWalk.i64_in (m : Int) (by omega)
  refine wpOpIn_plain ho rfl (oper_inK hF.fn (fun K hK => ?_))
  clear ho
  rw [Oper.semAt_plain Fc _ _ (by intro c h; cases h)]
  simp only [lkn9_o2]
  go_simp
  exact hK _ _ ⟨_, act_putD x hdef _ _, rfl, Below.refl _ _⟩
set_option maxRecDepth 100000 in
set_option maxHeartbeats 2000000 in
theorem lkn9_s3 {Fc : Fence} (hF : Wide Fc) {nC : Nat} (g C n m : Nat) (X Y : List UInt8) (Q : Exit → Act → World → Prop) (df : List Deferred) (w0 : World)
    (hm : m + 1 < n) (hn : n ≤ 100) (hX : w0.cell? ⟨g, m, none⟩ = some (by8 X)) (hY : w0.cell? ⟨g, m + 1, none⟩ = some (by8 Y)) (hXY : Op.bytesLess X Y = true)
    (x : Act) (w : World) (hB : Below w0.heap.size w0 w) (hdef : x.defers = df) (u3 : x.tmps.getD 3 undef = .slice (some ⟨g, 0, none⟩) n C) (u5 : x.tmps.getD 5 undef = .int .i64 ((m : Int) + 1))
    (p0 : lkn9_val g C n m X Y 0 (x.tmps.getD 20 undef) w)
    (p2 : lkn9_val g C n m X Y 2 (x.tmps.getD 22 undef) w)
    : wpOpIn Fc nC Try.prog lkn9_ops Q 3 (fun a' w' => ∃ v, a' = x.put (some 23) v ∧ (v = .pointer (some ⟨g, m, none⟩)) ∧ Below w.heap.size w w') x w := by
  have ho : lkn9_ops[3]? = some lkn9_o3 := rfl
  simp only [Array.getD_eq_getD_getElem?] at u3 u5
  have q0 : x.tmps.getD 20 undef = .slice (some ⟨g, 0, none⟩) n C := p0
  have q2 : x.tmps.getD 22 undef = .int .i64 (m : Nat) := p2
  simp only [Array.getD_eq_getD_getElem?] at q0 q2
  have i0 : (0 : Int) ≤ (m : Int) := by omega
  have i1 : (m : Int) < (n : Int) := by omega
  refine wpOpIn_plain ho rfl (oper_inK hF.fn (fun K hK => ?_))
  clear ho
  rw [Oper.semAt_plain Fc _ _ (by intro c h; cases h)]
  simp only [lkn9_o3]
  go_simp
  exact hK _ _ ⟨_, act_putD x hdef _ _, rfl, Below.refl _ _⟩
set_option maxRecDepth 100000 in
set_option maxHeartbeats 2000000 in
theorem lkn9_s4 {Fc : Fence} (hF : Wide Fc) {nC : Nat} (g C n m : Nat) (X Y : List UInt8) (Q : Exit → Act → World → Prop) (df : List Deferred) (w0 : World)
    (hm : m + 1 < n) (hn : n ≤ 100) (hX : w0.cell? ⟨g, m, none⟩ = some (by8 X)) (hY : w0.cell? ⟨g, m + 1, none⟩ = some (by8 Y)) (hXY : Op.bytesLess X Y = true)
    (x : Act) (w : World) (hB : Below w0.heap.size w0 w) (hdef : x.defers = df) (u3 : x.tmps.getD 3 undef = .slice (some ⟨g, 0, none⟩) n C) (u5 : x.tmps.getD 5 undef = .int .i64 ((m : Int) + 1))
    (p3 : lkn9_val g C n m X Y 3 (x.tmps.getD 23 undef) w)
    : wpOpIn Fc nC Try.prog lkn9_ops Q 4 (fun a' w' => ∃ v, a' = x.put (some 24) v ∧ (v = by8 X) ∧ Below w.heap.size w w') x w := by
  have ho : lkn9_ops[4]? = some lkn9_o4 := rfl
  simp only [Array.getD_eq_getD_getElem?] at u3 u5
  have q3 : x.tmps.getD 23 undef = .pointer (some ⟨g, m, none⟩) := p3
  simp only [Array.getD_eq_getD_getElem?] at q3
  have c0 := cell_thru hX hB
  refine wpOpIn_plain ho rfl (oper_inK hF.fn (fun K hK => ?_))
  clear ho
  rw [Oper.semAt_plain Fc _ _ (by intro c h; cases h)]
  simp only [lkn9_o4]
  go_simp
  exact hK _ _ ⟨_, act_putD x hdef _ _, rfl, Below.refl _ _⟩
set_option maxRecDepth 100000 in
set_option maxHeartbeats 2000000 in
theorem lkn9_s5 {Fc : Fence} (hF : Wide Fc) {nC : Nat} (g C n m : Nat) (X Y : List UInt8) (Q : Exit → Act → World → Prop) (df : List Deferred) (w0 : World)
    (hm : m + 1 < n) (hn : n ≤ 100) (hX : w0.cell? ⟨g, m, none⟩ = some (by8 X)) (hY : w0.cell? ⟨g, m + 1, none⟩ = some (by8 Y)) (hXY : Op.bytesLess X Y = true)
    (x : Act) (w : World) (hB : Below w0.heap.size w0 w) (hdef : x.defers = df) (u3 : x.tmps.getD 3 undef = .slice (some ⟨g, 0, none⟩) n C) (u5 : x.tmps.getD 5 undef = .int .i64 ((m : Int) + 1))
    : wpOpIn Fc nC Try.prog lkn9_ops Q 5 (fun a' w' => ∃ v, a' = x.put (some 25) v ∧ (v = .slice (some ⟨g, 0, none⟩) n C) ∧ Below w.heap.size w w') x w := by
  have ho : lkn9_ops[5]? = some lkn9_o5 := rfl
  simp only [Array.getD_eq_getD_getElem?] at u3 u5
  refine wpOpIn_plain ho rfl (oper_inK hF.fn (fun K hK => ?_))
  clear ho
  rw [Oper.semAt_plain Fc _ _ (by intro c h; cases h)]
  simp only [lkn9_o5]
  go_simp
  exact hK _ _ ⟨_, act_putD x hdef _ _, rfl, Below.refl _ _⟩
set_option maxRecDepth 100000 in
set_option maxHeartbeats 2000000 in
theorem lkn9_s6 {Fc : Fence} (hF : Wide Fc) {nC : Nat} (g C n m : Nat) (X Y : List UInt8) (Q : Exit → Act → World → Prop) (df : List Deferred) (w0 : World)
    (hm : m + 1 < n) (hn : n ≤ 100) (hX : w0.cell? ⟨g, m, none⟩ = some (by8 X)) (hY : w0.cell? ⟨g, m + 1, none⟩ = some (by8 Y)) (hXY : Op.bytesLess X Y = true)
    (x : Act) (w : World) (hB : Below w0.heap.size w0 w) (hdef : x.defers = df) (u3 : x.tmps.getD 3 undef = .slice (some ⟨g, 0, none⟩) n C) (u5 : x.tmps.getD 5 undef = .int .i64 ((m : Int) + 1))
    : wpOpIn Fc nC Try.prog lkn9_ops Q 6 (fun a' w' => ∃ v, a' = x.put (some 26) v ∧ (v = .int .i64 ((m : Int) + 1)) ∧ Below w.heap.size w w') x w := by
  have ho : lkn9_ops[6]? = some lkn9_o6 := rfl
  simp only [Array.getD_eq_getD_getElem?] at u3 u5
  refine wpOpIn_plain ho rfl (oper_inK hF.fn (fun K hK => ?_))
  clear ho
  rw [Oper.semAt_plain Fc _ _ (by intro c h; cases h)]
  simp only [lkn9_o6]
  go_simp
  exact hK _ _ ⟨_, act_putD x hdef _ _, rfl, Below.refl _ _⟩
set_option maxRecDepth 100000 in
set_option maxHeartbeats 2000000 in
theorem lkn9_s7 {Fc : Fence} (hF : Wide Fc) {nC : Nat} (g C n m : Nat) (X Y : List UInt8) (Q : Exit → Act → World → Prop) (df : List Deferred) (w0 : World)
    (hm : m + 1 < n) (hn : n ≤ 100) (hX : w0.cell? ⟨g, m, none⟩ = some (by8 X)) (hY : w0.cell? ⟨g, m + 1, none⟩ = some (by8 Y)) (hXY : Op.bytesLess X Y = true)
    (x : Act) (w : World) (hB : Below w0.heap.size w0 w) (hdef : x.defers = df) (u3 : x.tmps.getD 3 undef = .slice (some ⟨g, 0, none⟩) n C) (u5 : x.tmps.getD 5 undef = .int .i64 ((m : Int) + 1))
    (p5 : lkn9_val g C n m X Y 5 (x.tmps.getD 25 undef) w)
    (p6 : lkn9_val g C n m X Y 6 (x.tmps.getD 26 undef) w)
    : wpOpIn Fc nC Try.prog lkn9_ops Q 7 (fun a' w' => ∃ v, a' = x.put (some 27) v ∧ (v = .pointer (some ⟨g, m + 1, none⟩)) ∧ Below w.heap.size w w') x w := by
  have ho : lkn9_ops[7]? = some lkn9_o7 := rfl
  simp only [Array.getD_eq_getD_getElem?] at u3 u5
  have q5 : x.tmps.getD 25 undef = .slice (some ⟨g, 0, none⟩) n C := p5
  have q6 : x.tmps.getD 26 undef = .int .i64 ((m : Int) + 1) := p6
  simp only [Array.getD_eq_getD_getElem?] at q5 q6
  have i0 : (0 : Int) ≤ (m : Int) + 1 := by omega
  have i1 : (m : Int) + 1 < (n : Int) := by omega
  refine wpOpIn_plain ho rfl (oper_inK hF.fn (fun K hK => ?_))
  clear ho
  rw [Oper.semAt_plain Fc _ _ (by intro c h; cases h)]
  simp only [lkn9_o7]
  go_simp
  exact hK _ _ ⟨_, act_putD x hdef _ _, rfl, Below.refl _ _⟩
set_option maxRecDepth 100000 in
set_option maxHeartbeats 2000000 in
theorem lkn9_s8 {Fc : Fence} (hF : Wide Fc) {nC : Nat} (g C n m : Nat) (X Y : List UInt8) (Q : Exit → Act → World → Prop) (df : List Deferred) (w0 : World)
    (hm : m + 1 < n) (hn : n ≤ 100) (hX : w0.cell? ⟨g, m, none⟩ = some (by8 X)) (hY : w0.cell? ⟨g, m + 1, none⟩ = some (by8 Y)) (hXY : Op.bytesLess X Y = true)
    (x : Act) (w : World) (hB : Below w0.heap.size w0 w) (hdef : x.defers = df) (u3 : x.tmps.getD 3 undef = .slice (some ⟨g, 0, none⟩) n C) (u5 : x.tmps.getD 5 undef = .int .i64 ((m : Int) + 1))
    (p7 : lkn9_val g C n m X Y 7 (x.tmps.getD 27 undef) w)
    : wpOpIn Fc nC Try.prog lkn9_ops Q 8 (fun a' w' => ∃ v, a' = x.put (some 28) v ∧ (v = by8 Y) ∧ Below w.heap.size w w') x w := by
  have ho : lkn9_ops[8]? = some lkn9_o8 := rfl
  simp only [Array.getD_eq_getD_getElem?] at u3 u5
  have q7 : x.tmps.getD 27 undef = .pointer (some ⟨g, m + 1, none⟩) := p7
  simp only [Array.getD_eq_getD_getElem?] at q7
  have c0 := cell_thru hY hB
  refine wpOpIn_plain ho rfl (oper_inK hF.fn (fun K hK => ?_))
  clear ho
  rw [Oper.semAt_plain Fc _ _ (by intro c h; cases h)]
  simp only [lkn9_o8]
  go_simp
  exact hK _ _ ⟨_, act_putD x hdef _ _, rfl, Below.refl _ _⟩
set_option maxRecDepth 100000 in
set_option maxHeartbeats 2000000 in
theorem lkn9_s9 {Fc : Fence} (hF : Wide Fc) {nC : Nat} (g C n m : Nat) (X Y : List UInt8) (Q : Exit → Act → World → Prop) (df : List Deferred) (w0 : World)
    (hm : m + 1 < n) (hn : n ≤ 100) (hX : w0.cell? ⟨g, m, none⟩ = some (by8 X)) (hY : w0.cell? ⟨g, m + 1, none⟩ = some (by8 Y)) (hXY : Op.bytesLess X Y = true)
    (x : Act) (w : World) (hB : Below w0.heap.size w0 w) (hdef : x.defers = df) (u3 : x.tmps.getD 3 undef = .slice (some ⟨g, 0, none⟩) n C) (u5 : x.tmps.getD 5 undef = .int .i64 ((m : Int) + 1))
    (p4 : lkn9_val g C n m X Y 4 (x.tmps.getD 24 undef) w)
    (p8 : lkn9_val g C n m X Y 8 (x.tmps.getD 28 undef) w)
    : wpOpIn Fc nC Try.prog lkn9_ops Q 9 (fun a' w' => ∃ v, a' = x.put (some 29) v ∧ (v = .bool false) ∧ Below w.heap.size w w') x w := by
  have ho : lkn9_ops[9]? = some lkn9_o9 := rfl
  simp only [Array.getD_eq_getD_getElem?] at u3 u5
  have q4 : x.tmps.getD 24 undef = by8 X := p4
  have q8 : x.tmps.getD 28 undef = by8 Y := p8
  simp only [Array.getD_eq_getD_getElem?] at q4 q8
  unfold by8 at q4 q8
  refine wpOpIn_plain ho rfl (oper_inK hF.fn (fun K hK => ?_))
  clear ho
  rw [Oper.semAt_plain Fc _ _ (by intro c h; cases h)]
  simp only [lkn9_o9]
  go_simp
  exact hK _ _ ⟨_, act_putD x hdef _ _, rfl, Below.refl _ _⟩

set_option maxRecDepth 100000 in
set_option maxHeartbeats 4000000 in
theorem lkn9 {Fc : Fence} (hF : Wide Fc) {nC : Nat} (g C n m : Nat) (X Y : List UInt8) (Q : Exit → Act → World → Prop) (t0 : Array Value) (df : List Deferred) (w0 : World) (ht : t0.size = 69)
    (hs3 : t0.getD 3 undef = .slice (some ⟨g, 0, none⟩) n C) (hs5 : t0.getD 5 undef = .int .i64 ((m : Int) + 1))
    (hm : m + 1 < n) (hn : n ≤ 100) (hX : w0.cell? ⟨g, m, none⟩ = some (by8 X)) (hY : w0.cell? ⟨g, m + 1, none⟩ = some (by8 Y)) (hXY : Op.bytesLess X Y = true)
    (hQ : ∀ (vs : Nat → Value) (w : World), Below w0.heap.size w0 w → (vs 29 = .bool false) → Q .normal { tmps := [20, 21, 22, 23, 24, 25, 26, 27, 28, 29].foldl (fun y d => y.setIfInBounds d (vs d)) t0, defers := df } w) :
    (Code.region 9 lkn9_ops true).wpIn Fc nC Try.prog Q { tmps := t0, defers := df } w0 := by
  refine wpIn_region_tail 10 (by decide) (by kernel_rfl) (fun a b => Below a.heap.size a b) (lkn9_val g C n m X Y) t0 df w0 (by rw [ht]; kernel_rfl) (by kernel_rfl) (by kernel_rfl) (by kernel_rfl) ((Below.refl _ _).drew) (fun _ _ _ h k => h.trans (k.mono h.size)) (lkn9_below g C n m X Y) ?_ ?_
  · intro j o ho hj x w hB hdef hsz hs hdeps
    have hs' : ∀ s, ¬ lkn9_mem s → x.tmps.getD s undef = t0.getD s undef := fun s hn => hs s (fun j hj e => hn (by rw [e]; exact lkn9_slots j hj))
    have u3 := (hs' 3 (by decide)).trans hs3
    have u5 := (hs' 5 (by decide)).trans hs5
    match j, ho, hj with
    | 0, ho, _ =>
      have e : o = lkn9_o0 := (Option.some.inj ho).symm
      subst e
      exact lkn9_s0 hF g C n m X Y Q df w0 hm hn hX hY hXY x w hB hdef u3 u5 
    | 1, ho, _ =>
      have e : o = lkn9_o1 := (Option.some.inj ho).symm
      subst e
      exact lkn9_s1 hF g C n m X Y Q df w0 hm hn hX hY hXY x w hB hdef u3 u5 
    | 2, ho, _ =>
      have e : o = lkn9_o2 := (Option.some.inj ho).symm
      subst e
      exact lkn9_s2 hF g C n m X Y Q df w0 hm hn hX hY hXY x w hB hdef u3 u5 (hdeps { on := 1, ground := Ground.data } (by simp) rfl)
    | 3, ho, _ =>
      have e : o = lkn9_o3 := (Option.some.inj ho).symm
      subst e
      exact lkn9_s3 hF g C n m X Y Q df w0 hm hn hX hY hXY x w hB hdef u3 u5 (hdeps { on := 0, ground := Ground.data } (by simp) rfl) (hdeps { on := 2, ground := Ground.data } (by simp) rfl)
    | 4, ho, _ =>
      have e : o = lkn9_o4 := (Option.some.inj ho).symm
      subst e
      exact lkn9_s4 hF g C n m X Y Q df w0 hm hn hX hY hXY x w hB hdef u3 u5 (hdeps { on := 3, ground := Ground.data } (by simp) rfl)
    | 5, ho, _ =>
      have e : o = lkn9_o5 := (Option.some.inj ho).symm
      subst e
      exact lkn9_s5 hF g C n m X Y Q df w0 hm hn hX hY hXY x w hB hdef u3 u5 
    | 6, ho, _ =>
      have e : o = lkn9_o6 := (Option.some.inj ho).symm
      subst e
      exact lkn9_s6 hF g C n m X Y Q df w0 hm hn hX hY hXY x w hB hdef u3 u5 
    | 7, ho, _ =>
      have e : o = lkn9_o7 := (Option.some.inj ho).symm
      subst e
      exact lkn9_s7 hF g C n m X Y Q df w0 hm hn hX hY hXY x w hB hdef u3 u5 (hdeps { on := 5, ground := Ground.data } (by simp) rfl) (hdeps { on := 6, ground := Ground.data } (by simp) rfl)
    | 8, ho, _ =>
      have e : o = lkn9_o8 := (Option.some.inj ho).symm
      subst e
      exact lkn9_s8 hF g C n m X Y Q df w0 hm hn hX hY hXY x w hB hdef u3 u5 (hdeps { on := 7, ground := Ground.data } (by simp) rfl)
    | 9, ho, _ =>
      have e : o = lkn9_o9 := (Option.some.inj ho).symm
      subst e
      exact lkn9_s9 hF g C n m X Y Q df w0 hm hn hX hY hXY x w hB hdef u3 u5 (hdeps { on := 4, ground := Ground.data } (by simp) rfl) (hdeps { on := 8, ground := Ground.data } (by simp) rfl)
    | k + 10, _, hj => omega
  · intro x w hB hdef hsz hs hv
    have hx := frame_sets x.tmps t0 hsz [20, 21, 22, 23, 24, 25, 26, 27, 28, 29] (fun s hn => hs s (fun j hj e => hn (by rw [e]; exact lkn9_slots j hj)))
    have hq := hQ (fun d => x.tmps.getD d undef) w hB (hv 9 (by decide))
    obtain ⟨T, Df⟩ := x
    dsimp only at hx hdef hq
    subst hdef
    rw [← hx] at hq
    exact hq
end Go.Proofs.Yteignimfggkgnaa
