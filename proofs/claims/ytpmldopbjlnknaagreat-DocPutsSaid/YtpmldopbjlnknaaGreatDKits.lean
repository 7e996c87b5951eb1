/-
  Drawn regions of FilesOf, SameDocs (written by tools/gen-dback.py).
-/
import Derived.Test.YtpmldopbjlnknaaGreatDGets
import Derived.Test.YtpmldopbjlnknaaGreatRegT
namespace Go.Proofs.YtpmldopbjlnknaaGreat
open Go.RowKit Go.Shelf
set_option linter.unusedVariables false
set_option linter.unusedSimpArgs false

abbrev dfo5_o0 : Oper := { dst := some 18, op := Op.move (Operand.tmp 5), type := 3, pos := "count.go:62", after := #[], guard := none }
abbrev dfo5_o1 : Oper := { dst := some 19, op := Op.binOp BinOp.add 3 (Operand.tmp 18) (Operand.const (Value.int IntKind.i64 1)) 3, type := 3, pos := "count.go:62", after := #[{ on := 0, ground := Ground.data }], guard := none }
abbrev dfo5_o2 : Oper := { dst := some 20, op := Op.move (Operand.tmp 0), type := 40, pos := "count.go:62", after := #[], guard := none }
abbrev dfo5_o3 : Oper := { dst := some 21, op := Op.move (Operand.tmp 6), type := 3, pos := "count.go:62", after := #[], guard := none }
abbrev dfo5_o4 : Oper := { dst := some 22, op := Op.indexAddr 40 (Operand.tmp 20) (Operand.tmp 21), type := 0, pos := "count.go:62", after := #[{ on := 2, ground := Ground.data }, { on := 3, ground := Ground.data }], guard := none }
abbrev dfo5_o5 : Oper := { dst := some 23, op := Op.fieldAddr 39 (Operand.tmp 22) 0, type := 0, pos := "count.go:62", after := #[{ on := 4, ground := Ground.data }], guard := none }
abbrev dfo5_o6 : Oper := { dst := some 24, op := Op.load 9 (Operand.tmp 23), type := 9, pos := "count.go:62", after := #[{ on := 5, ground := Ground.data }], guard := none }
abbrev dfo5_o7 : Oper := { dst := some 25, op := Op.call { callee := Callee.builtin Builtin.len, args := #[Operand.tmp 24], argTypes := #[9] }, type := 3, pos := "count.go:62", after := #[{ on := 6, ground := Ground.data }], guard := none }
abbrev dfo5_o8 : Oper := { dst := some 26, op := Op.binOp BinOp.add 3 (Operand.tmp 19) (Operand.tmp 25) 3, type := 3, pos := "count.go:62", after := #[{ on := 1, ground := Ground.data }, { on := 7, ground := Ground.data }], guard := none }
abbrev dfo5_o9 : Oper := { dst := some 27, op := Op.move (Operand.tmp 0), type := 40, pos := "count.go:62", after := #[], guard := none }
abbrev dfo5_o10 : Oper := { dst := some 28, op := Op.move (Operand.tmp 6), type := 3, pos := "count.go:62", after := #[], guard := none }
abbrev dfo5_o11 : Oper := { dst := some 29, op := Op.indexAddr 40 (Operand.tmp 27) (Operand.tmp 28), type := 0, pos := "count.go:62", after := #[{ on := 9, ground := Ground.data }, { on := 10, ground := Ground.data }], guard := none }
abbrev dfo5_o12 : Oper := { dst := some 30, op := Op.fieldAddr 39 (Operand.tmp 29) 1, type := 0, pos := "count.go:62", after := #[{ on := 11, ground := Ground.data }], guard := none }
abbrev dfo5_o13 : Oper := { dst := some 31, op := Op.load 26 (Operand.tmp 30), type := 26, pos := "count.go:62", after := #[{ on := 12, ground := Ground.data }], guard := none }
abbrev dfo5_o14 : Oper := { dst := some 32, op := Op.call { callee := Callee.builtin Builtin.len, args := #[Operand.tmp 31], argTypes := #[26] }, type := 3, pos := "count.go:62", after := #[{ on := 13, ground := Ground.data }], guard := none }
abbrev dfo5_o15 : Oper := { dst := some 33, op := Op.binOp BinOp.add 3 (Operand.tmp 26) (Operand.tmp 32) 3, type := 3, pos := "count.go:62", after := #[{ on := 8, ground := Ground.data }, { on := 14, ground := Ground.data }], guard := none }
abbrev dfo5_o16 : Oper := { dst := some 5, op := Op.assign (Operand.tmp 33), type := 3, pos := "count.go:62", after := #[{ on := 15, ground := Ground.data }, { on := 0, ground := Ground.phase }, { on := 1, ground := Ground.phase }, { on := 2, ground := Ground.phase }, { on := 3, ground := Ground.phase }, { on := 4, ground := Ground.phase }, { on := 5, ground := Ground.phase }, { on := 6, ground := Ground.phase }, { on := 7, ground := Ground.phase }, { on := 8, ground := Ground.phase }, { on := 9, ground := Ground.phase }, { on := 10, ground := Ground.phase }, { on := 11, ground := Ground.phase }, { on := 12, ground := Ground.phase }, { on := 13, ground := Ground.phase }, { on := 14, ground := Ground.phase }, { on := 15, ground := Ground.phase }], guard := none }
def dfo5_ops : Array Oper := #[dfo5_o0, dfo5_o1, dfo5_o2, dfo5_o3, dfo5_o4, dfo5_o5, dfo5_o6, dfo5_o7, dfo5_o8, dfo5_o9, dfo5_o10, dfo5_o11, dfo5_o12, dfo5_o13, dfo5_o14, dfo5_o15, dfo5_o16]
abbrev dfo5_mem (s : Nat) : Prop := s ∈ [18, 19, 20, 21, 22, 23, 24, 25, 26, 27, 28, 29, 30, 31, 32, 33]
set_option maxRecDepth 100000 in
theorem dfo5_slots : ∀ j, j < 16 → dfo5_mem (slotOf dfo5_ops j) := by
  intro j hj
  match j, hj with
  | 0, _ => exact (by decide : dfo5_mem 18)
  | 1, _ => exact (by decide : dfo5_mem 19)
  | 2, _ => exact (by decide : dfo5_mem 20)
  | 3, _ => exact (by decide : dfo5_mem 21)
  | 4, _ => exact (by decide : dfo5_mem 22)
  | 5, _ => exact (by decide : dfo5_mem 23)
  | 6, _ => exact (by decide : dfo5_mem 24)
  | 7, _ => exact (by decide : dfo5_mem 25)
  | 8, _ => exact (by decide : dfo5_mem 26)
  | 9, _ => exact (by decide : dfo5_mem 27)
  | 10, _ => exact (by decide : dfo5_mem 28)
  | 11, _ => exact (by decide : dfo5_mem 29)
  | 12, _ => exact (by decide : dfo5_mem 30)
  | 13, _ => exact (by decide : dfo5_mem 31)
  | 14, _ => exact (by decide : dfo5_mem 32)
  | 15, _ => exact (by decide : dfo5_mem 33)
  | k + 16, hj => omega
def dfo5_val (gF oF nF cF i c : Nat) (P : List UInt8) (pB : Option Addr) (B : List Nat) (cB : Nat) : Nat → Value → World → Prop
  | 0, v, w => v = .int .i64 (c : Nat)
  | 1, v, w => v = .int .i64 ((c : Int) + 1)
  | 2, v, w => v = .slice (some ⟨gF, oF, none⟩) nF cF
  | 3, v, w => v = .int .i64 (i : Nat)
  | 4, v, w => v = .pointer (some ⟨gF, oF + i * 2, none⟩)
  | 5, v, w => v = .pointer (some ⟨gF, oF + i * 2, none⟩)
  | 6, v, w => v = by8 P
  | 7, v, w => v = .int .i64 (P.length : Nat)
  | 8, v, w => v = .int .i64 ((c : Int) + 1 + (P.length : Nat))
  | 9, v, w => v = .slice (some ⟨gF, oF, none⟩) nF cF
  | 10, v, w => v = .int .i64 (i : Nat)
  | 11, v, w => v = .pointer (some ⟨gF, oF + i * 2, none⟩)
  | 12, v, w => v = .pointer (some ⟨gF, oF + i * 2 + 1, none⟩)
  | 13, v, w => v = .slice pB (B.length) cB
  | 14, v, w => v = .int .i64 ((B.length) : Nat)
  | 15, v, w => v = .int .i64 ((c : Int) + 1 + (P.length : Nat) + (B.length : Nat))
  | _, _, _ => True
theorem dfo5_below (gF oF nF cF i c : Nat) (P : List UInt8) (pB : Option Addr) (B : List Nat) (cB : Nat) (w w' : World) (hb : Below w.heap.size w w') : ∀ j v, dfo5_val gF oF nF cF i c P pB B cB j v w → dfo5_val gF oF nF cF i c P pB B cB j v w' := by
  intro j v h
  match j, h with
  | 0, h => exact h
  | 1, h => exact h
  | 2, h => exact h
  | 3, h => exact h
  | 4, h => exact h
  | 5, h => exact h
  | 6, h => exact h
  | 7, h => exact h
  | 8, h => exact h
  | 9, h => exact h
  | 10, h => exact h
  | 11, h => exact h
  | 12, h => exact h
  | 13, h => exact h
  | 14, h => exact h
  | 15, h => exact h
  | _ + 16, h => exact h
set_option maxRecDepth 100000 in
set_option maxHeartbeats 2000000 in
theorem dfo5_s0 {Fc : Fence} (hF : Wide Fc) {nC : Nat} (gF oF nF cF i c : Nat) (P : List UInt8) (pB : Option Addr) (B : List Nat) (cB : Nat) (Q : Exit → Act → World → Prop) (df : List Deferred) (w0 : World)
    (hi : i < nF) (hc : c ≤ 4000) (hp : P.length ≤ 140737488351232) (hl : B.length ≤ 140737488351232) (h0 : w0.cell? ⟨gF, oF + i * 2, none⟩ = some (by8 P)) (h1 : w0.cell? ⟨gF, oF + i * 2 + 1, none⟩ = some (.slice pB (B.length) cB))
    (x : Act) (w : World) (hB : Below w0.heap.size w0 w) (hdef : x.defers = df) (u0 : x.tmps.getD 0 undef = .slice (some ⟨gF, oF, none⟩) nF cF) (u5 : x.tmps.getD 5 undef = .int .i64 (c : Nat)) (u6 : x.tmps.getD 6 undef = .int .i64 (i : Nat))
    : wpOpIn Fc nC Tryz.prog dfo5_ops Q 0 (fun a' w' => ∃ v, a' = x.put (some 18) v ∧ (v = .int .i64 (c : Nat)) ∧ Below w.heap.size w w') x w := by
  have ho : dfo5_ops[0]? = some dfo5_o0 := rfl
  simp only [Array.getD_eq_getD_getElem?] at u0 u5 u6
  refine wpOpIn_plain ho rfl (oper_inK hF.fn (fun K hK => ?_))
  clear ho
  rw [Oper.semAt_plain Fc _ _ (by intro c h; cases h)]
  simp only [dfo5_o0]
  go_simp
  exact hK _ _ ⟨_, act_putD x hdef _ _, rfl, Below.refl _ _⟩
set_option maxRecDepth 100000 in
set_option maxHeartbeats 2000000 in
theorem dfo5_s1 {Fc : Fence} (hF : Wide Fc) {nC : Nat} (gF oF nF cF i c : Nat) (P : List UInt8) (pB : Option Addr) (B : List Nat) (cB : Nat) (Q : Exit → Act → World → Prop) (df : List Deferred) (w0 : World)
    (hi : i < nF) (hc : c ≤ 4000) (hp : P.length ≤ 140737488351232) (hl : B.length ≤ 140737488351232) (h0 : w0.cell? ⟨gF, oF + i * 2, none⟩ = some (by8 P)) (h1 : w0.cell? ⟨gF, oF + i * 2 + 1, none⟩ = some (.slice pB (B.length) cB))
    (x : Act) (w : World) (hB : Below w0.heap.size w0 w) (hdef : x.defers = df) (u0 : x.tmps.getD 0 undef = .slice (some ⟨gF, oF, none⟩) nF cF) (u5 : x.tmps.getD 5 undef = .int .i64 (c : Nat)) (u6 : x.tmps.getD 6 undef = .int .i64 (i : Nat))
    (p0 : dfo5_val gF oF nF cF i c P pB B cB 0 (x.tmps.getD 18 undef) w)
    : wpOpIn Fc nC Tryz.prog dfo5_ops Q 1 (fun a' w' => ∃ v, a' = x.put (some 19) v ∧ (v = .int .i64 ((c : Int) + 1)) ∧ Below w.heap.size w w') x w := by
  have ho : dfo5_ops[1]? = some dfo5_o1 := rfl
  simp only [Array.getD_eq_getD_getElem?] at u0 u5 u6
  have q0 : x.tmps.getD 18 undef = .int .i64 (c : Nat) := p0
  simp only [Array.getD_eq_getD_getElem?] at q0
  have m := IntWalk.i64_in ((c : Int) + 1) (by omega)
  refine wpOpIn_plain ho rfl (oper_inK hF.fn (fun K hK => ?_))
  clear ho
  rw [Oper.semAt_plain Fc _ _ (by intro c h; cases h)]
  simp only [dfo5_o1]
  go_simp
  exact hK _ _ ⟨_, act_putD x hdef _ _, rfl, Below.refl _ _⟩
set_option maxRecDepth 100000 in
set_option maxHeartbeats 2000000 in
theorem dfo5_s2 {Fc : Fence} (hF : Wide Fc) {nC : Nat} (gF oF nF cF i c : Nat) (P : List UInt8) (pB : Option Addr) (B : List Nat) (cB : Nat) (Q : Exit → Act → World → Prop) (df : List Deferred) (w0 : World)
    (hi : i < nF) (hc : c ≤ 4000) (hp : P.length ≤ 140737488351232) (hl : B.length ≤ 140737488351232) (h0 : w0.cell? ⟨gF, oF + i * 2, none⟩ = some (by8 P)) (h1 : w0.cell? ⟨gF, oF + i * 2 + 1, none⟩ = some (.slice pB (B.length) cB))
    (x : Act) (w : World) (hB : Below w0.heap.size w0 w) (hdef : x.defers = df) (u0 : x.tmps.getD 0 undef = .slice (some ⟨gF, oF, none⟩) nF cF) (u5 : x.tmps.getD 5 undef = .int .i64 (c : Nat)) (u6 : x.tmps.getD 6 undef = .int .i64 (i : Nat))
    : wpOpIn Fc nC Tryz.prog dfo5_ops Q 2 (fun a' w' => ∃ v, a' = x.put (some 20) v ∧ (v = .slice (some ⟨gF, oF, none⟩) nF cF) ∧ Below w.heap.size w w') x w := by
  have ho : dfo5_ops[2]? = some dfo5_o2 := rfl
  simp only [Array.getD_eq_getD_getElem?] at u0 u5 u6
  refine wpOpIn_plain ho rfl (oper_inK hF.fn (fun K hK => ?_))
  clear ho
  rw [Oper.semAt_plain Fc _ _ (by intro c h; cases h)]
  simp only [dfo5_o2]
  go_simp
  exact hK _ _ ⟨_, act_putD x hdef _ _, rfl, Below.refl _ _⟩
set_option maxRecDepth 100000 in
set_option maxHeartbeats 2000000 in
theorem dfo5_s3 {Fc : Fence} (hF : Wide Fc) {nC : Nat} (gF oF nF cF i c : Nat) (P : List UInt8) (pB : Option Addr) (B : List Nat) (cB : Nat) (Q : Exit → Act → World → Prop) (df : List Deferred) (w0 : World)
    (hi : i < nF) (hc : c ≤ 4000) (hp : P.length ≤ 140737488351232) (hl : B.length ≤ 140737488351232) (h0 : w0.cell? ⟨gF, oF + i * 2, none⟩ = some (by8 P)) (h1 : w0.cell? ⟨gF, oF + i * 2 + 1, none⟩ = some (.slice pB (B.length) cB))
    (x : Act) (w : World) (hB : Below w0.heap.size w0 w) (hdef : x.defers = df) (u0 : x.tmps.getD 0 undef = .slice (some ⟨gF, oF, none⟩) nF cF) (u5 : x.tmps.getD 5 undef = .int .i64 (c : Nat)) (u6 : x.tmps.getD 6 undef = .int .i64 (i : Nat))
    : wpOpIn Fc nC Tryz.prog dfo5_ops Q 3 (fun a' w' => ∃ v, a' = x.put (some 21) v ∧ (v = .int .i64 (i : Nat)) ∧ Below w.heap.size w w') x w := by
  have ho : dfo5_ops[3]? = some dfo5_o3 := rfl
  simp only [Array.getD_eq_getD_getElem?] at u0 u5 u6
  refine wpOpIn_plain ho rfl (oper_inK hF.fn (fun K hK => ?_))
  clear ho
  rw [Oper.semAt_plain Fc _ _ (by intro c h; cases h)]
  simp only [dfo5_o3]
  go_simp
  exact hK _ _ ⟨_, act_putD x hdef _ _, rfl, Below.refl _ _⟩
set_option maxRecDepth 100000 in
set_option maxHeartbeats 2000000 in
theorem dfo5_s4 {Fc : Fence} (hF : Wide Fc) {nC : Nat} (gF oF nF cF i c : Nat) (P : List UInt8) (pB : Option Addr) (B : List Nat) (cB : Nat) (Q : Exit → Act → World → Prop) (df : List Deferred) (w0 : World)
    (hi : i < nF) (hc : c ≤ 4000) (hp : P.length ≤ 140737488351232) (hl : B.length ≤ 140737488351232) (h0 : w0.cell? ⟨gF, oF + i * 2, none⟩ = some (by8 P)) (h1 : w0.cell? ⟨gF, oF + i * 2 + 1, none⟩ = some (.slice pB (B.length) cB))
    (x : Act) (w : World) (hB : Below w0.heap.size w0 w) (hdef : x.defers = df) (u0 : x.tmps.getD 0 undef = .slice (some ⟨gF, oF, none⟩) nF cF) (u5 : x.tmps.getD 5 undef = .int .i64 (c : Nat)) (u6 : x.tmps.getD 6 undef = .int .i64 (i : Nat))
    (p2 : dfo5_val gF oF nF cF i c P pB B cB 2 (x.tmps.getD 20 undef) w)
    (p3 : dfo5_val gF oF nF cF i c P pB B cB 3 (x.tmps.getD 21 undef) w)
    : wpOpIn Fc nC Tryz.prog dfo5_ops Q 4 (fun a' w' => ∃ v, a' = x.put (some 22) v ∧ (v = .pointer (some ⟨gF, oF + i * 2, none⟩)) ∧ Below w.heap.size w w') x w := by
  have ho : dfo5_ops[4]? = some dfo5_o4 := rfl
  simp only [Array.getD_eq_getD_getElem?] at u0 u5 u6
  have q2 : x.tmps.getD 20 undef = .slice (some ⟨gF, oF, none⟩) nF cF := p2
  have q3 : x.tmps.getD 21 undef = .int .i64 (i : Nat) := p3
  simp only [Array.getD_eq_getD_getElem?] at q2 q3
  have i0 : (0 : Int) ≤ (i : Int) := by omega
  have i1 : (i : Int) < (nF : Int) := by omega
  refine wpOpIn_plain ho rfl (oper_inK hF.fn (fun K hK => ?_))
  clear ho
  rw [Oper.semAt_plain Fc _ _ (by intro c h; cases h)]
  simp only [dfo5_o4]
  go_simp
  exact hK _ _ ⟨_, act_putD x hdef _ _, rfl, Below.refl _ _⟩
set_option maxRecDepth 100000 in
set_option maxHeartbeats 2000000 in
theorem dfo5_s5 {Fc : Fence} (hF : Wide Fc) {nC : Nat} (gF oF nF cF i c : Nat) (P : List UInt8) (pB : Option Addr) (B : List Nat) (cB : Nat) (Q : Exit → Act → World → Prop) (df : List Deferred) (w0 : World)
    (hi : i < nF) (hc : c ≤ 4000) (hp : P.length ≤ 140737488351232) (hl : B.length ≤ 140737488351232) (h0 : w0.cell? ⟨gF, oF + i * 2, none⟩ = some (by8 P)) (h1 : w0.cell? ⟨gF, oF + i * 2 + 1, none⟩ = some (.slice pB (B.length) cB))
    (x : Act) (w : World) (hB : Below w0.heap.size w0 w) (hdef : x.defers = df) (u0 : x.tmps.getD 0 undef = .slice (some ⟨gF, oF, none⟩) nF cF) (u5 : x.tmps.getD 5 undef = .int .i64 (c : Nat)) (u6 : x.tmps.getD 6 undef = .int .i64 (i : Nat))
    (p4 : dfo5_val gF oF nF cF i c P pB B cB 4 (x.tmps.getD 22 undef) w)
    : wpOpIn Fc nC Tryz.prog dfo5_ops Q 5 (fun a' w' => ∃ v, a' = x.put (some 23) v ∧ (v = .pointer (some ⟨gF, oF + i * 2, none⟩)) ∧ Below w.heap.size w w') x w := by
  have ho : dfo5_ops[5]? = some dfo5_o5 := rfl
  simp only [Array.getD_eq_getD_getElem?] at u0 u5 u6
  have q4 : x.tmps.getD 22 undef = .pointer (some ⟨gF, oF + i * 2, none⟩) := p4
  simp only [Array.getD_eq_getD_getElem?] at q4
  refine wpOpIn_plain ho rfl (oper_inK hF.fn (fun K hK => ?_))
  clear ho
  rw [Oper.semAt_plain Fc _ _ (by intro c h; cases h)]
  simp only [dfo5_o5]
  go_simp
  exact hK _ _ ⟨_, act_putD x hdef _ _, rfl, Below.refl _ _⟩
set_option maxRecDepth 100000 in
set_option maxHeartbeats 2000000 in
theorem dfo5_s6 {Fc : Fence} (hF : Wide Fc) {nC : Nat} (gF oF nF cF i c : Nat) (P : List UInt8) (pB : Option Addr) (B : List Nat) (cB : Nat) (Q : Exit → Act → World → Prop) (df : List Deferred) (w0 : World)
    (hi : i < nF) (hc : c ≤ 4000) (hp : P.length ≤ 140737488351232) (hl : B.length ≤ 140737488351232) (h0 : w0.cell? ⟨gF, oF + i * 2, none⟩ = some (by8 P)) (h1 : w0.cell? ⟨gF, oF + i * 2 + 1, none⟩ = some (.slice pB (B.length) cB))
    (x : Act) (w : World) (hB : Below w0.heap.size w0 w) (hdef : x.defers = df) (u0 : x.tmps.getD 0 undef = .slice (some ⟨gF, oF, none⟩) nF cF) (u5 : x.tmps.getD 5 undef = .int .i64 (c : Nat)) (u6 : x.tmps.getD 6 undef = .int .i64 (i : Nat))
    (p5 : dfo5_val gF oF nF cF i c P pB B cB 5 (x.tmps.getD 23 undef) w)
    : wpOpIn Fc nC Tryz.prog dfo5_ops Q 6 (fun a' w' => ∃ v, a' = x.put (some 24) v ∧ (v = by8 P) ∧ Below w.heap.size w w') x w := by
  have ho : dfo5_ops[6]? = some dfo5_o6 := rfl
  simp only [Array.getD_eq_getD_getElem?] at u0 u5 u6
  have q5 : x.tmps.getD 23 undef = .pointer (some ⟨gF, oF + i * 2, none⟩) := p5
  simp only [Array.getD_eq_getD_getElem?] at q5
  have m := cell_thru h0 hB
  refine wpOpIn_plain ho rfl (oper_inK hF.fn (fun K hK => ?_))
  clear ho
  rw [Oper.semAt_plain Fc _ _ (by intro c h; cases h)]
  simp only [dfo5_o6]
  go_simp
  exact hK _ _ ⟨_, act_putD x hdef _ _, rfl, Below.refl _ _⟩
set_option maxRecDepth 100000 in
set_option maxHeartbeats 2000000 in
theorem dfo5_s7 {Fc : Fence} (hF : Wide Fc) {nC : Nat} (gF oF nF cF i c : Nat) (P : List UInt8) (pB : Option Addr) (B : List Nat) (cB : Nat) (Q : Exit → Act → World → Prop) (df : List Deferred) (w0 : World)
    (hi : i < nF) (hc : c ≤ 4000) (hp : P.length ≤ 140737488351232) (hl : B.length ≤ 140737488351232) (h0 : w0.cell? ⟨gF, oF + i * 2, none⟩ = some (by8 P)) (h1 : w0.cell? ⟨gF, oF + i * 2 + 1, none⟩ = some (.slice pB (B.length) cB))
    (x : Act) (w : World) (hB : Below w0.heap.size w0 w) (hdef : x.defers = df) (u0 : x.tmps.getD 0 undef = .slice (some ⟨gF, oF, none⟩) nF cF) (u5 : x.tmps.getD 5 undef = .int .i64 (c : Nat)) (u6 : x.tmps.getD 6 undef = .int .i64 (i : Nat))
    (p6 : dfo5_val gF oF nF cF i c P pB B cB 6 (x.tmps.getD 24 undef) w)
    : wpOpIn Fc nC Tryz.prog dfo5_ops Q 7 (fun a' w' => ∃ v, a' = x.put (some 25) v ∧ (v = .int .i64 (P.length : Nat)) ∧ Below w.heap.size w w') x w := by
  have ho : dfo5_ops[7]? = some dfo5_o7 := rfl
  simp only [Array.getD_eq_getD_getElem?] at u0 u5 u6
  have q6 : x.tmps.getD 24 undef = by8 P := p6
  simp only [Array.getD_eq_getD_getElem?] at q6
  unfold by8 at q6
  refine wpOpIn_plain ho rfl (oper_inK hF.fn (fun K hK => ?_))
  clear ho
  rw [Oper.semAt_plain Fc _ _ (by intro c h; cases h)]
  simp only [dfo5_o7]
  go_simp
  exact hK _ _ ⟨.int .i64 (P.length : Nat), act_putD x hdef _ _, rfl, Below.refl _ _⟩
set_option maxRecDepth 100000 in
set_option maxHeartbeats 2000000 in
theorem dfo5_s8 {Fc : Fence} (hF : Wide Fc) {nC : Nat} (gF oF nF cF i c : Nat) (P : List UInt8) (pB : Option Addr) (B : List Nat) (cB : Nat) (Q : Exit → Act → World → Prop) (df : List Deferred) (w0 : World)
    (hi : i < nF) (hc : c ≤ 4000) (hp : P.length ≤ 140737488351232) (hl : B.length ≤ 140737488351232) (h0 : w0.cell? ⟨gF, oF + i * 2, none⟩ = some (by8 P)) (h1 : w0.cell? ⟨gF, oF + i * 2 + 1, none⟩ = some (.slice pB (B.length) cB))
    (x : Act) (w : World) (hB : Below w0.heap.size w0 w) (hdef : x.defers = df) (u0 : x.tmps.getD 0 undef = .slice (some ⟨gF, oF, none⟩) nF cF) (u5 : x.tmps.getD 5 undef = .int .i64 (c : Nat)) (u6 : x.tmps.getD 6 undef = .int .i64 (i : Nat))
    (p1 : dfo5_val gF oF nF cF i c P pB B cB 1 (x.tmps.getD 19 undef) w)
    (p7 : dfo5_val gF oF nF cF i c P pB B cB 7 (x.tmps.getD 25 undef) w)
    : wpOpIn Fc nC Tryz.prog dfo5_ops Q 8 (fun a' w' => ∃ v, a' = x.put (some 26) v ∧ (v = .int .i64 ((c : Int) + 1 + (P.length : Nat))) ∧ Below w.heap.size w w') x w := by
  have ho : dfo5_ops[8]? = some dfo5_o8 := rfl
  simp only [Array.getD_eq_getD_getElem?] at u0 u5 u6
  have q1 : x.tmps.getD 19 undef = .int .i64 ((c : Int) + 1) := p1
  have q7 : x.tmps.getD 25 undef = .int .i64 (P.length : Nat) := p7
  simp only [Array.getD_eq_getD_getElem?] at q1 q7
  have m := IntWalk.i64_in ((c : Int) + 1 + (P.length : Nat)) (by omega)
  refine wpOpIn_plain ho rfl (oper_inK hF.fn (fun K hK => ?_))
  clear ho
  rw [Oper.semAt_plain Fc _ _ (by intro c h; cases h)]
  simp only [dfo5_o8]
  go_simp
  exact hK _ _ ⟨_, act_putD x hdef _ _, rfl, Below.refl _ _⟩
set_option maxRecDepth 100000 in
set_option maxHeartbeats 2000000 in
theorem dfo5_s9 {Fc : Fence} (hF : Wide Fc) {nC : Nat} (gF oF nF cF i c : Nat) (P : List UInt8) (pB : Option Addr) (B : List Nat) (cB : Nat) (Q : Exit → Act → World → Prop) (df : List Deferred) (w0 : World)
    (hi : i < nF) (hc : c ≤ 4000) (hp : P.length ≤ 140737488351232) (hl : B.length ≤ 140737488351232) (h0 : w0.cell? ⟨gF, oF + i * 2, none⟩ = some (by8 P)) (h1 : w0.cell? ⟨gF, oF + i * 2 + 1, none⟩ = some (.slice pB (B.length) cB))
    (x : Act) (w : World) (hB : Below w0.heap.size w0 w) (hdef : x.defers = df) (u0 : x.tmps.getD 0 undef = .slice (some ⟨gF, oF, none⟩) nF cF) (u5 : x.tmps.getD 5 undef = .int .i64 (c : Nat)) (u6 : x.tmps.getD 6 undef = .int .i64 (i : Nat))
    : wpOpIn Fc nC Tryz.prog dfo5_ops Q 9 (fun a' w' => ∃ v, a' = x.put (some 27) v ∧ (v = .slice (some ⟨gF, oF, none⟩) nF cF) ∧ Below w.heap.size w w') x w := by
  have ho : dfo5_ops[9]? = some dfo5_o9 := rfl
  simp only [Array.getD_eq_getD_getElem?] at u0 u5 u6
  refine wpOpIn_plain ho rfl (oper_inK hF.fn (fun K hK => ?_))
  clear ho
  rw [Oper.semAt_plain Fc _ _ (by intro c h; cases h)]
  simp only [dfo5_o9]
  go_simp
  exact hK _ _ ⟨_, act_putD x hdef _ _, rfl, Below.refl _ _⟩
set_option maxRecDepth 100000 in
set_option maxHeartbeats 2000000 in
theorem dfo5_s10 {Fc : Fence} (hF : Wide Fc) {nC : Nat} (gF oF nF cF i c : Nat) (P : List UInt8) (pB : Option Addr) (B : List Nat) (cB : Nat) (Q : Exit → Act → World → Prop) (df : List Deferred) (w0 : World)
    (hi : i < nF) (hc : c ≤ 4000) (hp : P.length ≤ 140737488351232) (hl : B.length ≤ 140737488351232) (h0 : w0.cell? ⟨gF, oF + i * 2, none⟩ = some (by8 P)) (h1 : w0.cell? ⟨gF, oF + i * 2 + 1, none⟩ = some (.slice pB (B.length) cB))
    (x : Act) (w : World) (hB : Below w0.heap.size w0 w) (hdef : x.defers = df) (u0 : x.tmps.getD 0 undef = .slice (some ⟨gF, oF, none⟩) nF cF) (u5 : x.tmps.getD 5 undef = .int .i64 (c : Nat)) (u6 : x.tmps.getD 6 undef = .int .i64 (i : Nat))
    : wpOpIn Fc nC Tryz.prog dfo5_ops Q 10 (fun a' w' => ∃ v, a' = x.put (some 28) v ∧ (v = .int .i64 (i : Nat)) ∧ Below w.heap.size w w') x w := by
  have ho : dfo5_ops[10]? = some dfo5_o10 := rfl
  simp only [Array.getD_eq_getD_getElem?] at u0 u5 u6
  refine wpOpIn_plain ho rfl (oper_inK hF.fn (fun K hK => ?_))
  clear ho
  rw [Oper.semAt_plain Fc _ _ (by intro c h; cases h)]
  simp only [dfo5_o10]
  go_simp
  exact hK _ _ ⟨_, act_putD x hdef _ _, rfl, Below.refl _ _⟩
set_option maxRecDepth 100000 in
set_option maxHeartbeats 2000000 in
theorem dfo5_s11 {Fc : Fence} (hF : Wide Fc) {nC : Nat} (gF oF nF cF i c : Nat) (P : List UInt8) (pB : Option Addr) (B : List Nat) (cB : Nat) (Q : Exit → Act → World → Prop) (df : List Deferred) (w0 : World)
    (hi : i < nF) (hc : c ≤ 4000) (hp : P.length ≤ 140737488351232) (hl : B.length ≤ 140737488351232) (h0 : w0.cell? ⟨gF, oF + i * 2, none⟩ = some (by8 P)) (h1 : w0.cell? ⟨gF, oF + i * 2 + 1, none⟩ = some (.slice pB (B.length) cB))
    (x : Act) (w : World) (hB : Below w0.heap.size w0 w) (hdef : x.defers = df) (u0 : x.tmps.getD 0 undef = .slice (some ⟨gF, oF, none⟩) nF cF) (u5 : x.tmps.getD 5 undef = .int .i64 (c : Nat)) (u6 : x.tmps.getD 6 undef = .int .i64 (i : Nat))
    (p9 : dfo5_val gF oF nF cF i c P pB B cB 9 (x.tmps.getD 27 undef) w)
    (p10 : dfo5_val gF oF nF cF i c P pB B cB 10 (x.tmps.getD 28 undef) w)
    : wpOpIn Fc nC Tryz.prog dfo5_ops Q 11 (fun a' w' => ∃ v, a' = x.put (some 29) v ∧ (v = .pointer (some ⟨gF, oF + i * 2, none⟩)) ∧ Below w.heap.size w w') x w := by
  have ho : dfo5_ops[11]? = some dfo5_o11 := rfl
  simp only [Array.getD_eq_getD_getElem?] at u0 u5 u6
  have q9 : x.tmps.getD 27 undef = .slice (some ⟨gF, oF, none⟩) nF cF := p9
  have q10 : x.tmps.getD 28 undef = .int .i64 (i : Nat) := p10
  simp only [Array.getD_eq_getD_getElem?] at q9 q10
  have i0 : (0 : Int) ≤ (i : Int) := by omega
  have i1 : (i : Int) < (nF : Int) := by omega
  refine wpOpIn_plain ho rfl (oper_inK hF.fn (fun K hK => ?_))
  clear ho
  rw [Oper.semAt_plain Fc _ _ (by intro c h; cases h)]
  simp only [dfo5_o11]
  go_simp
  exact hK _ _ ⟨_, act_putD x hdef _ _, rfl, Below.refl _ _⟩
set_option maxRecDepth 100000 in
set_option maxHeartbeats 2000000 in
theorem dfo5_s12 {Fc : Fence} (hF : Wide Fc) {nC : Nat} (gF oF nF cF i c : Nat) (P : List UInt8) (pB : Option Addr) (B : List Nat) (cB : Nat) (Q : Exit → Act → World → Prop) (df : List Deferred) (w0 : World)
    (hi : i < nF) (hc : c ≤ 4000) (hp : P.length ≤ 140737488351232) (hl : B.length ≤ 140737488351232) (h0 : w0.cell? ⟨gF, oF + i * 2, none⟩ = some (by8 P)) (h1 : w0.cell? ⟨gF, oF + i * 2 + 1, none⟩ = some (.slice pB (B.length) cB))
    (x : Act) (w : World) (hB : Below w0.heap.size w0 w) (hdef : x.defers = df) (u0 : x.tmps.getD 0 undef = .slice (some ⟨gF, oF, none⟩) nF cF) (u5 : x.tmps.getD 5 undef = .int .i64 (c : Nat)) (u6 : x.tmps.getD 6 undef = .int .i64 (i : Nat))
    (p11 : dfo5_val gF oF nF cF i c P pB B cB 11 (x.tmps.getD 29 undef) w)
    : wpOpIn Fc nC Tryz.prog dfo5_ops Q 12 (fun a' w' => ∃ v, a' = x.put (some 30) v ∧ (v = .pointer (some ⟨gF, oF + i * 2 + 1, none⟩)) ∧ Below w.heap.size w w') x w := by
  have ho : dfo5_ops[12]? = some dfo5_o12 := rfl
  simp only [Array.getD_eq_getD_getElem?] at u0 u5 u6
  have q11 : x.tmps.getD 29 undef = .pointer (some ⟨gF, oF + i * 2, none⟩) := p11
  simp only [Array.getD_eq_getD_getElem?] at q11
  refine wpOpIn_plain ho rfl (oper_inK hF.fn (fun K hK => ?_))
  clear ho
  rw [Oper.semAt_plain Fc _ _ (by intro c h; cases h)]
  simp only [dfo5_o12]
  go_simp
  exact hK _ _ ⟨_, act_putD x hdef _ _, rfl, Below.refl _ _⟩
set_option maxRecDepth 100000 in
set_option maxHeartbeats 2000000 in
theorem dfo5_s13 {Fc : Fence} (hF : Wide Fc) {nC : Nat} (gF oF nF cF i c : Nat) (P : List UInt8) (pB : Option Addr) (B : List Nat) (cB : Nat) (Q : Exit → Act → World → Prop) (df : List Deferred) (w0 : World)
    (hi : i < nF) (hc : c ≤ 4000) (hp : P.length ≤ 140737488351232) (hl : B.length ≤ 140737488351232) (h0 : w0.cell? ⟨gF, oF + i * 2, none⟩ = some (by8 P)) (h1 : w0.cell? ⟨gF, oF + i * 2 + 1, none⟩ = some (.slice pB (B.length) cB))
    (x : Act) (w : World) (hB : Below w0.heap.size w0 w) (hdef : x.defers = df) (u0 : x.tmps.getD 0 undef = .slice (some ⟨gF, oF, none⟩) nF cF) (u5 : x.tmps.getD 5 undef = .int .i64 (c : Nat)) (u6 : x.tmps.getD 6 undef = .int .i64 (i : Nat))
    (p12 : dfo5_val gF oF nF cF i c P pB B cB 12 (x.tmps.getD 30 undef) w)
    : wpOpIn Fc nC Tryz.prog dfo5_ops Q 13 (fun a' w' => ∃ v, a' = x.put (some 31) v ∧ (v = .slice pB (B.length) cB) ∧ Below w.heap.size w w') x w := by
  have ho : dfo5_ops[13]? = some dfo5_o13 := rfl
  simp only [Array.getD_eq_getD_getElem?] at u0 u5 u6
  have q12 : x.tmps.getD 30 undef = .pointer (some ⟨gF, oF + i * 2 + 1, none⟩) := p12
  simp only [Array.getD_eq_getD_getElem?] at q12
  have m := cell_thru h1 hB
  refine wpOpIn_plain ho rfl (oper_inK hF.fn (fun K hK => ?_))
  clear ho
  rw [Oper.semAt_plain Fc _ _ (by intro c h; cases h)]
  simp only [dfo5_o13]
  go_simp
  exact hK _ _ ⟨_, act_putD x hdef _ _, rfl, Below.refl _ _⟩
set_option maxRecDepth 100000 in
set_option maxHeartbeats 2000000 in
theorem dfo5_s14 {Fc : Fence} (hF : Wide Fc) {nC : Nat} (gF oF nF cF i c : Nat) (P : List UInt8) (pB : Option Addr) (B : List Nat) (cB : Nat) (Q : Exit → Act → World → Prop) (df : List Deferred) (w0 : World)
    (hi : i < nF) (hc : c ≤ 4000) (hp : P.length ≤ 140737488351232) (hl : B.length ≤ 140737488351232) (h0 : w0.cell? ⟨gF, oF + i * 2, none⟩ = some (by8 P)) (h1 : w0.cell? ⟨gF, oF + i * 2 + 1, none⟩ = some (.slice pB (B.length) cB))
    (x : Act) (w : World) (hB : Below w0.heap.size w0 w) (hdef : x.defers = df) (u0 : x.tmps.getD 0 undef = .slice (some ⟨gF, oF, none⟩) nF cF) (u5 : x.tmps.getD 5 undef = .int .i64 (c : Nat)) (u6 : x.tmps.getD 6 undef = .int .i64 (i : Nat))
    (p13 : dfo5_val gF oF nF cF i c P pB B cB 13 (x.tmps.getD 31 undef) w)
    : wpOpIn Fc nC Tryz.prog dfo5_ops Q 14 (fun a' w' => ∃ v, a' = x.put (some 32) v ∧ (v = .int .i64 ((B.length) : Nat)) ∧ Below w.heap.size w w') x w := by
  have ho : dfo5_ops[14]? = some dfo5_o14 := rfl
  simp only [Array.getD_eq_getD_getElem?] at u0 u5 u6
  have q13 : x.tmps.getD 31 undef = .slice pB (B.length) cB := p13
  simp only [Array.getD_eq_getD_getElem?] at q13
  refine wpOpIn_plain ho rfl (oper_inK hF.fn (fun K hK => ?_))
  clear ho
  rw [Oper.semAt_plain Fc _ _ (by intro c h; cases h)]
  simp only [dfo5_o14]
  go_simp
  exact hK _ _ ⟨_, act_putD x hdef _ _, rfl, Below.refl _ _⟩
set_option maxRecDepth 100000 in
set_option maxHeartbeats 2000000 in
theorem dfo5_s15 {Fc : Fence} (hF : Wide Fc) {nC : Nat} (gF oF nF cF i c : Nat) (P : List UInt8) (pB : Option Addr) (B : List Nat) (cB : Nat) (Q : Exit → Act → World → Prop) (df : List Deferred) (w0 : World)
    (hi : i < nF) (hc : c ≤ 4000) (hp : P.length ≤ 140737488351232) (hl : B.length ≤ 140737488351232) (h0 : w0.cell? ⟨gF, oF + i * 2, none⟩ = some (by8 P)) (h1 : w0.cell? ⟨gF, oF + i * 2 + 1, none⟩ = some (.slice pB (B.length) cB))
    (x : Act) (w : World) (hB : Below w0.heap.size w0 w) (hdef : x.defers = df) (u0 : x.tmps.getD 0 undef = .slice (some ⟨gF, oF, none⟩) nF cF) (u5 : x.tmps.getD 5 undef = .int .i64 (c : Nat)) (u6 : x.tmps.getD 6 undef = .int .i64 (i : Nat))
    (p8 : dfo5_val gF oF nF cF i c P pB B cB 8 (x.tmps.getD 26 undef) w)
    (p14 : dfo5_val gF oF nF cF i c P pB B cB 14 (x.tmps.getD 32 undef) w)
    : wpOpIn Fc nC Tryz.prog dfo5_ops Q 15 (fun a' w' => ∃ v, a' = x.put (some 33) v ∧ (v = .int .i64 ((c : Int) + 1 + (P.length : Nat) + (B.length : Nat))) ∧ Below w.heap.size w w') x w := by
  have ho : dfo5_ops[15]? = some dfo5_o15 := rfl
  simp only [Array.getD_eq_getD_getElem?] at u0 u5 u6
  have q8 : x.tmps.getD 26 undef = .int .i64 ((c : Int) + 1 + (P.length : Nat)) := p8
  have q14 : x.tmps.getD 32 undef = .int .i64 ((B.length) : Nat) := p14
  simp only [Array.getD_eq_getD_getElem?] at q8 q14
  have m := IntWalk.i64_in ((c : Int) + 1 + (P.length : Nat) + (B.length : Nat)) (by omega)
  refine wpOpIn_plain ho rfl (oper_inK hF.fn (fun K hK => ?_))
  clear ho
  rw [Oper.semAt_plain Fc _ _ (by intro c h; cases h)]
  simp only [dfo5_o15]
  go_simp
  exact hK _ _ ⟨_, act_putD x hdef _ _, rfl, Below.refl _ _⟩

set_option maxRecDepth 100000 in
set_option maxHeartbeats 4000000 in
theorem dfo5 {Fc : Fence} (hF : Wide Fc) {nC : Nat} (gF oF nF cF i c : Nat) (P : List UInt8) (pB : Option Addr) (B : List Nat) (cB : Nat) (Q : Exit → Act → World → Prop) (t0 : Array Value) (df : List Deferred) (w0 : World) (ht : t0.size = 35)
    (hs0 : t0.getD 0 undef = .slice (some ⟨gF, oF, none⟩) nF cF) (hs5 : t0.getD 5 undef = .int .i64 (c : Nat)) (hs6 : t0.getD 6 undef = .int .i64 (i : Nat))
    (hi : i < nF) (hc : c ≤ 4000) (hp : P.length ≤ 140737488351232) (hl : B.length ≤ 140737488351232) (h0 : w0.cell? ⟨gF, oF + i * 2, none⟩ = some (by8 P)) (h1 : w0.cell? ⟨gF, oF + i * 2 + 1, none⟩ = some (.slice pB (B.length) cB))
    (hQ : ∀ (vs : Nat → Value) (w : World), Below w0.heap.size w0 w → (vs 33 = .int .i64 ((c : Int) + 1 + (P.length : Nat) + (B.length : Nat))) → wpOpIn Fc nC Tryz.prog dfo5_ops Q 16 (Q .normal) { tmps := [18, 19, 20, 21, 22, 23, 24, 25, 26, 27, 28, 29, 30, 31, 32, 33].foldl (fun y d => y.setIfInBounds d (vs d)) t0, defers := df } w) :
    (Code.region 5 dfo5_ops true).wpIn Fc nC Tryz.prog Q { tmps := t0, defers := df } w0 := by
  refine wpIn_region_tail 16 (by decide) (by kernel_rfl) (fun a b => Below a.heap.size a b) (dfo5_val gF oF nF cF i c P pB B cB) t0 df w0 (by rw [ht]; kernel_rfl) (by kernel_rfl) (by kernel_rfl) (by kernel_rfl) ((Below.refl _ _).drew) (fun _ _ _ h k => h.trans (k.mono h.size)) (dfo5_below gF oF nF cF i c P pB B cB) ?_ ?_
  · intro j o ho hj x w hB hdef hsz hs hdeps
    have hs' : ∀ s, ¬ dfo5_mem s → x.tmps.getD s undef = t0.getD s undef := fun s hn => hs s (fun j hj e => hn (by rw [e]; exact dfo5_slots j hj))
    have u0 := (hs' 0 (by decide)).trans hs0
    have u5 := (hs' 5 (by decide)).trans hs5
    have u6 := (hs' 6 (by decide)).trans hs6
    match j, ho, hj with
    | 0, ho, _ =>
      have e : o = dfo5_o0 := (Option.some.inj ho).symm
      subst e
      exact dfo5_s0 hF gF oF nF cF i c P pB B cB Q df w0 hi hc hp hl h0 h1 x w hB hdef u0 u5 u6 
    | 1, ho, _ =>
      have e : o = dfo5_o1 := (Option.some.inj ho).symm
      subst e
      exact dfo5_s1 hF gF oF nF cF i c P pB B cB Q df w0 hi hc hp hl h0 h1 x w hB hdef u0 u5 u6 (hdeps { on := 0, ground := Ground.data } (by simp) rfl)
    | 2, ho, _ =>
      have e : o = dfo5_o2 := (Option.some.inj ho).symm
      subst e
      exact dfo5_s2 hF gF oF nF cF i c P pB B cB Q df w0 hi hc hp hl h0 h1 x w hB hdef u0 u5 u6 
    | 3, ho, _ =>
      have e : o = dfo5_o3 := (Option.some.inj ho).symm
      subst e
      exact dfo5_s3 hF gF oF nF cF i c P pB B cB Q df w0 hi hc hp hl h0 h1 x w hB hdef u0 u5 u6 
    | 4, ho, _ =>
      have e : o = dfo5_o4 := (Option.some.inj ho).symm
      subst e
      exact dfo5_s4 hF gF oF nF cF i c P pB B cB Q df w0 hi hc hp hl h0 h1 x w hB hdef u0 u5 u6 (hdeps { on := 2, ground := Ground.data } (by simp) rfl) (hdeps { on := 3, ground := Ground.data } (by simp) rfl)
    | 5, ho, _ =>
      have e : o = dfo5_o5 := (Option.some.inj ho).symm
      subst e
      exact dfo5_s5 hF gF oF nF cF i c P pB B cB Q df w0 hi hc hp hl h0 h1 x w hB hdef u0 u5 u6 (hdeps { on := 4, ground := Ground.data } (by simp) rfl)
    | 6, ho, _ =>
      have e : o = dfo5_o6 := (Option.some.inj ho).symm
      subst e
      exact dfo5_s6 hF gF oF nF cF i c P pB B cB Q df w0 hi hc hp hl h0 h1 x w hB hdef u0 u5 u6 (hdeps { on := 5, ground := Ground.data } (by simp) rfl)
    | 7, ho, _ =>
      have e : o = dfo5_o7 := (Option.some.inj ho).symm
      subst e
      exact dfo5_s7 hF gF oF nF cF i c P pB B cB Q df w0 hi hc hp hl h0 h1 x w hB hdef u0 u5 u6 (hdeps { on := 6, ground := Ground.data } (by simp) rfl)
    | 8, ho, _ =>
      have e : o = dfo5_o8 := (Option.some.inj ho).symm
      subst e
      exact dfo5_s8 hF gF oF nF cF i c P pB B cB Q df w0 hi hc hp hl h0 h1 x w hB hdef u0 u5 u6 (hdeps { on := 1, ground := Ground.data } (by simp) rfl) (hdeps { on := 7, ground := Ground.data } (by simp) rfl)
    | 9, ho, _ =>
      have e : o = dfo5_o9 := (Option.some.inj ho).symm
      subst e
      exact dfo5_s9 hF gF oF nF cF i c P pB B cB Q df w0 hi hc hp hl h0 h1 x w hB hdef u0 u5 u6 
    | 10, ho, _ =>
      have e : o = dfo5_o10 := (Option.some.inj ho).symm
      subst e
      exact dfo5_s10 hF gF oF nF cF i c P pB B cB Q df w0 hi hc hp hl h0 h1 x w hB hdef u0 u5 u6 
    | 11, ho, _ =>
      have e : o = dfo5_o11 := (Option.some.inj ho).symm
      subst e
      exact dfo5_s11 hF gF oF nF cF i c P pB B cB Q df w0 hi hc hp hl h0 h1 x w hB hdef u0 u5 u6 (hdeps { on := 9, ground := Ground.data } (by simp) rfl) (hdeps { on := 10, ground := Ground.data } (by simp) rfl)
    | 12, ho, _ =>
      have e : o = dfo5_o12 := (Option.some.inj ho).symm
      subst e
      exact dfo5_s12 hF gF oF nF cF i c P pB B cB Q df w0 hi hc hp hl h0 h1 x w hB hdef u0 u5 u6 (hdeps { on := 11, ground := Ground.data } (by simp) rfl)
    | 13, ho, _ =>
      have e : o = dfo5_o13 := (Option.some.inj ho).symm
      subst e
      exact dfo5_s13 hF gF oF nF cF i c P pB B cB Q df w0 hi hc hp hl h0 h1 x w hB hdef u0 u5 u6 (hdeps { on := 12, ground := Ground.data } (by simp) rfl)
    | 14, ho, _ =>
      have e : o = dfo5_o14 := (Option.some.inj ho).symm
      subst e
      exact dfo5_s14 hF gF oF nF cF i c P pB B cB Q df w0 hi hc hp hl h0 h1 x w hB hdef u0 u5 u6 (hdeps { on := 13, ground := Ground.data } (by simp) rfl)
    | 15, ho, _ =>
      have e : o = dfo5_o15 := (Option.some.inj ho).symm
      subst e
      exact dfo5_s15 hF gF oF nF cF i c P pB B cB Q df w0 hi hc hp hl h0 h1 x w hB hdef u0 u5 u6 (hdeps { on := 8, ground := Ground.data } (by simp) rfl) (hdeps { on := 14, ground := Ground.data } (by simp) rfl)
    | k + 16, _, hj => omega
  · intro x w hB hdef hsz hs hv
    have hx := frame_sets x.tmps t0 hsz [18, 19, 20, 21, 22, 23, 24, 25, 26, 27, 28, 29, 30, 31, 32, 33] (fun s hn => hs s (fun j hj e => hn (by rw [e]; exact dfo5_slots j hj)))
    have hq := hQ (fun d => x.tmps.getD d undef) w hB (hv 15 (by decide))
    obtain ⟨T, Df⟩ := x
    dsimp only at hx hdef hq
    subst hdef
    rw [← hx] at hq
    exact hq
abbrev dsd6_o0 : Oper := { dst := some 17, op := Op.move (Operand.tmp 0), type := 22, pos := "same.go:254", after := #[], guard := none }
abbrev dsd6_o1 : Oper := { dst := some 18, op := Op.move (Operand.tmp 5), type := 3, pos := "same.go:254", after := #[], guard := none }
abbrev dsd6_o2 : Oper := { dst := some 19, op := Op.indexAddr 22 (Operand.tmp 17) (Operand.tmp 18), type := 0, pos := "same.go:254", after := #[{ on := 0, ground := Ground.data }, { on := 1, ground := Ground.data }], guard := none }
abbrev dsd6_o3 : Oper := { dst := some 20, op := Op.load 47 (Operand.tmp 19), type := 47, pos := "same.go:254", after := #[{ on := 2, ground := Ground.data }], guard := none }
abbrev dsd6_o4 : Oper := { dst := some 21, op := Op.move (Operand.tmp 1), type := 22, pos := "same.go:254", after := #[], guard := none }
abbrev dsd6_o5 : Oper := { dst := some 22, op := Op.move (Operand.tmp 5), type := 3, pos := "same.go:254", after := #[], guard := none }
abbrev dsd6_o6 : Oper := { dst := some 23, op := Op.indexAddr 22 (Operand.tmp 21) (Operand.tmp 22), type := 0, pos := "same.go:254", after := #[{ on := 4, ground := Ground.data }, { on := 5, ground := Ground.data }], guard := none }
abbrev dsd6_o7 : Oper := { dst := some 24, op := Op.load 47 (Operand.tmp 23), type := 47, pos := "same.go:254", after := #[{ on := 6, ground := Ground.data }], guard := none }
abbrev dsd6_o8 : Oper := { dst := some 25, op := Op.binOp BinOp.neq 47 (Operand.tmp 20) (Operand.tmp 24) 47, type := 4, pos := "same.go:254", after := #[{ on := 3, ground := Ground.data }, { on := 7, ground := Ground.data }], guard := none }
def dsd6_ops : Array Oper := #[dsd6_o0, dsd6_o1, dsd6_o2, dsd6_o3, dsd6_o4, dsd6_o5, dsd6_o6, dsd6_o7, dsd6_o8]
abbrev dsd6_mem (s : Nat) : Prop := s ∈ [17, 18, 19, 20, 21, 22, 23, 24, 25]
set_option maxRecDepth 100000 in
theorem dsd6_slots : ∀ j, j < 9 → dsd6_mem (slotOf dsd6_ops j) := by
  intro j hj
  match j, hj with
  | 0, _ => exact (by decide : dsd6_mem 17)
  | 1, _ => exact (by decide : dsd6_mem 18)
  | 2, _ => exact (by decide : dsd6_mem 19)
  | 3, _ => exact (by decide : dsd6_mem 20)
  | 4, _ => exact (by decide : dsd6_mem 21)
  | 5, _ => exact (by decide : dsd6_mem 22)
  | 6, _ => exact (by decide : dsd6_mem 23)
  | 7, _ => exact (by decide : dsd6_mem 24)
  | 8, _ => exact (by decide : dsd6_mem 25)
  | k + 9, hj => omega
def dsd6_val (gA oA gB oB n cA cB i : Nat) (d : DT) : Nat → Value → World → Prop
  | 0, v, w => v = .slice (some ⟨gA, oA, none⟩) n cA
  | 1, v, w => v = .int .i64 (i : Nat)
  | 2, v, w => v = .pointer (some ⟨gA, oA + i * 4, none⟩)
  | 3, v, w => v = .agg #[by8 d.P, by8 d.L, .int .u32 (d.S : Nat), .int .i64 d.Z]
  | 4, v, w => v = .slice (some ⟨gB, oB, none⟩) n cB
  | 5, v, w => v = .int .i64 (i : Nat)
  | 6, v, w => v = .pointer (some ⟨gB, oB + i * 4, none⟩)
  | 7, v, w => v = .agg #[by8 d.P, by8 d.L, .int .u32 (d.S : Nat), .int .i64 d.Z]
  | 8, v, w => v = .bool false
  | _, _, _ => True
theorem dsd6_below (gA oA gB oB n cA cB i : Nat) (d : DT) (w w' : World) (hb : Below w.heap.size w w') : ∀ j v, dsd6_val gA oA gB oB n cA cB i d j v w → dsd6_val gA oA gB oB n cA cB i d j v w' := by
  intro j v h
  match j, h with
  | 0, h => exact h
  | 1, h => exact h
  | 2, h => exact h
  | 3, h => exact h
  | 4, h => exact h
  | 5, h => exact h
  | 6, h => exact h
  | 7, h => exact h
  | 8, h => exact h
  | _ + 9, h => exact h
set_option maxRecDepth 100000 in
set_option maxHeartbeats 2000000 in
theorem dsd6_s0 {Fc : Fence} (hF : Wide Fc) {nC : Nat} (gA oA gB oB n cA cB i : Nat) (d : DT) (Q : Exit → Act → World → Prop) (df : List Deferred) (w0 : World)
    (hi : i < n) (a0 : w0.cell? ⟨gA, oA + i * 4, none⟩ = some (by8 d.P)) (a1 : w0.cell? ⟨gA, oA + i * 4 + 1, none⟩ = some (by8 d.L)) (a2 : w0.cell? ⟨gA, oA + i * 4 + 2, none⟩ = some (.int .u32 (d.S : Nat))) (a3 : w0.cell? ⟨gA, oA + i * 4 + 3, none⟩ = some (.int .i64 d.Z)) (b0 : w0.cell? ⟨gB, oB + i * 4, none⟩ = some (by8 d.P)) (b1 : w0.cell? ⟨gB, oB + i * 4 + 1, none⟩ = some (by8 d.L)) (b2 : w0.cell? ⟨gB, oB + i * 4 + 2, none⟩ = some (.int .u32 (d.S : Nat))) (b3 : w0.cell? ⟨gB, oB + i * 4 + 3, none⟩ = some (.int .i64 d.Z))
    (x : Act) (w : World) (hB : Below w0.heap.size w0 w) (hdef : x.defers = df) (u0 : x.tmps.getD 0 undef = .slice (some ⟨gA, oA, none⟩) n cA) (u1 : x.tmps.getD 1 undef = .slice (some ⟨gB, oB, none⟩) n cB) (u5 : x.tmps.getD 5 undef = .int .i64 (i : Nat))
    : wpOpIn Fc nC Tryz.prog dsd6_ops Q 0 (fun a' w' => ∃ v, a' = x.put (some 17) v ∧ (v = .slice (some ⟨gA, oA, none⟩) n cA) ∧ Below w.heap.size w w') x w := by
  have ho : dsd6_ops[0]? = some dsd6_o0 := rfl
  simp only [Array.getD_eq_getD_getElem?] at u0 u1 u5
  refine wpOpIn_plain ho rfl (oper_inK hF.fn (fun K hK => ?_))
  clear ho
  rw [Oper.semAt_plain Fc _ _ (by intro c h; cases h)]
  simp only [dsd6_o0]
  go_simp
  exact hK _ _ ⟨_, act_putD x hdef _ _, rfl, Below.refl _ _⟩
set_option maxRecDepth 100000 in
set_option maxHeartbeats 2000000 in
theorem dsd6_s1 {Fc : Fence} (hF : Wide Fc) {nC : Nat} (gA oA gB oB n cA cB i : Nat) (d : DT) (Q : Exit → Act → World → Prop) (df : List Deferred) (w0 : World)
    (hi : i < n) (a0 : w0.cell? ⟨gA, oA + i * 4, none⟩ = some (by8 d.P)) (a1 : w0.cell? ⟨gA, oA + i * 4 + 1, none⟩ = some (by8 d.L)) (a2 : w0.cell? ⟨gA, oA + i * 4 + 2, none⟩ = some (.int .u32 (d.S : Nat))) (a3 : w0.cell? ⟨gA, oA + i * 4 + 3, none⟩ = some (.int .i64 d.Z)) (b0 : w0.cell? ⟨gB, oB + i * 4, none⟩ = some (by8 d.P)) (b1 : w0.cell? ⟨gB, oB + i * 4 + 1, none⟩ = some (by8 d.L)) (b2 : w0.cell? ⟨gB, oB + i * 4 + 2, none⟩ = some (.int .u32 (d.S : Nat))) (b3 : w0.cell? ⟨gB, oB + i * 4 + 3, none⟩ = some (.int .i64 d.Z))
    (x : Act) (w : World) (hB : Below w0.heap.size w0 w) (hdef : x.defers = df) (u0 : x.tmps.getD 0 undef = .slice (some ⟨gA, oA, none⟩) n cA) (u1 : x.tmps.getD 1 undef = .slice (some ⟨gB, oB, none⟩) n cB) (u5 : x.tmps.getD 5 undef = .int .i64 (i : Nat))
    : wpOpIn Fc nC Tryz.prog dsd6_ops Q 1 (fun a' w' => ∃ v, a' = x.put (some 18) v ∧ (v = .int .i64 (i : Nat)) ∧ Below w.heap.size w w') x w := by
  have ho : dsd6_ops[1]? = some dsd6_o1 := rfl
  simp only [Array.getD_eq_getD_getElem?] at u0 u1 u5
  refine wpOpIn_plain ho rfl (oper_inK hF.fn (fun K hK => ?_))
  clear ho
  rw [Oper.semAt_plain Fc _ _ (by intro c h; cases h)]
  simp only [dsd6_o1]
  go_simp
  exact hK _ _ ⟨_, act_putD x hdef _ _, rfl, Below.refl _ _⟩
set_option maxRecDepth 100000 in
set_option maxHeartbeats 2000000 in
theorem dsd6_s2 {Fc : Fence} (hF : Wide Fc) {nC : Nat} (gA oA gB oB n cA cB i : Nat) (d : DT) (Q : Exit → Act → World → Prop) (df : List Deferred) (w0 : World)
    (hi : i < n) (a0 : w0.cell? ⟨gA, oA + i * 4, none⟩ = some (by8 d.P)) (a1 : w0.cell? ⟨gA, oA + i * 4 + 1, none⟩ = some (by8 d.L)) (a2 : w0.cell? ⟨gA, oA + i * 4 + 2, none⟩ = some (.int .u32 (d.S : Nat))) (a3 : w0.cell? ⟨gA, oA + i * 4 + 3, none⟩ = some (.int .i64 d.Z)) (b0 : w0.cell? ⟨gB, oB + i * 4, none⟩ = some (by8 d.P)) (b1 : w0.cell? ⟨gB, oB + i * 4 + 1, none⟩ = some (by8 d.L)) (b2 : w0.cell? ⟨gB, oB + i * 4 + 2, none⟩ = some (.int .u32 (d.S : Nat))) (b3 : w0.cell? ⟨gB, oB + i * 4 + 3, none⟩ = some (.int .i64 d.Z))
    (x : Act) (w : World) (hB : Below w0.heap.size w0 w) (hdef : x.defers = df) (u0 : x.tmps.getD 0 undef = .slice (some ⟨gA, oA, none⟩) n cA) (u1 : x.tmps.getD 1 undef = .slice (some ⟨gB, oB, none⟩) n cB) (u5 : x.tmps.getD 5 undef = .int .i64 (i : Nat))
    (p0 : dsd6_val gA oA gB oB n cA cB i d 0 (x.tmps.getD 17 undef) w)
    (p1 : dsd6_val gA oA gB oB n cA cB i d 1 (x.tmps.getD 18 undef) w)
    : wpOpIn Fc nC Tryz.prog dsd6_ops Q 2 (fun a' w' => ∃ v, a' = x.put (some 19) v ∧ (v = .pointer (some ⟨gA, oA + i * 4, none⟩)) ∧ Below w.heap.size w w') x w := by
  have ho : dsd6_ops[2]? = some dsd6_o2 := rfl
  simp only [Array.getD_eq_getD_getElem?] at u0 u1 u5
  have q0 : x.tmps.getD 17 undef = .slice (some ⟨gA, oA, none⟩) n cA := p0
  have q1 : x.tmps.getD 18 undef = .int .i64 (i : Nat) := p1
  simp only [Array.getD_eq_getD_getElem?] at q0 q1
  have i0 : (0 : Int) ≤ (i : Int) := by omega
  have i1 : (i : Int) < (n : Int) := by omega
  refine wpOpIn_plain ho rfl (oper_inK hF.fn (fun K hK => ?_))
  clear ho
  rw [Oper.semAt_plain Fc _ _ (by intro c h; cases h)]
  simp only [dsd6_o2]
  go_simp
  exact hK _ _ ⟨_, act_putD x hdef _ _, rfl, Below.refl _ _⟩
set_option maxRecDepth 100000 in
set_option maxHeartbeats 2000000 in
theorem dsd6_s3 {Fc : Fence} (hF : Wide Fc) {nC : Nat} (gA oA gB oB n cA cB i : Nat) (d : DT) (Q : Exit → Act → World → Prop) (df : List Deferred) (w0 : World)
    (hi : i < n) (a0 : w0.cell? ⟨gA, oA + i * 4, none⟩ = some (by8 d.P)) (a1 : w0.cell? ⟨gA, oA + i * 4 + 1, none⟩ = some (by8 d.L)) (a2 : w0.cell? ⟨gA, oA + i * 4 + 2, none⟩ = some (.int .u32 (d.S : Nat))) (a3 : w0.cell? ⟨gA, oA + i * 4 + 3, none⟩ = some (.int .i64 d.Z)) (b0 : w0.cell? ⟨gB, oB + i * 4, none⟩ = some (by8 d.P)) (b1 : w0.cell? ⟨gB, oB + i * 4 + 1, none⟩ = some (by8 d.L)) (b2 : w0.cell? ⟨gB, oB + i * 4 + 2, none⟩ = some (.int .u32 (d.S : Nat))) (b3 : w0.cell? ⟨gB, oB + i * 4 + 3, none⟩ = some (.int .i64 d.Z))
    (x : Act) (w : World) (hB : Below w0.heap.size w0 w) (hdef : x.defers = df) (u0 : x.tmps.getD 0 undef = .slice (some ⟨gA, oA, none⟩) n cA) (u1 : x.tmps.getD 1 undef = .slice (some ⟨gB, oB, none⟩) n cB) (u5 : x.tmps.getD 5 undef = .int .i64 (i : Nat))
    (p2 : dsd6_val gA oA gB oB n cA cB i d 2 (x.tmps.getD 19 undef) w)
    : wpOpIn Fc nC Tryz.prog dsd6_ops Q 3 (fun a' w' => ∃ v, a' = x.put (some 20) v ∧ (v = .agg #[by8 d.P, by8 d.L, .int .u32 (d.S : Nat), .int .i64 d.Z]) ∧ Below w.heap.size w w') x w := by
  have ho : dsd6_ops[3]? = some dsd6_o3 := rfl
  simp only [Array.getD_eq_getD_getElem?] at u0 u1 u5
  have q2 : x.tmps.getD 19 undef = .pointer (some ⟨gA, oA + i * 4, none⟩) := p2
  simp only [Array.getD_eq_getD_getElem?] at q2
  have m0 := cell_thru a0 hB
  have m1 := cell_thru a1 hB
  have m2 := cell_thru a2 hB
  have m3 := cell_thru a3 hB
  unfold by8 at *
  refine wpOpIn_plain ho rfl (oper_inK hF.fn (fun K hK => ?_))
  clear ho
  rw [Oper.semAt_plain Fc _ _ (by intro c h; cases h)]
  simp only [dsd6_o3]
  go_simp
  exact hK _ _ ⟨_, act_putD x hdef _ _, rfl, Below.refl _ _⟩
set_option maxRecDepth 100000 in
set_option maxHeartbeats 2000000 in
theorem dsd6_s4 {Fc : Fence} (hF : Wide Fc) {nC : Nat} (gA oA gB oB n cA cB i : Nat) (d : DT) (Q : Exit → Act → World → Prop) (df : List Deferred) (w0 : World)
    (hi : i < n) (a0 : w0.cell? ⟨gA, oA + i * 4, none⟩ = some (by8 d.P)) (a1 : w0.cell? ⟨gA, oA + i * 4 + 1, none⟩ = some (by8 d.L)) (a2 : w0.cell? ⟨gA, oA + i * 4 + 2, none⟩ = some (.int .u32 (d.S : Nat))) (a3 : w0.cell? ⟨gA, oA + i * 4 + 3, none⟩ = some (.int .i64 d.Z)) (b0 : w0.cell? ⟨gB, oB + i * 4, none⟩ = some (by8 d.P)) (b1 : w0.cell? ⟨gB, oB + i * 4 + 1, none⟩ = some (by8 d.L)) (b2 : w0.cell? ⟨gB, oB + i * 4 + 2, none⟩ = some (.int .u32 (d.S : Nat))) (b3 : w0.cell? ⟨gB, oB + i * 4 + 3, none⟩ = some (.int .i64 d.Z))
    (x : Act) (w : World) (hB : Below w0.heap.size w0 w) (hdef : x.defers = df) (u0 : x.tmps.getD 0 undef = .slice (some ⟨gA, oA, none⟩) n cA) (u1 : x.tmps.getD 1 undef = .slice (some ⟨gB, oB, none⟩) n cB) (u5 : x.tmps.getD 5 undef = .int .i64 (i : Nat))
    : wpOpIn Fc nC Tryz.prog dsd6_ops Q 4 (fun a' w' => ∃ v, a' = x.put (some 21) v ∧ (v = .slice (some ⟨gB, oB, none⟩) n cB) ∧ Below w.heap.size w w') x w := by
  have ho : dsd6_ops[4]? = some dsd6_o4 := rfl
  simp only [Array.getD_eq_getD_getElem?] at u0 u1 u5
  refine wpOpIn_plain ho rfl (oper_inK hF.fn (fun K hK => ?_))
  clear ho
  rw [Oper.semAt_plain Fc _ _ (by intro c h; cases h)]
  simp only [dsd6_o4]
  go_simp
  exact hK _ _ ⟨_, act_putD x hdef _ _, rfl, Below.refl _ _⟩
set_option maxRecDepth 100000 in
set_option maxHeartbeats 2000000 in
theorem dsd6_s5 {Fc : Fence} (hF : Wide Fc) {nC : Nat} (gA oA gB oB n cA cB i : Nat) (d : DT) (Q : Exit → Act → World → Prop) (df : List Deferred) (w0 : World)
    (hi : i < n) (a0 : w0.cell? ⟨gA, oA + i * 4, none⟩ = some (by8 d.P)) (a1 : w0.cell? ⟨gA, oA + i * 4 + 1, none⟩ = some (by8 d.L)) (a2 : w0.cell? ⟨gA, oA + i * 4 + 2, none⟩ = some (.int .u32 (d.S : Nat))) (a3 : w0.cell? ⟨gA, oA + i * 4 + 3, none⟩ = some (.int .i64 d.Z)) (b0 : w0.cell? ⟨gB, oB + i * 4, none⟩ = some (by8 d.P)) (b1 : w0.cell? ⟨gB, oB + i * 4 + 1, none⟩ = some (by8 d.L)) (b2 : w0.cell? ⟨gB, oB + i * 4 + 2, none⟩ = some (.int .u32 (d.S : Nat))) (b3 : w0.cell? ⟨gB, oB + i * 4 + 3, none⟩ = some (.int .i64 d.Z))
    (x : Act) (w : World) (hB : Below w0.heap.size w0 w) (hdef : x.defers = df) (u0 : x.tmps.getD 0 undef = .slice (some ⟨gA, oA, none⟩) n cA) (u1 : x.tmps.getD 1 undef = .slice (some ⟨gB, oB, none⟩) n cB) (u5 : x.tmps.getD 5 undef = .int .i64 (i : Nat))
    : wpOpIn Fc nC Tryz.prog dsd6_ops Q 5 (fun a' w' => ∃ v, a' = x.put (some 22) v ∧ (v = .int .i64 (i : Nat)) ∧ Below w.heap.size w w') x w := by
  have ho : dsd6_ops[5]? = some dsd6_o5 := rfl
  simp only [Array.getD_eq_getD_getElem?] at u0 u1 u5
  refine wpOpIn_plain ho rfl (oper_inK hF.fn (fun K hK => ?_))
  clear ho
  rw [Oper.semAt_plain Fc _ _ (by intro c h; cases h)]
  simp only [dsd6_o5]
  go_simp
  exact hK _ _ ⟨_, act_putD x hdef _ _, rfl, Below.refl _ _⟩
set_option maxRecDepth 100000 in
set_option maxHeartbeats 2000000 in
theorem dsd6_s6 {Fc : Fence} (hF : Wide Fc) {nC : Nat} (gA oA gB oB n cA cB i : Nat) (d : DT) (Q : Exit → Act → World → Prop) (df : List Deferred) (w0 : World)
    (hi : i < n) (a0 : w0.cell? ⟨gA, oA + i * 4, none⟩ = some (by8 d.P)) (a1 : w0.cell? ⟨gA, oA + i * 4 + 1, none⟩ = some (by8 d.L)) (a2 : w0.cell? ⟨gA, oA + i * 4 + 2, none⟩ = some (.int .u32 (d.S : Nat))) (a3 : w0.cell? ⟨gA, oA + i * 4 + 3, none⟩ = some (.int .i64 d.Z)) (b0 : w0.cell? ⟨gB, oB + i * 4, none⟩ = some (by8 d.P)) (b1 : w0.cell? ⟨gB, oB + i * 4 + 1, none⟩ = some (by8 d.L)) (b2 : w0.cell? ⟨gB, oB + i * 4 + 2, none⟩ = some (.int .u32 (d.S : Nat))) (b3 : w0.cell? ⟨gB, oB + i * 4 + 3, none⟩ = some (.int .i64 d.Z))
    (x : Act) (w : World) (hB : Below w0.heap.size w0 w) (hdef : x.defers = df) (u0 : x.tmps.getD 0 undef = .slice (some ⟨gA, oA, none⟩) n cA) (u1 : x.tmps.getD 1 undef = .slice (some ⟨gB, oB, none⟩) n cB) (u5 : x.tmps.getD 5 undef = .int .i64 (i : Nat))
    (p4 : dsd6_val gA oA gB oB n cA cB i d 4 (x.tmps.getD 21 undef) w)
    (p5 : dsd6_val gA oA gB oB n cA cB i d 5 (x.tmps.getD 22 undef) w)
    : wpOpIn Fc nC Tryz.prog dsd6_ops Q 6 (fun a' w' => ∃ v, a' = x.put (some 23) v ∧ (v = .pointer (some ⟨gB, oB + i * 4, none⟩)) ∧ Below w.heap.size w w') x w := by
  have ho : dsd6_ops[6]? = some dsd6_o6 := rfl
  simp only [Array.getD_eq_getD_getElem?] at u0 u1 u5
  have q4 : x.tmps.getD 21 undef = .slice (some ⟨gB, oB, none⟩) n cB := p4
  have q5 : x.tmps.getD 22 undef = .int .i64 (i : Nat) := p5
  simp only [Array.getD_eq_getD_getElem?] at q4 q5
  have i0 : (0 : Int) ≤ (i : Int) := by omega
  have i1 : (i : Int) < (n : Int) := by omega
  refine wpOpIn_plain ho rfl (oper_inK hF.fn (fun K hK => ?_))
  clear ho
  rw [Oper.semAt_plain Fc _ _ (by intro c h; cases h)]
  simp only [dsd6_o6]
  go_simp
  exact hK _ _ ⟨_, act_putD x hdef _ _, rfl, Below.refl _ _⟩
set_option maxRecDepth 100000 in
set_option maxHeartbeats 2000000 in
theorem dsd6_s7 {Fc : Fence} (hF : Wide Fc) {nC : Nat} (gA oA gB oB n cA cB i : Nat) (d : DT) (Q : Exit → Act → World → Prop) (df : List Deferred) (w0 : World)
    (hi : i < n) (a0 : w0.cell? ⟨gA, oA + i * 4, none⟩ = some (by8 d.P)) (a1 : w0.cell? ⟨gA, oA + i * 4 + 1, none⟩ = some (by8 d.L)) (a2 : w0.cell? ⟨gA, oA + i * 4 + 2, none⟩ = some (.int .u32 (d.S : Nat))) (a3 : w0.cell? ⟨gA, oA + i * 4 + 3, none⟩ = some (.int .i64 d.Z)) (b0 : w0.cell? ⟨gB, oB + i * 4, none⟩ = some (by8 d.P)) (b1 : w0.cell? ⟨gB, oB + i * 4 + 1, none⟩ = some (by8 d.L)) (b2 : w0.cell? ⟨gB, oB + i * 4 + 2, none⟩ = some (.int .u32 (d.S : Nat))) (b3 : w0.cell? ⟨gB, oB + i * 4 + 3, none⟩ = some (.int .i64 d.Z))
    (x : Act) (w : World) (hB : Below w0.heap.size w0 w) (hdef : x.defers = df) (u0 : x.tmps.getD 0 undef = .slice (some ⟨gA, oA, none⟩) n cA) (u1 : x.tmps.getD 1 undef = .slice (some ⟨gB, oB, none⟩) n cB) (u5 : x.tmps.getD 5 undef = .int .i64 (i : Nat))
    (p6 : dsd6_val gA oA gB oB n cA cB i d 6 (x.tmps.getD 23 undef) w)
    : wpOpIn Fc nC Tryz.prog dsd6_ops Q 7 (fun a' w' => ∃ v, a' = x.put (some 24) v ∧ (v = .agg #[by8 d.P, by8 d.L, .int .u32 (d.S : Nat), .int .i64 d.Z]) ∧ Below w.heap.size w w') x w := by
  have ho : dsd6_ops[7]? = some dsd6_o7 := rfl
  simp only [Array.getD_eq_getD_getElem?] at u0 u1 u5
  have q6 : x.tmps.getD 23 undef = .pointer (some ⟨gB, oB + i * 4, none⟩) := p6
  simp only [Array.getD_eq_getD_getElem?] at q6
  have m0 := cell_thru b0 hB
  have m1 := cell_thru b1 hB
  have m2 := cell_thru b2 hB
  have m3 := cell_thru b3 hB
  unfold by8 at *
  refine wpOpIn_plain ho rfl (oper_inK hF.fn (fun K hK => ?_))
  clear ho
  rw [Oper.semAt_plain Fc _ _ (by intro c h; cases h)]
  simp only [dsd6_o7]
  go_simp
  exact hK _ _ ⟨_, act_putD x hdef _ _, rfl, Below.refl _ _⟩
set_option maxRecDepth 100000 in
set_option maxHeartbeats 2000000 in
theorem dsd6_s8 {Fc : Fence} (hF : Wide Fc) {nC : Nat} (gA oA gB oB n cA cB i : Nat) (d : DT) (Q : Exit → Act → World → Prop) (df : List Deferred) (w0 : World)
    (hi : i < n) (a0 : w0.cell? ⟨gA, oA + i * 4, none⟩ = some (by8 d.P)) (a1 : w0.cell? ⟨gA, oA + i * 4 + 1, none⟩ = some (by8 d.L)) (a2 : w0.cell? ⟨gA, oA + i * 4 + 2, none⟩ = some (.int .u32 (d.S : Nat))) (a3 : w0.cell? ⟨gA, oA + i * 4 + 3, none⟩ = some (.int .i64 d.Z)) (b0 : w0.cell? ⟨gB, oB + i * 4, none⟩ = some (by8 d.P)) (b1 : w0.cell? ⟨gB, oB + i * 4 + 1, none⟩ = some (by8 d.L)) (b2 : w0.cell? ⟨gB, oB + i * 4 + 2, none⟩ = some (.int .u32 (d.S : Nat))) (b3 : w0.cell? ⟨gB, oB + i * 4 + 3, none⟩ = some (.int .i64 d.Z))
    (x : Act) (w : World) (hB : Below w0.heap.size w0 w) (hdef : x.defers = df) (u0 : x.tmps.getD 0 undef = .slice (some ⟨gA, oA, none⟩) n cA) (u1 : x.tmps.getD 1 undef = .slice (some ⟨gB, oB, none⟩) n cB) (u5 : x.tmps.getD 5 undef = .int .i64 (i : Nat))
    (p3 : dsd6_val gA oA gB oB n cA cB i d 3 (x.tmps.getD 20 undef) w)
    (p7 : dsd6_val gA oA gB oB n cA cB i d 7 (x.tmps.getD 24 undef) w)
    : wpOpIn Fc nC Tryz.prog dsd6_ops Q 8 (fun a' w' => ∃ v, a' = x.put (some 25) v ∧ (v = .bool false) ∧ Below w.heap.size w w') x w := by
  have ho : dsd6_ops[8]? = some dsd6_o8 := rfl
  simp only [Array.getD_eq_getD_getElem?] at u0 u1 u5
  have q3 : x.tmps.getD 20 undef = .agg #[by8 d.P, by8 d.L, .int .u32 (d.S : Nat), .int .i64 d.Z] := p3
  have q7 : x.tmps.getD 24 undef = .agg #[by8 d.P, by8 d.L, .int .u32 (d.S : Nat), .int .i64 d.Z] := p7
  simp only [Array.getD_eq_getD_getElem?] at q3 q7
  unfold by8 at q3 q7
  have mP : (d.P == d.P) = true := beq_self_eq_true _
  have mL : (d.L == d.L) = true := beq_self_eq_true _
  refine wpOpIn_plain ho rfl (oper_inK hF.fn (fun K hK => ?_))
  clear ho
  rw [Oper.semAt_plain Fc _ _ (by intro c h; cases h)]
  simp only [dsd6_o8]
  go_simp
  exact hK _ _ ⟨_, act_putD x hdef _ _, rfl, Below.refl _ _⟩

set_option maxRecDepth 100000 in
set_option maxHeartbeats 4000000 in
theorem dsd6 {Fc : Fence} (hF : Wide Fc) {nC : Nat} (gA oA gB oB n cA cB i : Nat) (d : DT) (Q : Exit → Act → World → Prop) (t0 : Array Value) (df : List Deferred) (w0 : World) (ht : t0.size = 26)
    (hs0 : t0.getD 0 undef = .slice (some ⟨gA, oA, none⟩) n cA) (hs1 : t0.getD 1 undef = .slice (some ⟨gB, oB, none⟩) n cB) (hs5 : t0.getD 5 undef = .int .i64 (i : Nat))
    (hi : i < n) (a0 : w0.cell? ⟨gA, oA + i * 4, none⟩ = some (by8 d.P)) (a1 : w0.cell? ⟨gA, oA + i * 4 + 1, none⟩ = some (by8 d.L)) (a2 : w0.cell? ⟨gA, oA + i * 4 + 2, none⟩ = some (.int .u32 (d.S : Nat))) (a3 : w0.cell? ⟨gA, oA + i * 4 + 3, none⟩ = some (.int .i64 d.Z)) (b0 : w0.cell? ⟨gB, oB + i * 4, none⟩ = some (by8 d.P)) (b1 : w0.cell? ⟨gB, oB + i * 4 + 1, none⟩ = some (by8 d.L)) (b2 : w0.cell? ⟨gB, oB + i * 4 + 2, none⟩ = some (.int .u32 (d.S : Nat))) (b3 : w0.cell? ⟨gB, oB + i * 4 + 3, none⟩ = some (.int .i64 d.Z))
    (hQ : ∀ (vs : Nat → Value) (w : World), Below w0.heap.size w0 w → (vs 25 = .bool false) → Q .normal { tmps := [17, 18, 19, 20, 21, 22, 23, 24, 25].foldl (fun y d => y.setIfInBounds d (vs d)) t0, defers := df } w) :
    (Code.region 6 dsd6_ops true).wpIn Fc nC Tryz.prog Q { tmps := t0, defers := df } w0 := by
  refine wpIn_region_tail 9 (by decide) (by kernel_rfl) (fun a b => Below a.heap.size a b) (dsd6_val gA oA gB oB n cA cB i d) t0 df w0 (by rw [ht]; kernel_rfl) (by kernel_rfl) (by kernel_rfl) (by kernel_rfl) ((Below.refl _ _).drew) (fun _ _ _ h k => h.trans (k.mono h.size)) (dsd6_below gA oA gB oB n cA cB i d) ?_ ?_
  · intro j o ho hj x w hB hdef hsz hs hdeps
    have hs' : ∀ s, ¬ dsd6_mem s → x.tmps.getD s undef = t0.getD s undef := fun s hn => hs s (fun j hj e => hn (by rw [e]; exact dsd6_slots j hj))
    have u0 := (hs' 0 (by decide)).trans hs0
    have u1 := (hs' 1 (by decide)).trans hs1
    have u5 := (hs' 5 (by decide)).trans hs5
    match j, ho, hj with
    | 0, ho, _ =>
      have e : o = dsd6_o0 := (Option.some.inj ho).symm
      subst e
      exact dsd6_s0 hF gA oA gB oB n cA cB i d Q df w0 hi a0 a1 a2 a3 b0 b1 b2 b3 x w hB hdef u0 u1 u5 
    | 1, ho, _ =>
      have e : o = dsd6_o1 := (Option.some.inj ho).symm
      subst e
      exact dsd6_s1 hF gA oA gB oB n cA cB i d Q df w0 hi a0 a1 a2 a3 b0 b1 b2 b3 x w hB hdef u0 u1 u5 
    | 2, ho, _ =>
      have e : o = dsd6_o2 := (Option.some.inj ho).symm
      subst e
      exact dsd6_s2 hF gA oA gB oB n cA cB i d Q df w0 hi a0 a1 a2 a3 b0 b1 b2 b3 x w hB hdef u0 u1 u5 (hdeps { on := 0, ground := Ground.data } (by simp) rfl) (hdeps { on := 1, ground := Ground.data } (by simp) rfl)
    | 3, ho, _ =>
      have e : o = dsd6_o3 := (Option.some.inj ho).symm
      subst e
      exact dsd6_s3 hF gA oA gB oB n cA cB i d Q df w0 hi a0 a1 a2 a3 b0 b1 b2 b3 x w hB hdef u0 u1 u5 (hdeps { on := 2, ground := Ground.data } (by simp) rfl)
    | 4, ho, _ =>
      have e : o = dsd6_o4 := (Option.some.inj ho).symm
      subst e
      exact dsd6_s4 hF gA oA gB oB n cA cB i d Q df w0 hi a0 a1 a2 a3 b0 b1 b2 b3 x w hB hdef u0 u1 u5 
    | 5, ho, _ =>
      have e : o = dsd6_o5 := (Option.some.inj ho).symm
      subst e
      exact dsd6_s5 hF gA oA gB oB n cA cB i d Q df w0 hi a0 a1 a2 a3 b0 b1 b2 b3 x w hB hdef u0 u1 u5 
    | 6, ho, _ =>
      have e : o = dsd6_o6 := (Option.some.inj ho).symm
      subst e
      exact dsd6_s6 hF gA oA gB oB n cA cB i d Q df w0 hi a0 a1 a2 a3 b0 b1 b2 b3 x w hB hdef u0 u1 u5 (hdeps { on := 4, ground := Ground.data } (by simp) rfl) (hdeps { on := 5, ground := Ground.data } (by simp) rfl)
    | 7, ho, _ =>
      have e : o = dsd6_o7 := (Option.some.inj ho).symm
      subst e
      exact dsd6_s7 hF gA oA gB oB n cA cB i d Q df w0 hi a0 a1 a2 a3 b0 b1 b2 b3 x w hB hdef u0 u1 u5 (hdeps { on := 6, ground := Ground.data } (by simp) rfl)
    | 8, ho, _ =>
      have e : o = dsd6_o8 := (Option.some.inj ho).symm
      subst e
      exact dsd6_s8 hF gA oA gB oB n cA cB i d Q df w0 hi a0 a1 a2 a3 b0 b1 b2 b3 x w hB hdef u0 u1 u5 (hdeps { on := 3, ground := Ground.data } (by simp) rfl) (hdeps { on := 7, ground := Ground.data } (by simp) rfl)
    | k + 9, _, hj => omega
  · intro x w hB hdef hsz hs hv
    have hx := frame_sets x.tmps t0 hsz [17, 18, 19, 20, 21, 22, 23, 24, 25] (fun s hn => hs s (fun j hj e => hn (by rw [e]; exact dsd6_slots j hj)))
    have hq := hQ (fun d => x.tmps.getD d undef) w hB (hv 8 (by decide))
    obtain ⟨T, Df⟩ := x
    dsimp only at hx hdef hq
    subst hdef
    rw [← hx] at hq
    exact hq
end Go.Proofs.YtpmldopbjlnknaaGreat

/-
  The kit's FilesOf, SameDocs.
-/
namespace Go.Proofs.YtpmldopbjlnknaaGreat
open Go.RowKit Go.Shelf

theorem docOf_ok (a : Option Addr) (len cap : Nat) (f : Nat → Fil) (w : World) (hlen : len ≤ 140737488355328) (hF : Fils w a len f) (hP : ∀ i, i < len → (f i).P.length ≤ 1000000) (hr : rightF (filesL f len) = true) :
    Calls Tryz.prog 22 #[.slice a len cap] w fun e w' => (∃ v, e = .returned (.tuple #[v, .int .i64 0]) ∧ OwnD w' w.heap.size v ((filesL f len).map docF)) ∧ Below w.heap.size w w' :=
  (docOf_any a len cap f w hlen hF hP).mono fun e w' ⟨h, hb⟩ => by rw [if_pos hr] at h; exact ⟨h, hb⟩
theorem docOf_bad (a : Option Addr) (len cap : Nat) (f : Nat → Fil) (w : World) (hlen : len ≤ 140737488355328) (hF : Fils w a len f) (hP : ∀ i, i < len → (f i).P.length ≤ 1000000) (hr : rightF (filesL f len) = false) :
    Calls Tryz.prog 22 #[.slice a len cap] w fun e w' => e = .returned (.tuple #[.slice none 0 0, .int .i64 2]) ∧ Below w.heap.size w w' :=
  (docOf_any a len cap f w hlen hF hP).mono fun e w' ⟨h, hb⟩ => by rw [hr, if_neg (by decide)] at h; exact ⟨h, hb⟩
theorem rightFiles_l (a : Option Addr) (len cap : Nat) (f : Nat → Fil) (w : World) (hlen : len ≤ 140737488355328) (hF : Fils w a len f) (hP : ∀ i, i < len → (f i).P.length ≤ 1000000) :
    Calls Tryz.prog 20 #[.slice a len cap] w fun e w' => e = .returned (.bool (rightF (filesL f len))) ∧ Below w.heap.size w w' := by
  rw [rightF_eq]
  exact rightFiles_any a len cap f w hlen hF.row hP
theorem rightDocs_l (a : Option Addr) (cap : Nat) (ds : List DT) (w : World) (hlen : ds.length ≤ 140737488355328) (hD : Docs w a ds) (hP : ∀ d ∈ ds, d.P.length ≤ 1000000) :
    Calls Tryz.prog 10 #[.slice a ds.length cap] w fun e w' => e = .returned (.bool (rightD ds)) ∧ Below w.heap.size w w' := by
  have h := rightDocs_any a ds.length cap (dAt ds) w hlen hD.row (fun i hi => hP _ (dAt_mem hi))
  rwa [← rightD_eq, docsN_at] at h
theorem docPut_ok (a : Option Addr) (cap : Nat) (ds : List DT) (w : World) (hlen : ds.length ≤ 140737488355328) (hD : Docs w a ds) (hP : ∀ d ∈ ds, d.P.length ≤ 1000000) (hS : ∀ d ∈ ds, d.S < 4294967296) (hr : rightD ds = true) :
    Calls Tryz.prog 8 #[.slice a ds.length cap] w fun e w' => (∃ v, e = .returned (.tuple #[v, .int .i64 0]) ∧ w'.ownsRow w.heap.size 5 1 v (tableD ds).length (lc (tableD ds))) ∧ Below w.heap.size w w' := by
  have h := docPut_any a ds.length cap (dAt ds) w hlen hD.row (fun i hi => hP _ (dAt_mem hi)) (fun i hi => hS _ (dAt_mem hi))
  rw [docsN_at] at h
  exact h.mono fun e w' ⟨h, hb⟩ => by rw [if_pos hr] at h; exact ⟨h, hb⟩
theorem docPut_bad (a : Option Addr) (cap : Nat) (ds : List DT) (w : World) (hlen : ds.length ≤ 140737488355328) (hD : Docs w a ds) (hP : ∀ d ∈ ds, d.P.length ≤ 1000000) (hS : ∀ d ∈ ds, d.S < 4294967296) (hr : rightD ds = false) :
    Calls Tryz.prog 8 #[.slice a ds.length cap] w fun e w' => e = .returned (.tuple #[.slice none 0 0, .int .i64 2]) ∧ Below w.heap.size w w' := by
  have h := docPut_any a ds.length cap (dAt ds) w hlen hD.row (fun i hi => hP _ (dAt_mem hi)) (fun i hi => hS _ (dAt_mem hi))
  rw [docsN_at] at h
  exact h.mono fun e w' ⟨h, hb⟩ => by rw [hr, if_neg (by decide)] at h; exact ⟨h, hb⟩
theorem find_l (a : Option Addr) (cap : Nat) (ds : List DT) (p : List UInt8) (w : World) (hlen : ds.length ≤ 140737488355328) (hD : Docs w a ds) :
    Calls Tryz.prog 13 #[.slice a ds.length cap, by8 p] w fun e w' => e = .returned (.int .i64 (findN p 0 (ds.map DT.P))) ∧ Below w.heap.size w w' := by
  have h := callsIn_wide.1 (find_in 40 (by omega) a ds.length cap (dAt ds) p w hlen hD.row)
  have e : pathsN (fun i => (dAt ds i).P) ds.length = ds.map DT.P := by
    conv => rhs; rw [← docsN_at ds]
    unfold pathsN docsN
    rw [List.map_map]
    rfl
  rwa [e] at h
/-- How much files are. -/
def cntF (f : Nat → Fil) : Nat → Nat
  | 0 => 0
  | k + 1 => cntF f k + 1 + (f k).P.length + (f k).B.length
theorem cntF_le (f : Nat → Fil) : ∀ n, n ≤ cntF f n ∧ ∀ i, i < n → (f i).P.length ≤ cntF f n ∧ (f i).B.length ≤ cntF f n
  | 0 => ⟨Nat.le_refl _, fun i h => by omega⟩
  | n + 1 => by
    obtain ⟨h1, h2⟩ := cntF_le f n
    have e : cntF f (n + 1) = cntF f n + 1 + (f n).P.length + (f n).B.length := rfl
    refine ⟨by omega, fun i hi => ?_⟩
    rcases Nat.lt_or_ge i n with h | h
    · have := h2 i h; omega
    · obtain rfl : i = n := by omega
      omega
set_option maxRecDepth 100000 in
set_option maxHeartbeats 2000000 in
theorem filesOf_any (a : Option Addr) (n ca : Nat) (f : Nat → Fil) (w : World) (hn : n ≤ 140737488351232) (ha : Fils w a n f) (hl : ∀ i, i < n → (f i).P.length ≤ 140737488351232 ∧ (f i).B.length ≤ 140737488351232) :
    Calls Tryz.prog 43 #[.slice a n ca, .int .i64 4000] w fun e w' => (∃ r : Nat, e = .returned (.int .i64 (r : Nat)) ∧ (r ≤ 4000 → cntF f n = r)) ∧ Below w.heap.size w w' := by
  have HA := hide ha
  have HL := hide hl
  clear ha hl
  go_enter Tryz.func43, Tryz.ntmps43
  go_wp2_with fail
  go_loopg [5, 6] n (fun q s5 s6 wr => ∃ k c : Nat, k + q = n ∧ s6 = .int .i64 k ∧ s5 = .int .i64 c ∧ cntF f k = c ∧ Below w.heap.size w wr)
  case atStart => exact ⟨0, 0, by omega, rfl, rfl, rfl, Below.refl _ _⟩
  case round =>
    obtain ⟨k, c, hkq, rfl, rfl, hc, hB⟩ := hrel
    have HC := hide (And.intro hc hB)
    clear hc
    cases gk with
    | zero =>
      obtain rfl : k = n := by omega
      clear hB
      go_wp2_with fail
      go_ret
      exact ⟨⟨c, rfl, fun _ => HC.out.1⟩, HC.out.2⟩
    | succ q =>
      have hkn : k < n := by omega
      have hkz : (k : Int) < (n : Int) := by omega
      by_cases hm : c ≤ 4000
      · have hmz : (c : Int) ≤ 4000 := by omega
        obtain ⟨ga, oa, rfl, ⟨x0, x1⟩, _⟩ := (HA.out.below hB).cells k hkn
        have hll := hide (HL.out k hkn)
        have HS := hide (show cntF f (k + 1) = c + 1 + (f k).P.length + (f k).B.length by show cntF f k + 1 + _ + _ = _; rw [HC.out.1])
        clear hB
        go_wp2_with fail
        refine (wpIn_wide (n := 0)).1 (dfo5 wide_plain ga oa n ca k c (f k).P (f k).pB (f k).B (f k).cB _ _ _ _ rfl rfl rfl rfl hkn hm hll.out.1 hll.out.2 x0 x1 ?_)
        intro vs W5 hb5 h33
        simp only [List.foldl_cons, List.foldl_nil, List.setIfInBounds_toArray, List.set_cons_succ, List.set_cons_zero]
        rw [h33]
        have H5 := hide (HC.out.2.trans (hb5.mono HC.out.2.size))
        clear h33 hb5 x0 x1
        refine wpOpIn_plain (o := dfo5_ops[16]) rfl rfl (oper_inK (fun _ => trivial) (fun K hK => ?_))
        rw [Oper.semAt_plain Fence.wide _ _ (by intro c h; cases h)]
        simp only [dfo5_ops, dfo5_o16]
        go_simp
        refine hK _ _ ?_
        clear hK K
        go_wp2_with fail
        go_roundg q
        case measure => omega
        case rel => exact ⟨k + 1, c + 1 + (f k).P.length + (f k).B.length, by omega, by go_num, by congr 1, HS.out, H5.out⟩
      · have hmz : (4000 : Int) < (c : Int) := by omega
        clear hB
        go_wp2_with fail
        go_ret
        exact ⟨⟨c, rfl, fun h => by omega⟩, HC.out.2⟩
set_option maxRecDepth 100000 in
set_option maxHeartbeats 2000000 in
theorem sameDocs_any (a b : Option Addr) (ca cb : Nat) (ds : List DT) (w : World) (hn : ds.length ≤ 140737488351232) (ha : Docs w a ds) (hb : Docs w b ds) :
    Calls Tryz.prog 45 #[.slice a ds.length ca, .slice b ds.length cb] w fun e w' => e = .returned (.bool true) ∧ Below w.heap.size w w' := by
  have HA := hide ha.row
  have HB := hide hb.row
  obtain ⟨n, hnn⟩ : ∃ n, ds.length = n := ⟨_, rfl⟩
  rw [hnn] at hn HA HB ⊢
  clear ha hb hnn
  go_enter Tryz.func45, Tryz.ntmps45
  go_wp2_with fail
  go_loopg [5] n (fun q s5 wr => ∃ k : Nat, k + q = n ∧ s5 = .int .i64 k ∧ Below w.heap.size w wr)
  case atStart => exact ⟨0, by omega, rfl, Below.refl _ _⟩
  case round =>
    obtain ⟨k, hkq, rfl, hB⟩ := hrel
    have HC := hide hB
    cases gk with
    | zero =>
      obtain rfl : k = n := by omega
      clear hB
      go_wp2_with fail
      go_ret
      exact ⟨rfl, HC.out⟩
    | succ q =>
      have hkn : k < n := by omega
      have hkz : (k : Int) < (n : Int) := by omega
      obtain ⟨ga, oa, rfl, a0, a1, a2, a3⟩ := (HA.out.below hB).at4 hkn
      obtain ⟨gb, ob, rfl, b0, b1, b2, b3⟩ := (HB.out.below hB).at4 hkn
      clear hB
      go_wp2_with fail
      refine (wpIn_wide (n := 0)).1 (dsd6 wide_plain ga oa gb ob n ca cb k (dAt ds k) _ _ _ _ rfl rfl rfl rfl hkn a0 a1 a2 a3 b0 b1 b2 b3 ?_)
      intro vs W5 hb5 h25
      simp only [List.foldl_cons, List.foldl_nil, List.setIfInBounds_toArray, List.set_cons_succ, List.set_cons_zero]
      rw [h25]
      have H5 := hide (HC.out.trans (hb5.mono HC.out.size))
      clear h25 hb5 a0 a1 a2 a3 b0 b1 b2 b3
      go_wp2_with fail
      go_roundg q
      case measure => omega
      case rel => exact ⟨k + 1, by omega, by go_num, H5.out⟩
end Go.Proofs.YtpmldopbjlnknaaGreat
