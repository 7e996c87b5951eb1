/-
  GramSmall's drawn region (written by tools/gen-gsmall.py).
-/
import Derived.Test.YtpdlapnliiengaaGreatRegT
namespace Go.Proofs.YtpdlapnliiengaaGreat
open Go.RowKit
set_option linter.unusedVariables false
set_option linter.unusedSimpArgs false

abbrev gsmR_o0 : Oper := { dst := some 43, op := Op.move (Operand.tmp 5), type := 22, pos := "law.go:51", after := #[], guard := none }
abbrev gsmR_o1 : Oper := { dst := some 44, op := Op.move (Operand.tmp 6), type := 3, pos := "law.go:51", after := #[], guard := none }
abbrev gsmR_o2 : Oper := { dst := some 45, op := Op.binOp BinOp.rem 3 (Operand.tmp 44) (Operand.const (Value.int IntKind.i64 5)) 3, type := 3, pos := "law.go:51", after := #[{ on := 1, ground := Ground.data }], guard := none }
abbrev gsmR_o3 : Oper := { dst := some 46, op := Op.indexAddr 22 (Operand.tmp 43) (Operand.tmp 45), type := 0, pos := "law.go:51", after := #[{ on := 0, ground := Ground.data }, { on := 2, ground := Ground.data }], guard := none }
abbrev gsmR_o4 : Oper := { dst := some 47, op := Op.load 5 (Operand.tmp 46), type := 5, pos := "law.go:51", after := #[{ on := 3, ground := Ground.data }], guard := none }
abbrev gsmR_o5 : Oper := { dst := some 48, op := Op.move (Operand.tmp 5), type := 22, pos := "law.go:51", after := #[], guard := none }
abbrev gsmR_o6 : Oper := { dst := some 49, op := Op.move (Operand.tmp 6), type := 3, pos := "law.go:51", after := #[], guard := none }
abbrev gsmR_o7 : Oper := { dst := some 50, op := Op.binOp BinOp.quo 3 (Operand.tmp 49) (Operand.const (Value.int IntKind.i64 5)) 3, type := 3, pos := "law.go:51", after := #[{ on := 6, ground := Ground.data }], guard := none }
abbrev gsmR_o8 : Oper := { dst := some 51, op := Op.binOp BinOp.rem 3 (Operand.tmp 50) (Operand.const (Value.int IntKind.i64 5)) 3, type := 3, pos := "law.go:51", after := #[{ on := 7, ground := Ground.data }], guard := none }
abbrev gsmR_o9 : Oper := { dst := some 52, op := Op.indexAddr 22 (Operand.tmp 48) (Operand.tmp 51), type := 0, pos := "law.go:51", after := #[{ on := 5, ground := Ground.data }, { on := 8, ground := Ground.data }], guard := none }
abbrev gsmR_o10 : Oper := { dst := some 53, op := Op.load 5 (Operand.tmp 52), type := 5, pos := "law.go:51", after := #[{ on := 9, ground := Ground.data }], guard := none }
abbrev gsmR_o11 : Oper := { dst := some 54, op := Op.move (Operand.tmp 5), type := 22, pos := "law.go:51", after := #[], guard := none }
abbrev gsmR_o12 : Oper := { dst := some 55, op := Op.move (Operand.tmp 6), type := 3, pos := "law.go:51", after := #[], guard := none }
abbrev gsmR_o13 : Oper := { dst := some 56, op := Op.binOp BinOp.quo 3 (Operand.tmp 55) (Operand.const (Value.int IntKind.i64 25)) 3, type := 3, pos := "law.go:51", after := #[{ on := 12, ground := Ground.data }], guard := none }
abbrev gsmR_o14 : Oper := { dst := some 57, op := Op.binOp BinOp.rem 3 (Operand.tmp 56) (Operand.const (Value.int IntKind.i64 5)) 3, type := 3, pos := "law.go:51", after := #[{ on := 13, ground := Ground.data }], guard := none }
abbrev gsmR_o15 : Oper := { dst := some 58, op := Op.indexAddr 22 (Operand.tmp 54) (Operand.tmp 57), type := 0, pos := "law.go:51", after := #[{ on := 11, ground := Ground.data }, { on := 14, ground := Ground.data }], guard := none }
abbrev gsmR_o16 : Oper := { dst := some 59, op := Op.load 5 (Operand.tmp 58), type := 5, pos := "law.go:51", after := #[{ on := 15, ground := Ground.data }], guard := none }
abbrev gsmR_o17 : Oper := { dst := some 60, op := Op.move (Operand.tmp 5), type := 22, pos := "law.go:51", after := #[], guard := none }
abbrev gsmR_o18 : Oper := { dst := some 61, op := Op.move (Operand.tmp 6), type := 3, pos := "law.go:51", after := #[], guard := none }
abbrev gsmR_o19 : Oper := { dst := some 62, op := Op.binOp BinOp.quo 3 (Operand.tmp 61) (Operand.const (Value.int IntKind.i64 125)) 3, type := 3, pos := "law.go:51", after := #[{ on := 18, ground := Ground.data }], guard := none }
abbrev gsmR_o20 : Oper := { dst := some 63, op := Op.indexAddr 22 (Operand.tmp 60) (Operand.tmp 62), type := 0, pos := "law.go:51", after := #[{ on := 17, ground := Ground.data }, { on := 19, ground := Ground.data }], guard := none }
abbrev gsmR_o21 : Oper := { dst := some 64, op := Op.load 5 (Operand.tmp 63), type := 5, pos := "law.go:51", after := #[{ on := 20, ground := Ground.data }], guard := none }
abbrev gsmR_o22 : Oper := { dst := some 65, op := Op.buildSlice 22 4 #[(0, Operand.tmp 47), (1, Operand.tmp 53), (2, Operand.tmp 59), (3, Operand.tmp 64)], type := 22, pos := "law.go:51", after := #[{ on := 4, ground := Ground.data }, { on := 10, ground := Ground.data }, { on := 16, ground := Ground.data }, { on := 21, ground := Ground.data }], guard := none }
abbrev gsmR_o23 : Oper := { dst := some 7, op := Op.assign (Operand.tmp 65), type := 22, pos := "law.go:51", after := #[{ on := 22, ground := Ground.data }, { on := 0, ground := Ground.phase }, { on := 1, ground := Ground.phase }, { on := 2, ground := Ground.phase }, { on := 3, ground := Ground.phase }, { on := 4, ground := Ground.phase }, { on := 5, ground := Ground.phase }, { on := 6, ground := Ground.phase }, { on := 7, ground := Ground.phase }, { on := 8, ground := Ground.phase }, { on := 9, ground := Ground.phase }, { on := 10, ground := Ground.phase }, { on := 11, ground := Ground.phase }, { on := 12, ground := Ground.phase }, { on := 13, ground := Ground.phase }, { on := 14, ground := Ground.phase }, { on := 15, ground := Ground.phase }, { on := 16, ground := Ground.phase }, { on := 17, ground := Ground.phase }, { on := 18, ground := Ground.phase }, { on := 19, ground := Ground.phase }, { on := 20, ground := Ground.phase }, { on := 21, ground := Ground.phase }, { on := 22, ground := Ground.phase }], guard := none }
def gsmR_ops : Array Oper := #[gsmR_o0, gsmR_o1, gsmR_o2, gsmR_o3, gsmR_o4, gsmR_o5, gsmR_o6, gsmR_o7, gsmR_o8, gsmR_o9, gsmR_o10, gsmR_o11, gsmR_o12, gsmR_o13, gsmR_o14, gsmR_o15, gsmR_o16, gsmR_o17, gsmR_o18, gsmR_o19, gsmR_o20, gsmR_o21, gsmR_o22, gsmR_o23]
abbrev gsmR_mem (s : Nat) : Prop := s ∈ [43, 44, 45, 46, 47, 48, 49, 50, 51, 52, 53, 54, 55, 56, 57, 58, 59, 60, 61, 62, 63, 64, 65]
set_option maxRecDepth 100000 in
theorem gsmR_slots : ∀ j, j < 23 → gsmR_mem (slotOf gsmR_ops j) := by
  intro j hj
  match j, hj with
  | 0, _ => exact (by decide : gsmR_mem 43)
  | 1, _ => exact (by decide : gsmR_mem 44)
  | 2, _ => exact (by decide : gsmR_mem 45)
  | 3, _ => exact (by decide : gsmR_mem 46)
  | 4, _ => exact (by decide : gsmR_mem 47)
  | 5, _ => exact (by decide : gsmR_mem 48)
  | 6, _ => exact (by decide : gsmR_mem 49)
  | 7, _ => exact (by decide : gsmR_mem 50)
  | 8, _ => exact (by decide : gsmR_mem 51)
  | 9, _ => exact (by decide : gsmR_mem 52)
  | 10, _ => exact (by decide : gsmR_mem 53)
  | 11, _ => exact (by decide : gsmR_mem 54)
  | 12, _ => exact (by decide : gsmR_mem 55)
  | 13, _ => exact (by decide : gsmR_mem 56)
  | 14, _ => exact (by decide : gsmR_mem 57)
  | 15, _ => exact (by decide : gsmR_mem 58)
  | 16, _ => exact (by decide : gsmR_mem 59)
  | 17, _ => exact (by decide : gsmR_mem 60)
  | 18, _ => exact (by decide : gsmR_mem 61)
  | 19, _ => exact (by decide : gsmR_mem 62)
  | 20, _ => exact (by decide : gsmR_mem 63)
  | 21, _ => exact (by decide : gsmR_mem 64)
  | 22, _ => exact (by decide : gsmR_mem 65)
  | k + 23, hj => omega
def gsmR_val (G n r0 q1 r1 q2 r2 q3 c0 c1 c2 c3 : Nat) : Nat → Value → World → Prop
  | 0, v, w => v = .slice (some ⟨G, 0, none⟩) 5 5
  | 1, v, w => v = .int .i64 (n : Nat)
  | 2, v, w => v = .int .i64 (r0 : Nat)
  | 3, v, w => v = .pointer (some ⟨G, r0, none⟩)
  | 4, v, w => v = .int .u8 (c0 : Nat)
  | 5, v, w => v = .slice (some ⟨G, 0, none⟩) 5 5
  | 6, v, w => v = .int .i64 (n : Nat)
  | 7, v, w => v = .int .i64 (q1 : Nat)
  | 8, v, w => v = .int .i64 (r1 : Nat)
  | 9, v, w => v = .pointer (some ⟨G, r1, none⟩)
  | 10, v, w => v = .int .u8 (c1 : Nat)
  | 11, v, w => v = .slice (some ⟨G, 0, none⟩) 5 5
  | 12, v, w => v = .int .i64 (n : Nat)
  | 13, v, w => v = .int .i64 (q2 : Nat)
  | 14, v, w => v = .int .i64 (r2 : Nat)
  | 15, v, w => v = .pointer (some ⟨G, r2, none⟩)
  | 16, v, w => v = .int .u8 (c2 : Nat)
  | 17, v, w => v = .slice (some ⟨G, 0, none⟩) 5 5
  | 18, v, w => v = .int .i64 (n : Nat)
  | 19, v, w => v = .int .i64 (q3 : Nat)
  | 20, v, w => v = .pointer (some ⟨G, q3, none⟩)
  | 21, v, w => v = .int .u8 (c3 : Nat)
  | 22, v, w => ∃ g, v = .slice (some ⟨g, 0, none⟩) 4 4 ∧ w.heap[g]? = some (.cells #[.int .u8 (c0 : Nat), .int .u8 (c1 : Nat), .int .u8 (c2 : Nat), .int .u8 (c3 : Nat)] 5 (0, 0))
  | _, _, _ => True
theorem gsmR_below (G n r0 q1 r1 q2 r2 q3 c0 c1 c2 c3 : Nat) (w w' : World) (hb : Below w.heap.size w w') : ∀ j v, gsmR_val G n r0 q1 r1 q2 r2 q3 c0 c1 c2 c3 j v w → gsmR_val G n r0 q1 r1 q2 r2 q3 c0 c1 c2 c3 j v w' := by
  intro j v h
  match j, h with
  | 0, h => exact h
  | 1, h => exact h
  | 2, h => exact h
  | 3, h => exact h
  | 4, h => exact h
  | 5, h => exact h
  | 6, h => exact h
  | 7, h => exact h
  | 8, h => exact h
  | 9, h => exact h
  | 10, h => exact h
  | 11, h => exact h
  | 12, h => exact h
  | 13, h => exact h
  | 14, h => exact h
  | 15, h => exact h
  | 16, h => exact h
  | 17, h => exact h
  | 18, h => exact h
  | 19, h => exact h
  | 20, h => exact h
  | 21, h => exact h
  | 22, h => obtain ⟨g, h1, h2⟩ := h; exact ⟨g, h1, (hb.block g (block_lt h2)).trans h2⟩
  | _ + 23, h => exact h
set_option maxRecDepth 100000 in
set_option maxHeartbeats 2000000 in
theorem gsmR_s0 {Fc : Fence} (hF : Wide Fc) {nC : Nat} (G n r0 q1 r1 q2 r2 q3 c0 c1 c2 c3 : Nat) (Q : Exit → Act → World → Prop) (df : List Deferred) (w0 : World)
    (hn : Hid (n < 625)) (h0 : Hid (n % 5 = r0)) (k1 : Hid (n / 5 = q1)) (h1 : Hid (q1 % 5 = r1)) (k2 : Hid (n / 25 = q2)) (h2 : Hid (q2 % 5 = r2)) (k3 : Hid (n / 125 = q3)) (e0 : w0.cell? ⟨G, r0, none⟩ = some (.int .u8 (c0 : Nat))) (e1 : w0.cell? ⟨G, r1, none⟩ = some (.int .u8 (c1 : Nat))) (e2 : w0.cell? ⟨G, r2, none⟩ = some (.int .u8 (c2 : Nat))) (e3 : w0.cell? ⟨G, q3, none⟩ = some (.int .u8 (c3 : Nat)))
    (x : Act) (w : World) (hB : Below w0.heap.size w0 w) (hdef : x.defers = df) (u5 : x.tmps.getD 5 undef = .slice (some ⟨G, 0, none⟩) 5 5) (u6 : x.tmps.getD 6 undef = .int .i64 (n : Nat))
    : wpOpIn Fc nC Tryz.prog gsmR_ops Q 0 (fun a' w' => ∃ v, a' = x.put (some 43) v ∧ (v = .slice (some ⟨G, 0, none⟩) 5 5) ∧ Below w.heap.size w w') x w := by
  have ho : gsmR_ops[0]? = some gsmR_o0 := rfl
  simp only [Array.getD_eq_getD_getElem?] at u5 u6
  refine wpOpIn_plain ho rfl (oper_inK hF.fn (fun K hK => ?_))
  clear ho
  rw [Oper.semAt_plain Fc _ _ (by intro c h; cases h)]
  simp only [gsmR_o0]
  go_simp
  exact hK _ _ ⟨_, act_putD x hdef _ _, rfl, Below.refl _ _⟩
set_option maxRecDepth 100000 in
set_option maxHeartbeats 2000000 in
theorem gsmR_s1 {Fc : Fence} (hF : Wide Fc) {nC : Nat} (G n r0 q1 r1 q2 r2 q3 c0 c1 c2 c3 : Nat) (Q : Exit → Act → World → Prop) (df : List Deferred) (w0 : World)
    (hn : Hid (n < 625)) (h0 : Hid (n % 5 = r0)) (k1 : Hid (n / 5 = q1)) (h1 : Hid (q1 % 5 = r1)) (k2 : Hid (n / 25 = q2)) (h2 : Hid (q2 % 5 = r2)) (k3 : Hid (n / 125 = q3)) (e0 : w0.cell? ⟨G, r0, none⟩ = some (.int .u8 (c0 : Nat))) (e1 : w0.cell? ⟨G, r1, none⟩ = some (.int .u8 (c1 : Nat))) (e2 : w0.cell? ⟨G, r2, none⟩ = some (.int .u8 (c2 : Nat))) (e3 : w0.cell? ⟨G, q3, none⟩ = some (.int .u8 (c3 : Nat)))
    (x : Act) (w : World) (hB : Below w0.heap.size w0 w) (hdef : x.defers = df) (u5 : x.tmps.getD 5 undef = .slice (some ⟨G, 0, none⟩) 5 5) (u6 : x.tmps.getD 6 undef = .int .i64 (n : Nat))
    : wpOpIn Fc nC Tryz.prog gsmR_ops Q 1 (fun a' w' => ∃ v, a' = x.put (some 44) v ∧ (v = .int .i64 (n : Nat)) ∧ Below w.heap.size w w') x w := by
  have ho : gsmR_ops[1]? = some gsmR_o1 := rfl
  simp only [Array.getD_eq_getD_getElem?] at u5 u6
  refine wpOpIn_plain ho rfl (oper_inK hF.fn (fun K hK => ?_))
  clear ho
  rw [Oper.semAt_plain Fc _ _ (by intro c h; cases h)]
  simp only [gsmR_o1]
  go_simp
  exact hK _ _ ⟨_, act_putD x hdef _ _, rfl, Below.refl _ _⟩
set_option maxRecDepth 100000 in
set_option maxHeartbeats 2000000 in
theorem gsmR_s2 {Fc : Fence} (hF : Wide Fc) {nC : Nat} (G n r0 q1 r1 q2 r2 q3 c0 c1 c2 c3 : Nat) (Q : Exit → Act → World → Prop) (df : List Deferred) (w0 : World)
    (hn : Hid (n < 625)) (h0 : Hid (n % 5 = r0)) (k1 : Hid (n / 5 = q1)) (h1 : Hid (q1 % 5 = r1)) (k2 : Hid (n / 25 = q2)) (h2 : Hid (q2 % 5 = r2)) (k3 : Hid (n / 125 = q3)) (e0 : w0.cell? ⟨G, r0, none⟩ = some (.int .u8 (c0 : Nat))) (e1 : w0.cell? ⟨G, r1, none⟩ = some (.int .u8 (c1 : Nat))) (e2 : w0.cell? ⟨G, r2, none⟩ = some (.int .u8 (c2 : Nat))) (e3 : w0.cell? ⟨G, q3, none⟩ = some (.int .u8 (c3 : Nat)))
    (x : Act) (w : World) (hB : Below w0.heap.size w0 w) (hdef : x.defers = df) (u5 : x.tmps.getD 5 undef = .slice (some ⟨G, 0, none⟩) 5 5) (u6 : x.tmps.getD 6 undef = .int .i64 (n : Nat))
    (p1 : gsmR_val G n r0 q1 r1 q2 r2 q3 c0 c1 c2 c3 1 (x.tmps.getD 44 undef) w)
    : wpOpIn Fc nC Tryz.prog gsmR_ops Q 2 (fun a' w' => ∃ v, a' = x.put (some 45) v ∧ (v = .int .i64 (r0 : Nat)) ∧ Below w.heap.size w w') x w := by
  have ho : gsmR_ops[2]? = some gsmR_o2 := rfl
  simp only [Array.getD_eq_getD_getElem?] at u5 u6
  have q1 : x.tmps.getD 44 undef = .int .i64 (n : Nat) := p1
  simp only [Array.getD_eq_getD_getElem?] at q1
  have m : Int.tmod (n : Int) 5 = (r0 : Int) := by rw [Int.tmod_eq_emod_of_nonneg (by omega)]; have := h0.out; omega
  have m2 : (n : Int) % 5 = (r0 : Int) := by have := h0.out; omega
  refine wpOpIn_plain ho rfl (oper_inK hF.fn (fun K hK => ?_))
  clear ho
  rw [Oper.semAt_plain Fc _ _ (by intro c h; cases h)]
  simp only [gsmR_o2]
  go_simp
  exact hK _ _ ⟨_, act_putD x hdef _ _, rfl, Below.refl _ _⟩
set_option maxRecDepth 100000 in
set_option maxHeartbeats 2000000 in
theorem gsmR_s3 {Fc : Fence} (hF : Wide Fc) {nC : Nat} (G n r0 q1 r1 q2 r2 q3 c0 c1 c2 c3 : Nat) (Q : Exit → Act → World → Prop) (df : List Deferred) (w0 : World)
    (hn : Hid (n < 625)) (h0 : Hid (n % 5 = r0)) (k1 : Hid (n / 5 = q1)) (h1 : Hid (q1 % 5 = r1)) (k2 : Hid (n / 25 = q2)) (h2 : Hid (q2 % 5 = r2)) (k3 : Hid (n / 125 = q3)) (e0 : w0.cell? ⟨G, r0, none⟩ = some (.int .u8 (c0 : Nat))) (e1 : w0.cell? ⟨G, r1, none⟩ = some (.int .u8 (c1 : Nat))) (e2 : w0.cell? ⟨G, r2, none⟩ = some (.int .u8 (c2 : Nat))) (e3 : w0.cell? ⟨G, q3, none⟩ = some (.int .u8 (c3 : Nat)))
    (x : Act) (w : World) (hB : Below w0.heap.size w0 w) (hdef : x.defers = df) (u5 : x.tmps.getD 5 undef = .slice (some ⟨G, 0, none⟩) 5 5) (u6 : x.tmps.getD 6 undef = .int .i64 (n : Nat))
    (p0 : gsmR_val G n r0 q1 r1 q2 r2 q3 c0 c1 c2 c3 0 (x.tmps.getD 43 undef) w)
    (p2 : gsmR_val G n r0 q1 r1 q2 r2 q3 c0 c1 c2 c3 2 (x.tmps.getD 45 undef) w)
    : wpOpIn Fc nC Tryz.prog gsmR_ops Q 3 (fun a' w' => ∃ v, a' = x.put (some 46) v ∧ (v = .pointer (some ⟨G, r0, none⟩)) ∧ Below w.heap.size w w') x w := by
  have ho : gsmR_ops[3]? = some gsmR_o3 := rfl
  simp only [Array.getD_eq_getD_getElem?] at u5 u6
  have q0 : x.tmps.getD 43 undef = .slice (some ⟨G, 0, none⟩) 5 5 := p0
  have q2 : x.tmps.getD 45 undef = .int .i64 (r0 : Nat) := p2
  simp only [Array.getD_eq_getD_getElem?] at q0 q2
  have i0 : (0 : Int) ≤ (r0 : Int) := by omega
  have i1 : (r0 : Int) < 5 := by have := hn.out; have := h0.out; have := k1.out; have := h1.out; have := k2.out; have := h2.out; have := k3.out; omega
  refine wpOpIn_plain ho rfl (oper_inK hF.fn (fun K hK => ?_))
  clear ho
  rw [Oper.semAt_plain Fc _ _ (by intro c h; cases h)]
  simp only [gsmR_o3]
  go_simp
  exact hK _ _ ⟨_, act_putD x hdef _ _, rfl, Below.refl _ _⟩
set_option maxRecDepth 100000 in
set_option maxHeartbeats 2000000 in
theorem gsmR_s4 {Fc : Fence} (hF : Wide Fc) {nC : Nat} (G n r0 q1 r1 q2 r2 q3 c0 c1 c2 c3 : Nat) (Q : Exit → Act → World → Prop) (df : List Deferred) (w0 : World)
    (hn : Hid (n < 625)) (h0 : Hid (n % 5 = r0)) (k1 : Hid (n / 5 = q1)) (h1 : Hid (q1 % 5 = r1)) (k2 : Hid (n / 25 = q2)) (h2 : Hid (q2 % 5 = r2)) (k3 : Hid (n / 125 = q3)) (e0 : w0.cell? ⟨G, r0, none⟩ = some (.int .u8 (c0 : Nat))) (e1 : w0.cell? ⟨G, r1, none⟩ = some (.int .u8 (c1 : Nat))) (e2 : w0.cell? ⟨G, r2, none⟩ = some (.int .u8 (c2 : Nat))) (e3 : w0.cell? ⟨G, q3, none⟩ = some (.int .u8 (c3 : Nat)))
    (x : Act) (w : World) (hB : Below w0.heap.size w0 w) (hdef : x.defers = df) (u5 : x.tmps.getD 5 undef = .slice (some ⟨G, 0, none⟩) 5 5) (u6 : x.tmps.getD 6 undef = .int .i64 (n : Nat))
    (p3 : gsmR_val G n r0 q1 r1 q2 r2 q3 c0 c1 c2 c3 3 (x.tmps.getD 46 undef) w)
    : wpOpIn Fc nC Tryz.prog gsmR_ops Q 4 (fun a' w' => ∃ v, a' = x.put (some 47) v ∧ (v = .int .u8 (c0 : Nat)) ∧ Below w.heap.size w w') x w := by
  have ho : gsmR_ops[4]? = some gsmR_o4 := rfl
  simp only [Array.getD_eq_getD_getElem?] at u5 u6
  have q3 : x.tmps.getD 46 undef = .pointer (some ⟨G, r0, none⟩) := p3
  simp only [Array.getD_eq_getD_getElem?] at q3
  have u := cell_thru e0 hB
  refine wpOpIn_plain ho rfl (oper_inK hF.fn (fun K hK => ?_))
  clear ho
  rw [Oper.semAt_plain Fc _ _ (by intro c h; cases h)]
  simp only [gsmR_o4]
  go_simp
  exact hK _ _ ⟨_, act_putD x hdef _ _, rfl, Below.refl _ _⟩
set_option maxRecDepth 100000 in
set_option maxHeartbeats 2000000 in
theorem gsmR_s5 {Fc : Fence} (hF : Wide Fc) {nC : Nat} (G n r0 q1 r1 q2 r2 q3 c0 c1 c2 c3 : Nat) (Q : Exit → Act → World → Prop) (df : List Deferred) (w0 : World)
    (hn : Hid (n < 625)) (h0 : Hid (n % 5 = r0)) (k1 : Hid (n / 5 = q1)) (h1 : Hid (q1 % 5 = r1)) (k2 : Hid (n / 25 = q2)) (h2 : Hid (q2 % 5 = r2)) (k3 : Hid (n / 125 = q3)) (e0 : w0.cell? ⟨G, r0, none⟩ = some (.int .u8 (c0 : Nat))) (e1 : w0.cell? ⟨G, r1, none⟩ = some (.int .u8 (c1 : Nat))) (e2 : w0.cell? ⟨G, r2, none⟩ = some (.int .u8 (c2 : Nat))) (e3 : w0.cell? ⟨G, q3, none⟩ = some (.int .u8 (c3 : Nat)))
    (x : Act) (w : World) (hB : Below w0.heap.size w0 w) (hdef : x.defers = df) (u5 : x.tmps.getD 5 undef = .slice (some ⟨G, 0, none⟩) 5 5) (u6 : x.tmps.getD 6 undef = .int .i64 (n : Nat))
    : wpOpIn Fc nC Tryz.prog gsmR_ops Q 5 (fun a' w' => ∃ v, a' = x.put (some 48) v ∧ (v = .slice (some ⟨G, 0, none⟩) 5 5) ∧ Below w.heap.size w w') x w := by
  have ho : gsmR_ops[5]? = some gsmR_o5 := rfl
  simp only [Array.getD_eq_getD_getElem?] at u5 u6
  refine wpOpIn_plain ho rfl (oper_inK hF.fn (fun K hK => ?_))
  clear ho
  rw [Oper.semAt_plain Fc _ _ (by intro c h; cases h)]
  simp only [gsmR_o5]
  go_simp
  exact hK _ _ ⟨_, act_putD x hdef _ _, rfl, Below.refl _ _⟩
set_option maxRecDepth 100000 in
set_option maxHeartbeats 2000000 in
theorem gsmR_s6 {Fc : Fence} (hF : Wide Fc) {nC : Nat} (G n r0 q1 r1 q2 r2 q3 c0 c1 c2 c3 : Nat) (Q : Exit → Act → World → Prop) (df : List Deferred) (w0 : World)
    (hn : Hid (n < 625)) (h0 : Hid (n % 5 = r0)) (k1 : Hid (n / 5 = q1)) (h1 : Hid (q1 % 5 = r1)) (k2 : Hid (n / 25 = q2)) (h2 : Hid (q2 % 5 = r2)) (k3 : Hid (n / 125 = q3)) (e0 : w0.cell? ⟨G, r0, none⟩ = some (.int .u8 (c0 : Nat))) (e1 : w0.cell? ⟨G, r1, none⟩ = some (.int .u8 (c1 : Nat))) (e2 : w0.cell? ⟨G, r2, none⟩ = some (.int .u8 (c2 : Nat))) (e3 : w0.cell? ⟨G, q3, none⟩ = some (.int .u8 (c3 : Nat)))
    (x : Act) (w : World) (hB : Below w0.heap.size w0 w) (hdef : x.defers = df) (u5 : x.tmps.getD 5 undef = .slice (some ⟨G, 0, none⟩) 5 5) (u6 : x.tmps.getD 6 undef = .int .i64 (n : Nat))
    : wpOpIn Fc nC Tryz.prog gsmR_ops Q 6 (fun a' w' => ∃ v, a' = x.put (some 49) v ∧ (v = .int .i64 (n : Nat)) ∧ Below w.heap.size w w') x w := by
  have ho : gsmR_ops[6]? = some gsmR_o6 := rfl
  simp only [Array.getD_eq_getD_getElem?] at u5 u6
  refine wpOpIn_plain ho rfl (oper_inK hF.fn (fun K hK => ?_))
  clear ho
  rw [Oper.semAt_plain Fc _ _ (by intro c h; cases h)]
  simp only [gsmR_o6]
  go_simp
  exact hK _ _ ⟨_, act_putD x hdef _ _, rfl, Below.refl _ _⟩
set_option maxRecDepth 100000 in
set_option maxHeartbeats 2000000 in
theorem gsmR_s7 {Fc : Fence} (hF : Wide Fc) {nC : Nat} (G n r0 q1 r1 q2 r2 q3 c0 c1 c2 c3 : Nat) (Q : Exit → Act → World → Prop) (df : List Deferred) (w0 : World)
    (hn : Hid (n < 625)) (h0 : Hid (n % 5 = r0)) (k1 : Hid (n / 5 = q1)) (h1 : Hid (q1 % 5 = r1)) (k2 : Hid (n / 25 = q2)) (h2 : Hid (q2 % 5 = r2)) (k3 : Hid (n / 125 = q3)) (e0 : w0.cell? ⟨G, r0, none⟩ = some (.int .u8 (c0 : Nat))) (e1 : w0.cell? ⟨G, r1, none⟩ = some (.int .u8 (c1 : Nat))) (e2 : w0.cell? ⟨G, r2, none⟩ = some (.int .u8 (c2 : Nat))) (e3 : w0.cell? ⟨G, q3, none⟩ = some (.int .u8 (c3 : Nat)))
    (x : Act) (w : World) (hB : Below w0.heap.size w0 w) (hdef : x.defers = df) (u5 : x.tmps.getD 5 undef = .slice (some ⟨G, 0, none⟩) 5 5) (u6 : x.tmps.getD 6 undef = .int .i64 (n : Nat))
    (p6 : gsmR_val G n r0 q1 r1 q2 r2 q3 c0 c1 c2 c3 6 (x.tmps.getD 49 undef) w)
    : wpOpIn Fc nC Tryz.prog gsmR_ops Q 7 (fun a' w' => ∃ v, a' = x.put (some 50) v ∧ (v = .int .i64 (q1 : Nat)) ∧ Below w.heap.size w w') x w := by
  have ho : gsmR_ops[7]? = some gsmR_o7 := rfl
  simp only [Array.getD_eq_getD_getElem?] at u5 u6
  have q6 : x.tmps.getD 49 undef = .int .i64 (n : Nat) := p6
  simp only [Array.getD_eq_getD_getElem?] at q6
  have m : Int.tdiv (n : Int) 5 = (q1 : Int) := by rw [Int.tdiv_eq_ediv_of_nonneg (by omega)]; have := k1.out; omega
  have m2 : (n : Int) / 5 = (q1 : Int) := by have := k1.out; omega
  have m3 := IntWalk.i64_in (q1 : Int) (by have := k1.out; have := hn.out; omega)
  refine wpOpIn_plain ho rfl (oper_inK hF.fn (fun K hK => ?_))
  clear ho
  rw [Oper.semAt_plain Fc _ _ (by intro c h; cases h)]
  simp only [gsmR_o7]
  go_simp
  exact hK _ _ ⟨_, act_putD x hdef _ _, rfl, Below.refl _ _⟩
set_option maxRecDepth 100000 in
set_option maxHeartbeats 2000000 in
theorem gsmR_s8 {Fc : Fence} (hF : Wide Fc) {nC : Nat} (G n r0 q1 r1 q2 r2 q3 c0 c1 c2 c3 : Nat) (Q : Exit → Act → World → Prop) (df : List Deferred) (w0 : World)
    (hn : Hid (n < 625)) (h0 : Hid (n % 5 = r0)) (k1 : Hid (n / 5 = q1)) (h1 : Hid (q1 % 5 = r1)) (k2 : Hid (n / 25 = q2)) (h2 : Hid (q2 % 5 = r2)) (k3 : Hid (n / 125 = q3)) (e0 : w0.cell? ⟨G, r0, none⟩ = some (.int .u8 (c0 : Nat))) (e1 : w0.cell? ⟨G, r1, none⟩ = some (.int .u8 (c1 : Nat))) (e2 : w0.cell? ⟨G, r2, none⟩ = some (.int .u8 (c2 : Nat))) (e3 : w0.cell? ⟨G, q3, none⟩ = some (.int .u8 (c3 : Nat)))
    (x : Act) (w : World) (hB : Below w0.heap.size w0 w) (hdef : x.defers = df) (u5 : x.tmps.getD 5 undef = .slice (some ⟨G, 0, none⟩) 5 5) (u6 : x.tmps.getD 6 undef = .int .i64 (n : Nat))
    (p7 : gsmR_val G n r0 q1 r1 q2 r2 q3 c0 c1 c2 c3 7 (x.tmps.getD 50 undef) w)
    : wpOpIn Fc nC Tryz.prog gsmR_ops Q 8 (fun a' w' => ∃ v, a' = x.put (some 51) v ∧ (v = .int .i64 (r1 : Nat)) ∧ Below w.heap.size w w') x w := by
  have ho : gsmR_ops[8]? = some gsmR_o8 := rfl
  simp only [Array.getD_eq_getD_getElem?] at u5 u6
  have q7 : x.tmps.getD 50 undef = .int .i64 (q1 : Nat) := p7
  simp only [Array.getD_eq_getD_getElem?] at q7
  have m : Int.tmod (q1 : Int) 5 = (r1 : Int) := by rw [Int.tmod_eq_emod_of_nonneg (by omega)]; have := h1.out; omega
  have m2 : (q1 : Int) % 5 = (r1 : Int) := by have := h1.out; omega
  refine wpOpIn_plain ho rfl (oper_inK hF.fn (fun K hK => ?_))
  clear ho
  rw [Oper.semAt_plain Fc _ _ (by intro c h; cases h)]
  simp only [gsmR_o8]
  go_simp
  exact hK _ _ ⟨_, act_putD x hdef _ _, rfl, Below.refl _ _⟩
set_option maxRecDepth 100000 in
set_option maxHeartbeats 2000000 in
theorem gsmR_s9 {Fc : Fence} (hF : Wide Fc) {nC : Nat} (G n r0 q1 r1 q2 r2 q3 c0 c1 c2 c3 : Nat) (Q : Exit → Act → World → Prop) (df : List Deferred) (w0 : World)
    (hn : Hid (n < 625)) (h0 : Hid (n % 5 = r0)) (k1 : Hid (n / 5 = q1)) (h1 : Hid (q1 % 5 = r1)) (k2 : Hid (n / 25 = q2)) (h2 : Hid (q2 % 5 = r2)) (k3 : Hid (n / 125 = q3)) (e0 : w0.cell? ⟨G, r0, none⟩ = some (.int .u8 (c0 : Nat))) (e1 : w0.cell? ⟨G, r1, none⟩ = some (.int .u8 (c1 : Nat))) (e2 : w0.cell? ⟨G, r2, none⟩ = some (.int .u8 (c2 : Nat))) (e3 : w0.cell? ⟨G, q3, none⟩ = some (.int .u8 (c3 : Nat)))
    (x : Act) (w : World) (hB : Below w0.heap.size w0 w) (hdef : x.defers = df) (u5 : x.tmps.getD 5 undef = .slice (some ⟨G, 0, none⟩) 5 5) (u6 : x.tmps.getD 6 undef = .int .i64 (n : Nat))
    (p5 : gsmR_val G n r0 q1 r1 q2 r2 q3 c0 c1 c2 c3 5 (x.tmps.getD 48 undef) w)
    (p8 : gsmR_val G n r0 q1 r1 q2 r2 q3 c0 c1 c2 c3 8 (x.tmps.getD 51 undef) w)
    : wpOpIn Fc nC Tryz.prog gsmR_ops Q 9 (fun a' w' => ∃ v, a' = x.put (some 52) v ∧ (v = .pointer (some ⟨G, r1, none⟩)) ∧ Below w.heap.size w w') x w := by
  have ho : gsmR_ops[9]? = some gsmR_o9 := rfl
  simp only [Array.getD_eq_getD_getElem?] at u5 u6
  have q5 : x.tmps.getD 48 undef = .slice (some ⟨G, 0, none⟩) 5 5 := p5
  have q8 : x.tmps.getD 51 undef = .int .i64 (r1 : Nat) := p8
  simp only [Array.getD_eq_getD_getElem?] at q5 q8
  have i0 : (0 : Int) ≤ (r1 : Int) := by omega
  have i1 : (r1 : Int) < 5 := by have := hn.out; have := h0.out; have := k1.out; have := h1.out; have := k2.out; have := h2.out; have := k3.out; omega
  refine wpOpIn_plain ho rfl (oper_inK hF.fn (fun K hK => ?_))
  clear ho
  rw [Oper.semAt_plain Fc _ _ (by intro c h; cases h)]
  simp only [gsmR_o9]
  go_simp
  exact hK _ _ ⟨_, act_putD x hdef _ _, rfl, Below.refl _ _⟩
set_option maxRecDepth 100000 in
set_option maxHeartbeats 2000000 in
theorem gsmR_s10 {Fc : Fence} (hF : Wide Fc) {nC : Nat} (G n r0 q1 r1 q2 r2 q3 c0 c1 c2 c3 : Nat) (Q : Exit → Act → World → Prop) (df : List Deferred) (w0 : World)
    (hn : Hid (n < 625)) (h0 : Hid (n % 5 = r0)) (k1 : Hid (n / 5 = q1)) (h1 : Hid (q1 % 5 = r1)) (k2 : Hid (n / 25 = q2)) (h2 : Hid (q2 % 5 = r2)) (k3 : Hid (n / 125 = q3)) (e0 : w0.cell? ⟨G, r0, none⟩ = some (.int .u8 (c0 : Nat))) (e1 : w0.cell? ⟨G, r1, none⟩ = some (.int .u8 (c1 : Nat))) (e2 : w0.cell? ⟨G, r2, none⟩ = some (.int .u8 (c2 : Nat))) (e3 : w0.cell? ⟨G, q3, none⟩ = some (.int .u8 (c3 : Nat)))
    (x : Act) (w : World) (hB : Below w0.heap.size w0 w) (hdef : x.defers = df) (u5 : x.tmps.getD 5 undef = .slice (some ⟨G, 0, none⟩) 5 5) (u6 : x.tmps.getD 6 undef = .int .i64 (n : Nat))
    (p9 : gsmR_val G n r0 q1 r1 q2 r2 q3 c0 c1 c2 c3 9 (x.tmps.getD 52 undef) w)
    : wpOpIn Fc nC Tryz.prog gsmR_ops Q 10 (fun a' w' => ∃ v, a' = x.put (some 53) v ∧ (v = .int .u8 (c1 : Nat)) ∧ Below w.heap.size w w') x w := by
  have ho : gsmR_ops[10]? = some gsmR_o10 := rfl
  simp only [Array.getD_eq_getD_getElem?] at u5 u6
  have q9 : x.tmps.getD 52 undef = .pointer (some ⟨G, r1, none⟩) := p9
  simp only [Array.getD_eq_getD_getElem?] at q9
  have u := cell_thru e1 hB
  refine wpOpIn_plain ho rfl (oper_inK hF.fn (fun K hK => ?_))
  clear ho
  rw [Oper.semAt_plain Fc _ _ (by intro c h; cases h)]
  simp only [gsmR_o10]
  go_simp
  exact hK _ _ ⟨_, act_putD x hdef _ _, rfl, Below.refl _ _⟩
set_option maxRecDepth 100000 in
set_option maxHeartbeats 2000000 in
theorem gsmR_s11 {Fc : Fence} (hF : Wide Fc) {nC : Nat} (G n r0 q1 r1 q2 r2 q3 c0 c1 c2 c3 : Nat) (Q : Exit → Act → World → Prop) (df : List Deferred) (w0 : World)
    (hn : Hid (n < 625)) (h0 : Hid (n % 5 = r0)) (k1 : Hid (n / 5 = q1)) (h1 : Hid (q1 % 5 = r1)) (k2 : Hid (n / 25 = q2)) (h2 : Hid (q2 % 5 = r2)) (k3 : Hid (n / 125 = q3)) (e0 : w0.cell? ⟨G, r0, none⟩ = some (.int .u8 (c0 : Nat))) (e1 : w0.cell? ⟨G, r1, none⟩ = some (.int .u8 (c1 : Nat))) (e2 : w0.cell? ⟨G, r2, none⟩ = some (.int .u8 (c2 : Nat))) (e3 : w0.cell? ⟨G, q3, none⟩ = some (.int .u8 (c3 : Nat)))
    (x : Act) (w : World) (hB : Below w0.heap.size w0 w) (hdef : x.defers = df) (u5 : x.tmps.getD 5 undef = .slice (some ⟨G, 0, none⟩) 5 5) (u6 : x.tmps.getD 6 undef = .int .i64 (n : Nat))
    : wpOpIn Fc nC Tryz.prog gsmR_ops Q 11 (fun a' w' => ∃ v, a' = x.put (some 54) v ∧ (v = .slice (some ⟨G, 0, none⟩) 5 5) ∧ Below w.heap.size w w') x w := by
  have ho : gsmR_ops[11]? = some gsmR_o11 := rfl
  simp only [Array.getD_eq_getD_getElem?] at u5 u6
  refine wpOpIn_plain ho rfl (oper_inK hF.fn (fun K hK => ?_))
  clear ho
  rw [Oper.semAt_plain Fc _ _ (by intro c h; cases h)]
  simp only [gsmR_o11]
  go_simp
  exact hK _ _ ⟨_, act_putD x hdef _ _, rfl, Below.refl _ _⟩
set_option maxRecDepth 100000 in
set_option maxHeartbeats 2000000 in
theorem gsmR_s12 {Fc : Fence} (hF : Wide Fc) {nC : Nat} (G n r0 q1 r1 q2 r2 q3 c0 c1 c2 c3 : Nat) (Q : Exit → Act → World → Prop) (df : List Deferred) (w0 : World)
    (hn : Hid (n < 625)) (h0 : Hid (n % 5 = r0)) (k1 : Hid (n / 5 = q1)) (h1 : Hid (q1 % 5 = r1)) (k2 : Hid (n / 25 = q2)) (h2 : Hid (q2 % 5 = r2)) (k3 : Hid (n / 125 = q3)) (e0 : w0.cell? ⟨G, r0, none⟩ = some (.int .u8 (c0 : Nat))) (e1 : w0.cell? ⟨G, r1, none⟩ = some (.int .u8 (c1 : Nat))) (e2 : w0.cell? ⟨G, r2, none⟩ = some (.int .u8 (c2 : Nat))) (e3 : w0.cell? ⟨G, q3, none⟩ = some (.int .u8 (c3 : Nat)))
    (x : Act) (w : World) (hB : Below w0.heap.size w0 w) (hdef : x.defers = df) (u5 : x.tmps.getD 5 undef = .slice (some ⟨G, 0, none⟩) 5 5) (u6 : x.tmps.getD 6 undef = .int .i64 (n : Nat))
    : wpOpIn Fc nC Tryz.prog gsmR_ops Q 12 (fun a' w' => ∃ v, a' = x.put (some 55) v ∧ (v = .int .i64 (n : Nat)) ∧ Below w.heap.size w w') x w := by
  have ho : gsmR_ops[12]? = some gsmR_o12 := rfl
  simp only [Array.getD_eq_getD_getElem?] at u5 u6
  refine wpOpIn_plain ho rfl (oper_inK hF.fn (fun K hK => ?_))
  clear ho
  rw [Oper.semAt_plain Fc _ _ (by intro c h; cases h)]
  simp only [gsmR_o12]
  go_simp
  exact hK _ _ ⟨_, act_putD x hdef _ _, rfl, Below.refl _ _⟩
set_option maxRecDepth 100000 in
set_option maxHeartbeats 2000000 in
theorem gsmR_s13 {Fc : Fence} (hF : Wide Fc) {nC : Nat} (G n r0 q1 r1 q2 r2 q3 c0 c1 c2 c3 : Nat) (Q : Exit → Act → World → Prop) (df : List Deferred) (w0 : World)
    (hn : Hid (n < 625)) (h0 : Hid (n % 5 = r0)) (k1 : Hid (n / 5 = q1)) (h1 : Hid (q1 % 5 = r1)) (k2 : Hid (n / 25 = q2)) (h2 : Hid (q2 % 5 = r2)) (k3 : Hid (n / 125 = q3)) (e0 : w0.cell? ⟨G, r0, none⟩ = some (.int .u8 (c0 : Nat))) (e1 : w0.cell? ⟨G, r1, none⟩ = some (.int .u8 (c1 : Nat))) (e2 : w0.cell? ⟨G, r2, none⟩ = some (.int .u8 (c2 : Nat))) (e3 : w0.cell? ⟨G, q3, none⟩ = some (.int .u8 (c3 : Nat)))
    (x : Act) (w : World) (hB : Below w0.heap.size w0 w) (hdef : x.defers = df) (u5 : x.tmps.getD 5 undef = .slice (some ⟨G, 0, none⟩) 5 5) (u6 : x.tmps.getD 6 undef = .int .i64 (n : Nat))
    (p12 : gsmR_val G n r0 q1 r1 q2 r2 q3 c0 c1 c2 c3 12 (x.tmps.getD 55 undef) w)
    : wpOpIn Fc nC Tryz.prog gsmR_ops Q 13 (fun a' w' => ∃ v, a' = x.put (some 56) v ∧ (v = .int .i64 (q2 : Nat)) ∧ Below w.heap.size w w') x w := by
  have ho : gsmR_ops[13]? = some gsmR_o13 := rfl
  simp only [Array.getD_eq_getD_getElem?] at u5 u6
  have q12 : x.tmps.getD 55 undef = .int .i64 (n : Nat) := p12
  simp only [Array.getD_eq_getD_getElem?] at q12
  have m : Int.tdiv (n : Int) 25 = (q2 : Int) := by rw [Int.tdiv_eq_ediv_of_nonneg (by omega)]; have := k2.out; omega
  have m2 : (n : Int) / 25 = (q2 : Int) := by have := k2.out; omega
  have m3 := IntWalk.i64_in (q2 : Int) (by have := k2.out; have := hn.out; omega)
  refine wpOpIn_plain ho rfl (oper_inK hF.fn (fun K hK => ?_))
  clear ho
  rw [Oper.semAt_plain Fc _ _ (by intro c h; cases h)]
  simp only [gsmR_o13]
  go_simp
  exact hK _ _ ⟨_, act_putD x hdef _ _, rfl, Below.refl _ _⟩
set_option maxRecDepth 100000 in
set_option maxHeartbeats 2000000 in
theorem gsmR_s14 {Fc : Fence} (hF : Wide Fc) {nC : Nat} (G n r0 q1 r1 q2 r2 q3 c0 c1 c2 c3 : Nat) (Q : Exit → Act → World → Prop) (df : List Deferred) (w0 : World)
    (hn : Hid (n < 625)) (h0 : Hid (n % 5 = r0)) (k1 : Hid (n / 5 = q1)) (h1 : Hid (q1 % 5 = r1)) (k2 : Hid (n / 25 = q2)) (h2 : Hid (q2 % 5 = r2)) (k3 : Hid (n / 125 = q3)) (e0 : w0.cell? ⟨G, r0, none⟩ = some (.int .u8 (c0 : Nat))) (e1 : w0.cell? ⟨G, r1, none⟩ = some (.int .u8 (c1 : Nat))) (e2 : w0.cell? ⟨G, r2, none⟩ = some (.int .u8 (c2 : Nat))) (e3 : w0.cell? ⟨G, q3, none⟩ = some (.int .u8 (c3 : Nat)))
    (x : Act) (w : World) (hB : Below w0.heap.size w0 w) (hdef : x.defers = df) (u5 : x.tmps.getD 5 undef = .slice (some ⟨G, 0, none⟩) 5 5) (u6 : x.tmps.getD 6 undef = .int .i64 (n : Nat))
    (p13 : gsmR_val G n r0 q1 r1 q2 r2 q3 c0 c1 c2 c3 13 (x.tmps.getD 56 undef) w)
    : wpOpIn Fc nC Tryz.prog gsmR_ops Q 14 (fun a' w' => ∃ v, a' = x.put (some 57) v ∧ (v = .int .i64 (r2 : Nat)) ∧ Below w.heap.size w w') x w := by
  have ho : gsmR_ops[14]? = some gsmR_o14 := rfl
  simp only [Array.getD_eq_getD_getElem?] at u5 u6
  have q13 : x.tmps.getD 56 undef = .int .i64 (q2 : Nat) := p13
  simp only [Array.getD_eq_getD_getElem?] at q13
  have m : Int.tmod (q2 : Int) 5 = (r2 : Int) := by rw [Int.tmod_eq_emod_of_nonneg (by omega)]; have := h2.out; omega
  have m2 : (q2 : Int) % 5 = (r2 : Int) := by have := h2.out; omega
  refine wpOpIn_plain ho rfl (oper_inK hF.fn (fun K hK => ?_))
  clear ho
  rw [Oper.semAt_plain Fc _ _ (by intro c h; cases h)]
  simp only [gsmR_o14]
  go_simp
  exact hK _ _ ⟨_, act_putD x hdef _ _, rfl, Below.refl _ _⟩
set_option maxRecDepth 100000 in
set_option maxHeartbeats 2000000 in
theorem gsmR_s15 {Fc : Fence} (hF : Wide Fc) {nC : Nat} (G n r0 q1 r1 q2 r2 q3 c0 c1 c2 c3 : Nat) (Q : Exit → Act → World → Prop) (df : List Deferred) (w0 : World)
    (hn : Hid (n < 625)) (h0 : Hid (n % 5 = r0)) (k1 : Hid (n / 5 = q1)) (h1 : Hid (q1 % 5 = r1)) (k2 : Hid (n / 25 = q2)) (h2 : Hid (q2 % 5 = r2)) (k3 : Hid (n / 125 = q3)) (e0 : w0.cell? ⟨G, r0, none⟩ = some (.int .u8 (c0 : Nat))) (e1 : w0.cell? ⟨G, r1, none⟩ = some (.int .u8 (c1 : Nat))) (e2 : w0.cell? ⟨G, r2, none⟩ = some (.int .u8 (c2 : Nat))) (e3 : w0.cell? ⟨G, q3, none⟩ = some (.int .u8 (c3 : Nat)))
    (x : Act) (w : World) (hB : Below w0.heap.size w0 w) (hdef : x.defers = df) (u5 : x.tmps.getD 5 undef = .slice (some ⟨G, 0, none⟩) 5 5) (u6 : x.tmps.getD 6 undef = .int .i64 (n : Nat))
    (p11 : gsmR_val G n r0 q1 r1 q2 r2 q3 c0 c1 c2 c3 11 (x.tmps.getD 54 undef) w)
    (p14 : gsmR_val G n r0 q1 r1 q2 r2 q3 c0 c1 c2 c3 14 (x.tmps.getD 57 undef) w)
    : wpOpIn Fc nC Tryz.prog gsmR_ops Q 15 (fun a' w' => ∃ v, a' = x.put (some 58) v ∧ (v = .pointer (some ⟨G, r2, none⟩)) ∧ Below w.heap.size w w') x w := by
  have ho : gsmR_ops[15]? = some gsmR_o15 := rfl
  simp only [Array.getD_eq_getD_getElem?] at u5 u6
  have q11 : x.tmps.getD 54 undef = .slice (some ⟨G, 0, none⟩) 5 5 := p11
  have q14 : x.tmps.getD 57 undef = .int .i64 (r2 : Nat) := p14
  simp only [Array.getD_eq_getD_getElem?] at q11 q14
  have i0 : (0 : Int) ≤ (r2 : Int) := by omega
  have i1 : (r2 : Int) < 5 := by have := hn.out; have := h0.out; have := k1.out; have := h1.out; have := k2.out; have := h2.out; have := k3.out; omega
  refine wpOpIn_plain ho rfl (oper_inK hF.fn (fun K hK => ?_))
  clear ho
  rw [Oper.semAt_plain Fc _ _ (by intro c h; cases h)]
  simp only [gsmR_o15]
  go_simp
  exact hK _ _ ⟨_, act_putD x hdef _ _, rfl, Below.refl _ _⟩
set_option maxRecDepth 100000 in
set_option maxHeartbeats 2000000 in
theorem gsmR_s16 {Fc : Fence} (hF : Wide Fc) {nC : Nat} (G n r0 q1 r1 q2 r2 q3 c0 c1 c2 c3 : Nat) (Q : Exit → Act → World → Prop) (df : List Deferred) (w0 : World)
    (hn : Hid (n < 625)) (h0 : Hid (n % 5 = r0)) (k1 : Hid (n / 5 = q1)) (h1 : Hid (q1 % 5 = r1)) (k2 : Hid (n / 25 = q2)) (h2 : Hid (q2 % 5 = r2)) (k3 : Hid (n / 125 = q3)) (e0 : w0.cell? ⟨G, r0, none⟩ = some (.int .u8 (c0 : Nat))) (e1 : w0.cell? ⟨G, r1, none⟩ = some (.int .u8 (c1 : Nat))) (e2 : w0.cell? ⟨G, r2, none⟩ = some (.int .u8 (c2 : Nat))) (e3 : w0.cell? ⟨G, q3, none⟩ = some (.int .u8 (c3 : Nat)))
    (x : Act) (w : World) (hB : Below w0.heap.size w0 w) (hdef : x.defers = df) (u5 : x.tmps.getD 5 undef = .slice (some ⟨G, 0, none⟩) 5 5) (u6 : x.tmps.getD 6 undef = .int .i64 (n : Nat))
    (p15 : gsmR_val G n r0 q1 r1 q2 r2 q3 c0 c1 c2 c3 15 (x.tmps.getD 58 undef) w)
    : wpOpIn Fc nC Tryz.prog gsmR_ops Q 16 (fun a' w' => ∃ v, a' = x.put (some 59) v ∧ (v = .int .u8 (c2 : Nat)) ∧ Below w.heap.size w w') x w := by
  have ho : gsmR_ops[16]? = some gsmR_o16 := rfl
  simp only [Array.getD_eq_getD_getElem?] at u5 u6
  have q15 : x.tmps.getD 58 undef = .pointer (some ⟨G, r2, none⟩) := p15
  simp only [Array.getD_eq_getD_getElem?] at q15
  have u := cell_thru e2 hB
  refine wpOpIn_plain ho rfl (oper_inK hF.fn (fun K hK => ?_))
  clear ho
  rw [Oper.semAt_plain Fc _ _ (by intro c h; cases h)]
  simp only [gsmR_o16]
  go_simp
  exact hK _ _ ⟨_, act_putD x hdef _ _, rfl, Below.refl _ _⟩
set_option maxRecDepth 100000 in
set_option maxHeartbeats 2000000 in
theorem gsmR_s17 {Fc : Fence} (hF : Wide Fc) {nC : Nat} (G n r0 q1 r1 q2 r2 q3 c0 c1 c2 c3 : Nat) (Q : Exit → Act → World → Prop) (df : List Deferred) (w0 : World)
    (hn : Hid (n < 625)) (h0 : Hid (n % 5 = r0)) (k1 : Hid (n / 5 = q1)) (h1 : Hid (q1 % 5 = r1)) (k2 : Hid (n / 25 = q2)) (h2 : Hid (q2 % 5 = r2)) (k3 : Hid (n / 125 = q3)) (e0 : w0.cell? ⟨G, r0, none⟩ = some (.int .u8 (c0 : Nat))) (e1 : w0.cell? ⟨G, r1, none⟩ = some (.int .u8 (c1 : Nat))) (e2 : w0.cell? ⟨G, r2, none⟩ = some (.int .u8 (c2 : Nat))) (e3 : w0.cell? ⟨G, q3, none⟩ = some (.int .u8 (c3 : Nat)))
    (x : Act) (w : World) (hB : Below w0.heap.size w0 w) (hdef : x.defers = df) (u5 : x.tmps.getD 5 undef = .slice (some ⟨G, 0, none⟩) 5 5) (u6 : x.tmps.getD 6 undef = .int .i64 (n : Nat))
    : wpOpIn Fc nC Tryz.prog gsmR_ops Q 17 (fun a' w' => ∃ v, a' = x.put (some 60) v ∧ (v = .slice (some ⟨G, 0, none⟩) 5 5) ∧ Below w.heap.size w w') x w := by
  have ho : gsmR_ops[17]? = some gsmR_o17 := rfl
  simp only [Array.getD_eq_getD_getElem?] at u5 u6
  refine wpOpIn_plain ho rfl (oper_inK hF.fn (fun K hK => ?_))
  clear ho
  rw [Oper.semAt_plain Fc _ _ (by intro c h; cases h)]
  simp only [gsmR_o17]
  go_simp
  exact hK _ _ ⟨_, act_putD x hdef _ _, rfl, Below.refl _ _⟩
set_option maxRecDepth 100000 in
set_option maxHeartbeats 2000000 in
theorem gsmR_s18 {Fc : Fence} (hF : Wide Fc) {nC : Nat} (G n r0 q1 r1 q2 r2 q3 c0 c1 c2 c3 : Nat) (Q : Exit → Act → World → Prop) (df : List Deferred) (w0 : World)
    (hn : Hid (n < 625)) (h0 : Hid (n % 5 = r0)) (k1 : Hid (n / 5 = q1)) (h1 : Hid (q1 % 5 = r1)) (k2 : Hid (n / 25 = q2)) (h2 : Hid (q2 % 5 = r2)) (k3 : Hid (n / 125 = q3)) (e0 : w0.cell? ⟨G, r0, none⟩ = some (.int .u8 (c0 : Nat))) (e1 : w0.cell? ⟨G, r1, none⟩ = some (.int .u8 (c1 : Nat))) (e2 : w0.cell? ⟨G, r2, none⟩ = some (.int .u8 (c2 : Nat))) (e3 : w0.cell? ⟨G, q3, none⟩ = some (.int .u8 (c3 : Nat)))
    (x : Act) (w : World) (hB : Below w0.heap.size w0 w) (hdef : x.defers = df) (u5 : x.tmps.getD 5 undef = .slice (some ⟨G, 0, none⟩) 5 5) (u6 : x.tmps.getD 6 undef = .int .i64 (n : Nat))
    : wpOpIn Fc nC Tryz.prog gsmR_ops Q 18 (fun a' w' => ∃ v, a' = x.put (some 61) v ∧ (v = .int .i64 (n : Nat)) ∧ Below w.heap.size w w') x w := by
  have ho : gsmR_ops[18]? = some gsmR_o18 := rfl
  simp only [Array.getD_eq_getD_getElem?] at u5 u6
  refine wpOpIn_plain ho rfl (oper_inK hF.fn (fun K hK => ?_))
  clear ho
  rw [Oper.semAt_plain Fc _ _ (by intro c h; cases h)]
  simp only [gsmR_o18]
  go_simp
  exact hK _ _ ⟨_, act_putD x hdef _ _, rfl, Below.refl _ _⟩
set_option maxRecDepth 100000 in
set_option maxHeartbeats 2000000 in
theorem gsmR_s19 {Fc : Fence} (hF : Wide Fc) {nC : Nat} (G n r0 q1 r1 q2 r2 q3 c0 c1 c2 c3 : Nat) (Q : Exit → Act → World → Prop) (df : List Deferred) (w0 : World)
    (hn : Hid (n < 625)) (h0 : Hid (n % 5 = r0)) (k1 : Hid (n / 5 = q1)) (h1 : Hid (q1 % 5 = r1)) (k2 : Hid (n / 25 = q2)) (h2 : Hid (q2 % 5 = r2)) (k3 : Hid (n / 125 = q3)) (e0 : w0.cell? ⟨G, r0, none⟩ = some (.int .u8 (c0 : Nat))) (e1 : w0.cell? ⟨G, r1, none⟩ = some (.int .u8 (c1 : Nat))) (e2 : w0.cell? ⟨G, r2, none⟩ = some (.int .u8 (c2 : Nat))) (e3 : w0.cell? ⟨G, q3, none⟩ = some (.int .u8 (c3 : Nat)))
    (x : Act) (w : World) (hB : Below w0.heap.size w0 w) (hdef : x.defers = df) (u5 : x.tmps.getD 5 undef = .slice (some ⟨G, 0, none⟩) 5 5) (u6 : x.tmps.getD 6 undef = .int .i64 (n : Nat))
    (p18 : gsmR_val G n r0 q1 r1 q2 r2 q3 c0 c1 c2 c3 18 (x.tmps.getD 61 undef) w)
    : wpOpIn Fc nC Tryz.prog gsmR_ops Q 19 (fun a' w' => ∃ v, a' = x.put (some 62) v ∧ (v = .int .i64 (q3 : Nat)) ∧ Below w.heap.size w w') x w := by
  have ho : gsmR_ops[19]? = some gsmR_o19 := rfl
  simp only [Array.getD_eq_getD_getElem?] at u5 u6
  have q18 : x.tmps.getD 61 undef = .int .i64 (n : Nat) := p18
  simp only [Array.getD_eq_getD_getElem?] at q18
  have m : Int.tdiv (n : Int) 125 = (q3 : Int) := by rw [Int.tdiv_eq_ediv_of_nonneg (by omega)]; have := k3.out; omega
  have m2 : (n : Int) / 125 = (q3 : Int) := by have := k3.out; omega
  have m3 := IntWalk.i64_in (q3 : Int) (by have := k3.out; have := hn.out; omega)
  refine wpOpIn_plain ho rfl (oper_inK hF.fn (fun K hK => ?_))
  clear ho
  rw [Oper.semAt_plain Fc _ _ (by intro c h; cases h)]
  simp only [gsmR_o19]
  go_simp
  exact hK _ _ ⟨_, act_putD x hdef _ _, rfl, Below.refl _ _⟩
set_option maxRecDepth 100000 in
set_option maxHeartbeats 2000000 in
theorem gsmR_s20 {Fc : Fence} (hF : Wide Fc) {nC : Nat} (G n r0 q1 r1 q2 r2 q3 c0 c1 c2 c3 : Nat) (Q : Exit → Act → World → Prop) (df : List Deferred) (w0 : World)
    (hn : Hid (n < 625)) (h0 : Hid (n % 5 = r0)) (k1 : Hid (n / 5 = q1)) (h1 : Hid (q1 % 5 = r1)) (k2 : Hid (n / 25 = q2)) (h2 : Hid (q2 % 5 = r2)) (k3 : Hid (n / 125 = q3)) (e0 : w0.cell? ⟨G, r0, none⟩ = some (.int .u8 (c0 : Nat))) (e1 : w0.cell? ⟨G, r1, none⟩ = some (.int .u8 (c1 : Nat))) (e2 : w0.cell? ⟨G, r2, none⟩ = some (.int .u8 (c2 : Nat))) (e3 : w0.cell? ⟨G, q3, none⟩ = some (.int .u8 (c3 : Nat)))
    (x : Act) (w : World) (hB : Below w0.heap.size w0 w) (hdef : x.defers = df) (u5 : x.tmps.getD 5 undef = .slice (some ⟨G, 0, none⟩) 5 5) (u6 : x.tmps.getD 6 undef = .int .i64 (n : Nat))
    (p17 : gsmR_val G n r0 q1 r1 q2 r2 q3 c0 c1 c2 c3 17 (x.tmps.getD 60 undef) w)
    (p19 : gsmR_val G n r0 q1 r1 q2 r2 q3 c0 c1 c2 c3 19 (x.tmps.getD 62 undef) w)
    : wpOpIn Fc nC Tryz.prog gsmR_ops Q 20 (fun a' w' => ∃ v, a' = x.put (some 63) v ∧ (v = .pointer (some ⟨G, q3, none⟩)) ∧ Below w.heap.size w w') x w := by
  have ho : gsmR_ops[20]? = some gsmR_o20 := rfl
  simp only [Array.getD_eq_getD_getElem?] at u5 u6
  have q17 : x.tmps.getD 60 undef = .slice (some ⟨G, 0, none⟩) 5 5 := p17
  have q19 : x.tmps.getD 62 undef = .int .i64 (q3 : Nat) := p19
  simp only [Array.getD_eq_getD_getElem?] at q17 q19
  have i0 : (0 : Int) ≤ (q3 : Int) := by omega
  have i1 : (q3 : Int) < 5 := by have := hn.out; have := h0.out; have := k1.out; have := h1.out; have := k2.out; have := h2.out; have := k3.out; omega
  refine wpOpIn_plain ho rfl (oper_inK hF.fn (fun K hK => ?_))
  clear ho
  rw [Oper.semAt_plain Fc _ _ (by intro c h; cases h)]
  simp only [gsmR_o20]
  go_simp
  exact hK _ _ ⟨_, act_putD x hdef _ _, rfl, Below.refl _ _⟩
set_option maxRecDepth 100000 in
set_option maxHeartbeats 2000000 in
theorem gsmR_s21 {Fc : Fence} (hF : Wide Fc) {nC : Nat} (G n r0 q1 r1 q2 r2 q3 c0 c1 c2 c3 : Nat) (Q : Exit → Act → World → Prop) (df : List Deferred) (w0 : World)
    (hn : Hid (n < 625)) (h0 : Hid (n % 5 = r0)) (k1 : Hid (n / 5 = q1)) (h1 : Hid (q1 % 5 = r1)) (k2 : Hid (n / 25 = q2)) (h2 : Hid (q2 % 5 = r2)) (k3 : Hid (n / 125 = q3)) (e0 : w0.cell? ⟨G, r0, none⟩ = some (.int .u8 (c0 : Nat))) (e1 : w0.cell? ⟨G, r1, none⟩ = some (.int .u8 (c1 : Nat))) (e2 : w0.cell? ⟨G, r2, none⟩ = some (.int .u8 (c2 : Nat))) (e3 : w0.cell? ⟨G, q3, none⟩ = some (.int .u8 (c3 : Nat)))
    (x : Act) (w : World) (hB : Below w0.heap.size w0 w) (hdef : x.defers = df) (u5 : x.tmps.getD 5 undef = .slice (some ⟨G, 0, none⟩) 5 5) (u6 : x.tmps.getD 6 undef = .int .i64 (n : Nat))
    (p20 : gsmR_val G n r0 q1 r1 q2 r2 q3 c0 c1 c2 c3 20 (x.tmps.getD 63 undef) w)
    : wpOpIn Fc nC Tryz.prog gsmR_ops Q 21 (fun a' w' => ∃ v, a' = x.put (some 64) v ∧ (v = .int .u8 (c3 : Nat)) ∧ Below w.heap.size w w') x w := by
  have ho : gsmR_ops[21]? = some gsmR_o21 := rfl
  simp only [Array.getD_eq_getD_getElem?] at u5 u6
  have q20 : x.tmps.getD 63 undef = .pointer (some ⟨G, q3, none⟩) := p20
  simp only [Array.getD_eq_getD_getElem?] at q20
  have u := cell_thru e3 hB
  refine wpOpIn_plain ho rfl (oper_inK hF.fn (fun K hK => ?_))
  clear ho
  rw [Oper.semAt_plain Fc _ _ (by intro c h; cases h)]
  simp only [gsmR_o21]
  go_simp
  exact hK _ _ ⟨_, act_putD x hdef _ _, rfl, Below.refl _ _⟩
set_option maxRecDepth 100000 in
set_option maxHeartbeats 2000000 in
theorem gsmR_s22 {Fc : Fence} (hF : Wide Fc) {nC : Nat} (G n r0 q1 r1 q2 r2 q3 c0 c1 c2 c3 : Nat) (Q : Exit → Act → World → Prop) (df : List Deferred) (w0 : World)
    (hn : Hid (n < 625)) (h0 : Hid (n % 5 = r0)) (k1 : Hid (n / 5 = q1)) (h1 : Hid (q1 % 5 = r1)) (k2 : Hid (n / 25 = q2)) (h2 : Hid (q2 % 5 = r2)) (k3 : Hid (n / 125 = q3)) (e0 : w0.cell? ⟨G, r0, none⟩ = some (.int .u8 (c0 : Nat))) (e1 : w0.cell? ⟨G, r1, none⟩ = some (.int .u8 (c1 : Nat))) (e2 : w0.cell? ⟨G, r2, none⟩ = some (.int .u8 (c2 : Nat))) (e3 : w0.cell? ⟨G, q3, none⟩ = some (.int .u8 (c3 : Nat)))
    (x : Act) (w : World) (hB : Below w0.heap.size w0 w) (hdef : x.defers = df) (u5 : x.tmps.getD 5 undef = .slice (some ⟨G, 0, none⟩) 5 5) (u6 : x.tmps.getD 6 undef = .int .i64 (n : Nat))
    (p4 : gsmR_val G n r0 q1 r1 q2 r2 q3 c0 c1 c2 c3 4 (x.tmps.getD 47 undef) w)
    (p10 : gsmR_val G n r0 q1 r1 q2 r2 q3 c0 c1 c2 c3 10 (x.tmps.getD 53 undef) w)
    (p16 : gsmR_val G n r0 q1 r1 q2 r2 q3 c0 c1 c2 c3 16 (x.tmps.getD 59 undef) w)
    (p21 : gsmR_val G n r0 q1 r1 q2 r2 q3 c0 c1 c2 c3 21 (x.tmps.getD 64 undef) w)
    : wpOpIn Fc nC Tryz.prog gsmR_ops Q 22 (fun a' w' => ∃ v, a' = x.put (some 65) v ∧ (∃ g, v = .slice (some ⟨g, 0, none⟩) 4 4 ∧ w'.heap[g]? = some (.cells #[.int .u8 (c0 : Nat), .int .u8 (c1 : Nat), .int .u8 (c2 : Nat), .int .u8 (c3 : Nat)] 5 (0, 0))) ∧ Below w.heap.size w w') x w := by
  have ho : gsmR_ops[22]? = some gsmR_o22 := rfl
  simp only [Array.getD_eq_getD_getElem?] at u5 u6
  have q4 : x.tmps.getD 47 undef = .int .u8 (c0 : Nat) := p4
  have q10 : x.tmps.getD 53 undef = .int .u8 (c1 : Nat) := p10
  have q16 : x.tmps.getD 59 undef = .int .u8 (c2 : Nat) := p16
  have q21 : x.tmps.getD 64 undef = .int .u8 (c3 : Nat) := p21
  simp only [Array.getD_eq_getD_getElem?] at q4 q10 q16 q21
  refine wpOpIn_plain ho rfl (oper_inK hF.fn (fun K hK => ?_))
  clear ho
  rw [Oper.semAt_plain Fc _ _ (by intro c h; cases h)]
  simp only [gsmR_o22]
  go_simp
  exact hK _ _ ⟨_, act_putD x hdef _ _, ⟨w.heap.size, rfl, heap_alloc_new _ _⟩, below_alloc _ _⟩

set_option maxRecDepth 100000 in
set_option maxHeartbeats 4000000 in
theorem gsmR {Fc : Fence} (hF : Wide Fc) {nC : Nat} (G n r0 q1 r1 q2 r2 q3 c0 c1 c2 c3 : Nat) (Q : Exit → Act → World → Prop) (t0 : Array Value) (df : List Deferred) (w0 : World) (ht : t0.size = 87)
    (hs5 : t0.getD 5 undef = .slice (some ⟨G, 0, none⟩) 5 5) (hs6 : t0.getD 6 undef = .int .i64 (n : Nat))
    (hn : Hid (n < 625)) (h0 : Hid (n % 5 = r0)) (k1 : Hid (n / 5 = q1)) (h1 : Hid (q1 % 5 = r1)) (k2 : Hid (n / 25 = q2)) (h2 : Hid (q2 % 5 = r2)) (k3 : Hid (n / 125 = q3)) (e0 : w0.cell? ⟨G, r0, none⟩ = some (.int .u8 (c0 : Nat))) (e1 : w0.cell? ⟨G, r1, none⟩ = some (.int .u8 (c1 : Nat))) (e2 : w0.cell? ⟨G, r2, none⟩ = some (.int .u8 (c2 : Nat))) (e3 : w0.cell? ⟨G, q3, none⟩ = some (.int .u8 (c3 : Nat)))
    (hQ : ∀ (vs : Nat → Value) (w : World), Below w0.heap.size w0 w → (∃ g, (vs 65) = .slice (some ⟨g, 0, none⟩) 4 4 ∧ w.heap[g]? = some (.cells #[.int .u8 (c0 : Nat), .int .u8 (c1 : Nat), .int .u8 (c2 : Nat), .int .u8 (c3 : Nat)] 5 (0, 0))) → wpOpIn Fc nC Tryz.prog gsmR_ops Q 23 (Q .normal) { tmps := [43, 44, 45, 46, 47, 48, 49, 50, 51, 52, 53, 54, 55, 56, 57, 58, 59, 60, 61, 62, 63, 64, 65].foldl (fun y d => y.setIfInBounds d (vs d)) t0, defers := df } w) :
    (Code.region 18 gsmR_ops true).wpIn Fc nC Tryz.prog Q { tmps := t0, defers := df } w0 := by
  refine wpIn_region_tail 23 (by decide) (by kernel_rfl) (fun a b => Below a.heap.size a b) (gsmR_val G n r0 q1 r1 q2 r2 q3 c0 c1 c2 c3) t0 df w0 (by rw [ht]; kernel_rfl) (by kernel_rfl) (by kernel_rfl) (by kernel_rfl) ((Below.refl _ _).drew) (fun _ _ _ h k => h.trans (k.mono h.size)) (gsmR_below G n r0 q1 r1 q2 r2 q3 c0 c1 c2 c3) ?_ ?_
  · intro j o ho hj x w hB hdef hsz hs hdeps
    have hs' : ∀ s, ¬ gsmR_mem s → x.tmps.getD s undef = t0.getD s undef := fun s hn => hs s (fun j hj e => hn (by rw [e]; exact gsmR_slots j hj))
    have u5 := (hs' 5 (by decide)).trans hs5
    have u6 := (hs' 6 (by decide)).trans hs6
    match j, ho, hj with
    | 0, ho, _ =>
      have e : o = gsmR_o0 := (Option.some.inj ho).symm
      subst e
      exact gsmR_s0 hF G n r0 q1 r1 q2 r2 q3 c0 c1 c2 c3 Q df w0 hn h0 k1 h1 k2 h2 k3 e0 e1 e2 e3 x w hB hdef u5 u6 
    | 1, ho, _ =>
      have e : o = gsmR_o1 := (Option.some.inj ho).symm
      subst e
      exact gsmR_s1 hF G n r0 q1 r1 q2 r2 q3 c0 c1 c2 c3 Q df w0 hn h0 k1 h1 k2 h2 k3 e0 e1 e2 e3 x w hB hdef u5 u6 
    | 2, ho, _ =>
      have e : o = gsmR_o2 := (Option.some.inj ho).symm
      subst e
      exact gsmR_s2 hF G n r0 q1 r1 q2 r2 q3 c0 c1 c2 c3 Q df w0 hn h0 k1 h1 k2 h2 k3 e0 e1 e2 e3 x w hB hdef u5 u6 (hdeps { on := 1, ground := Ground.data } (by simp) rfl)
    | 3, ho, _ =>
      have e : o = gsmR_o3 := (Option.some.inj ho).symm
      subst e
      exact gsmR_s3 hF G n r0 q1 r1 q2 r2 q3 c0 c1 c2 c3 Q df w0 hn h0 k1 h1 k2 h2 k3 e0 e1 e2 e3 x w hB hdef u5 u6 (hdeps { on := 0, ground := Ground.data } (by simp) rfl) (hdeps { on := 2, ground := Ground.data } (by simp) rfl)
    | 4, ho, _ =>
      have e : o = gsmR_o4 := (Option.some.inj ho).symm
      subst e
      exact gsmR_s4 hF G n r0 q1 r1 q2 r2 q3 c0 c1 c2 c3 Q df w0 hn h0 k1 h1 k2 h2 k3 e0 e1 e2 e3 x w hB hdef u5 u6 (hdeps { on := 3, ground := Ground.data } (by simp) rfl)
    | 5, ho, _ =>
      have e : o = gsmR_o5 := (Option.some.inj ho).symm
      subst e
      exact gsmR_s5 hF G n r0 q1 r1 q2 r2 q3 c0 c1 c2 c3 Q df w0 hn h0 k1 h1 k2 h2 k3 e0 e1 e2 e3 x w hB hdef u5 u6 
    | 6, ho, _ =>
      have e : o = gsmR_o6 := (Option.some.inj ho).symm
      subst e
      exact gsmR_s6 hF G n r0 q1 r1 q2 r2 q3 c0 c1 c2 c3 Q df w0 hn h0 k1 h1 k2 h2 k3 e0 e1 e2 e3 x w hB hdef u5 u6 
    | 7, ho, _ =>
      have e : o = gsmR_o7 := (Option.some.inj ho).symm
      subst e
      exact gsmR_s7 hF G n r0 q1 r1 q2 r2 q3 c0 c1 c2 c3 Q df w0 hn h0 k1 h1 k2 h2 k3 e0 e1 e2 e3 x w hB hdef u5 u6 (hdeps { on := 6, ground := Ground.data } (by simp) rfl)
    | 8, ho, _ =>
      have e : o = gsmR_o8 := (Option.some.inj ho).symm
      subst e
      exact gsmR_s8 hF G n r0 q1 r1 q2 r2 q3 c0 c1 c2 c3 Q df w0 hn h0 k1 h1 k2 h2 k3 e0 e1 e2 e3 x w hB hdef u5 u6 (hdeps { on := 7, ground := Ground.data } (by simp) rfl)
    | 9, ho, _ =>
      have e : o = gsmR_o9 := (Option.some.inj ho).symm
      subst e
      exact gsmR_s9 hF G n r0 q1 r1 q2 r2 q3 c0 c1 c2 c3 Q df w0 hn h0 k1 h1 k2 h2 k3 e0 e1 e2 e3 x w hB hdef u5 u6 (hdeps { on := 5, ground := Ground.data } (by simp) rfl) (hdeps { on := 8, ground := Ground.data } (by simp) rfl)
    | 10, ho, _ =>
      have e : o = gsmR_o10 := (Option.some.inj ho).symm
      subst e
      exact gsmR_s10 hF G n r0 q1 r1 q2 r2 q3 c0 c1 c2 c3 Q df w0 hn h0 k1 h1 k2 h2 k3 e0 e1 e2 e3 x w hB hdef u5 u6 (hdeps { on := 9, ground := Ground.data } (by simp) rfl)
    | 11, ho, _ =>
      have e : o = gsmR_o11 := (Option.some.inj ho).symm
      subst e
      exact gsmR_s11 hF G n r0 q1 r1 q2 r2 q3 c0 c1 c2 c3 Q df w0 hn h0 k1 h1 k2 h2 k3 e0 e1 e2 e3 x w hB hdef u5 u6 
    | 12, ho, _ =>
      have e : o = gsmR_o12 := (Option.some.inj ho).symm
      subst e
      exact gsmR_s12 hF G n r0 q1 r1 q2 r2 q3 c0 c1 c2 c3 Q df w0 hn h0 k1 h1 k2 h2 k3 e0 e1 e2 e3 x w hB hdef u5 u6 
    | 13, ho, _ =>
      have e : o = gsmR_o13 := (Option.some.inj ho).symm
      subst e
      exact gsmR_s13 hF G n r0 q1 r1 q2 r2 q3 c0 c1 c2 c3 Q df w0 hn h0 k1 h1 k2 h2 k3 e0 e1 e2 e3 x w hB hdef u5 u6 (hdeps { on := 12, ground := Ground.data } (by simp) rfl)
    | 14, ho, _ =>
      have e : o = gsmR_o14 := (Option.some.inj ho).symm
      subst e
      exact gsmR_s14 hF G n r0 q1 r1 q2 r2 q3 c0 c1 c2 c3 Q df w0 hn h0 k1 h1 k2 h2 k3 e0 e1 e2 e3 x w hB hdef u5 u6 (hdeps { on := 13, ground := Ground.data } (by simp) rfl)
    | 15, ho, _ =>
      have e : o = gsmR_o15 := (Option.some.inj ho).symm
      subst e
      exact gsmR_s15 hF G n r0 q1 r1 q2 r2 q3 c0 c1 c2 c3 Q df w0 hn h0 k1 h1 k2 h2 k3 e0 e1 e2 e3 x w hB hdef u5 u6 (hdeps { on := 11, ground := Ground.data } (by simp) rfl) (hdeps { on := 14, ground := Ground.data } (by simp) rfl)
    | 16, ho, _ =>
      have e : o = gsmR_o16 := (Option.some.inj ho).symm
      subst e
      exact gsmR_s16 hF G n r0 q1 r1 q2 r2 q3 c0 c1 c2 c3 Q df w0 hn h0 k1 h1 k2 h2 k3 e0 e1 e2 e3 x w hB hdef u5 u6 (hdeps { on := 15, ground := Ground.data } (by simp) rfl)
    | 17, ho, _ =>
      have e : o = gsmR_o17 := (Option.some.inj ho).symm
      subst e
      exact gsmR_s17 hF G n r0 q1 r1 q2 r2 q3 c0 c1 c2 c3 Q df w0 hn h0 k1 h1 k2 h2 k3 e0 e1 e2 e3 x w hB hdef u5 u6 
    | 18, ho, _ =>
      have e : o = gsmR_o18 := (Option.some.inj ho).symm
      subst e
      exact gsmR_s18 hF G n r0 q1 r1 q2 r2 q3 c0 c1 c2 c3 Q df w0 hn h0 k1 h1 k2 h2 k3 e0 e1 e2 e3 x w hB hdef u5 u6 
    | 19, ho, _ =>
      have e : o = gsmR_o19 := (Option.some.inj ho).symm
      subst e
      exact gsmR_s19 hF G n r0 q1 r1 q2 r2 q3 c0 c1 c2 c3 Q df w0 hn h0 k1 h1 k2 h2 k3 e0 e1 e2 e3 x w hB hdef u5 u6 (hdeps { on := 18, ground := Ground.data } (by simp) rfl)
    | 20, ho, _ =>
      have e : o = gsmR_o20 := (Option.some.inj ho).symm
      subst e
      exact gsmR_s20 hF G n r0 q1 r1 q2 r2 q3 c0 c1 c2 c3 Q df w0 hn h0 k1 h1 k2 h2 k3 e0 e1 e2 e3 x w hB hdef u5 u6 (hdeps { on := 17, ground := Ground.data } (by simp) rfl) (hdeps { on := 19, ground := Ground.data } (by simp) rfl)
    | 21, ho, _ =>
      have e : o = gsmR_o21 := (Option.some.inj ho).symm
      subst e
      exact gsmR_s21 hF G n r0 q1 r1 q2 r2 q3 c0 c1 c2 c3 Q df w0 hn h0 k1 h1 k2 h2 k3 e0 e1 e2 e3 x w hB hdef u5 u6 (hdeps { on := 20, ground := Ground.data } (by simp) rfl)
    | 22, ho, _ =>
      have e : o = gsmR_o22 := (Option.some.inj ho).symm
      subst e
      exact gsmR_s22 hF G n r0 q1 r1 q2 r2 q3 c0 c1 c2 c3 Q df w0 hn h0 k1 h1 k2 h2 k3 e0 e1 e2 e3 x w hB hdef u5 u6 (hdeps { on := 4, ground := Ground.data } (by simp) rfl) (hdeps { on := 10, ground := Ground.data } (by simp) rfl) (hdeps { on := 16, ground := Ground.data } (by simp) rfl) (hdeps { on := 21, ground := Ground.data } (by simp) rfl)
    | k + 23, _, hj => omega
  · intro x w hB hdef hsz hs hv
    have hx := frame_sets x.tmps t0 hsz [43, 44, 45, 46, 47, 48, 49, 50, 51, 52, 53, 54, 55, 56, 57, 58, 59, 60, 61, 62, 63, 64, 65] (fun s hn => hs s (fun j hj e => hn (by rw [e]; exact gsmR_slots j hj)))
    have hq := hQ (fun d => x.tmps.getD d undef) w hB (hv 22 (by decide))
    obtain ⟨T, Df⟩ := x
    dsimp only at hx hdef hq
    subst hdef
    rw [← hx] at hq
    exact hq
end Go.Proofs.YtpdlapnliiengaaGreat
