/-
  Drawn regions of mudlarkref22 (written by tools/gen-dref.py).
-/
import Derived.Test.YtpmldopbjlnknaaDRefR
import Derived.Test.YtpmldopbjlnknaaDAwake
import Derived.Test.YtpmldopbjlnknaaLent
import Derived.Test.YtpmldopbjlnknaaFlatFileC
import Derived.Test.YtpmldopbjlnknaaRegS
namespace Go.Proofs.Ytpmldopbjlnknaa
open Go.RowKit Go.Shelf
set_option linter.unusedVariables false
set_option linter.unusedSimpArgs false

abbrev dro7_o0 : Oper := { dst := some 15, op := Op.move (Operand.tmp 4), type := 26, pos := "ref.go:36", after := #[], guard := none }
abbrev dro7_o1 : Oper := { dst := some 16, op := Op.move (Operand.tmp 0), type := 22, pos := "ref.go:36", after := #[], guard := none }
abbrev dro7_o2 : Oper := { dst := some 17, op := Op.move (Operand.tmp 5), type := 3, pos := "ref.go:36", after := #[], guard := none }
abbrev dro7_o3 : Oper := { dst := some 18, op := Op.indexAddr 22 (Operand.tmp 16) (Operand.tmp 17), type := 0, pos := "ref.go:36", after := #[{ on := 1, ground := Ground.data }, { on := 2, ground := Ground.data }], guard := none }
abbrev dro7_o4 : Oper := { dst := some 19, op := Op.fieldAddr 46 (Operand.tmp 18) 0, type := 0, pos := "ref.go:36", after := #[{ on := 3, ground := Ground.data }], guard := none }
abbrev dro7_o5 : Oper := { dst := some 20, op := Op.load 9 (Operand.tmp 19), type := 9, pos := "ref.go:36", after := #[{ on := 4, ground := Ground.data }], guard := none }
abbrev dro7_o6 : Oper := { dst := some 21, op := Op.move (Operand.tmp 0), type := 22, pos := "ref.go:36", after := #[], guard := none }
abbrev dro7_o7 : Oper := { dst := some 22, op := Op.move (Operand.tmp 5), type := 3, pos := "ref.go:36", after := #[], guard := none }
abbrev dro7_o8 : Oper := { dst := some 23, op := Op.indexAddr 22 (Operand.tmp 21) (Operand.tmp 22), type := 0, pos := "ref.go:36", after := #[{ on := 6, ground := Ground.data }, { on := 7, ground := Ground.data }], guard := none }
abbrev dro7_o9 : Oper := { dst := some 24, op := Op.fieldAddr 46 (Operand.tmp 23) 0, type := 0, pos := "ref.go:36", after := #[{ on := 8, ground := Ground.data }], guard := none }
abbrev dro7_o10 : Oper := { dst := some 25, op := Op.load 9 (Operand.tmp 24), type := 9, pos := "ref.go:36", after := #[{ on := 9, ground := Ground.data }], guard := none }
abbrev dro7_o11 : Oper := { dst := some 26, op := Op.call { callee := Callee.value (Operand.func 27), args := #[Operand.tmp 25], argTypes := #[9] }, type := 9, pos := "ref.go:36", after := #[{ on := 10, ground := Ground.data }], guard := none }
abbrev dro7_o12 : Oper := { dst := some 27, op := Op.move (Operand.tmp 0), type := 22, pos := "ref.go:36", after := #[], guard := none }
abbrev dro7_o13 : Oper := { dst := some 28, op := Op.move (Operand.tmp 5), type := 3, pos := "ref.go:36", after := #[], guard := none }
abbrev dro7_o14 : Oper := { dst := some 29, op := Op.indexAddr 22 (Operand.tmp 27) (Operand.tmp 28), type := 0, pos := "ref.go:36", after := #[{ on := 12, ground := Ground.data }, { on := 13, ground := Ground.data }], guard := none }
abbrev dro7_o15 : Oper := { dst := some 30, op := Op.fieldAddr 46 (Operand.tmp 29) 1, type := 0, pos := "ref.go:36", after := #[{ on := 14, ground := Ground.data }], guard := none }
abbrev dro7_o16 : Oper := { dst := some 31, op := Op.load 34 (Operand.tmp 30), type := 34, pos := "ref.go:36", after := #[{ on := 15, ground := Ground.data }], guard := none }
abbrev dro7_o17 : Oper := { dst := some 32, op := Op.call { callee := Callee.value (Operand.func 28), args := #[Operand.tmp 31], argTypes := #[34] }, type := 42, pos := "ref.go:36", after := #[{ on := 16, ground := Ground.data }, { on := 11, ground := Ground.chain }], guard := none }
abbrev dro7_o18 : Oper := { dst := some 33, op := Op.move (Operand.tmp 0), type := 22, pos := "ref.go:36", after := #[], guard := none }
abbrev dro7_o19 : Oper := { dst := some 34, op := Op.move (Operand.tmp 5), type := 3, pos := "ref.go:36", after := #[], guard := none }
abbrev dro7_o20 : Oper := { dst := some 35, op := Op.indexAddr 22 (Operand.tmp 33) (Operand.tmp 34), type := 0, pos := "ref.go:36", after := #[{ on := 18, ground := Ground.data }, { on := 19, ground := Ground.data }], guard := none }
abbrev dro7_o21 : Oper := { dst := some 36, op := Op.fieldAddr 46 (Operand.tmp 35) 1, type := 0, pos := "ref.go:36", after := #[{ on := 20, ground := Ground.data }], guard := none }
abbrev dro7_o22 : Oper := { dst := some 37, op := Op.load 34 (Operand.tmp 36), type := 34, pos := "ref.go:36", after := #[{ on := 21, ground := Ground.data }], guard := none }
abbrev dro7_o23 : Oper := { dst := some 38, op := Op.call { callee := Callee.builtin Builtin.len, args := #[Operand.tmp 37], argTypes := #[34] }, type := 3, pos := "ref.go:36", after := #[{ on := 22, ground := Ground.data }], guard := none }
abbrev dro7_o24 : Oper := { dst := some 39, op := Op.build 44 #[(0, Operand.tmp 20), (1, Operand.tmp 26), (2, Operand.tmp 32), (3, Operand.tmp 38)], type := 44, pos := "ref.go:36", after := #[{ on := 5, ground := Ground.data }, { on := 11, ground := Ground.data }, { on := 17, ground := Ground.data }, { on := 23, ground := Ground.data }], guard := none }
abbrev dro7_o25 : Oper := { dst := some 40, op := Op.buildSlice 26 1 #[(0, Operand.tmp 39)], type := 26, pos := "ref.go:36", after := #[{ on := 24, ground := Ground.data }], guard := none }
abbrev dro7_o26 : Oper := { dst := some 41, op := Op.call { callee := Callee.builtin Builtin.append, args := #[Operand.tmp 15, Operand.tmp 40], argTypes := #[26, 26] }, type := 26, pos := "ref.go:36", after := #[{ on := 0, ground := Ground.data }, { on := 25, ground := Ground.data }, { on := 17, ground := Ground.chain }], guard := none }
abbrev dro7_o27 : Oper := { dst := some 4, op := Op.assign (Operand.tmp 41), type := 26, pos := "ref.go:36", after := #[{ on := 26, ground := Ground.data }, { on := 26, ground := Ground.chain }, { on := 0, ground := Ground.phase }, { on := 1, ground := Ground.phase }, { on := 2, ground := Ground.phase }, { on := 3, ground := Ground.phase }, { on := 4, ground := Ground.phase }, { on := 5, ground := Ground.phase }, { on := 6, ground := Ground.phase }, { on := 7, ground := Ground.phase }, { on := 8, ground := Ground.phase }, { on := 9, ground := Ground.phase }, { on := 10, ground := Ground.phase }, { on := 11, ground := Ground.phase }, { on := 12, ground := Ground.phase }, { on := 13, ground := Ground.phase }, { on := 14, ground := Ground.phase }, { on := 15, ground := Ground.phase }, { on := 16, ground := Ground.phase }, { on := 17, ground := Ground.phase }, { on := 18, ground := Ground.phase }, { on := 19, ground := Ground.phase }, { on := 20, ground := Ground.phase }, { on := 21, ground := Ground.phase }, { on := 22, ground := Ground.phase }, { on := 23, ground := Ground.phase }, { on := 24, ground := Ground.phase }, { on := 25, ground := Ground.phase }, { on := 26, ground := Ground.phase }], guard := none }
def dro7_ops : Array Oper := #[dro7_o0, dro7_o1, dro7_o2, dro7_o3, dro7_o4, dro7_o5, dro7_o6, dro7_o7, dro7_o8, dro7_o9, dro7_o10, dro7_o11, dro7_o12, dro7_o13, dro7_o14, dro7_o15, dro7_o16, dro7_o17, dro7_o18, dro7_o19, dro7_o20, dro7_o21, dro7_o22, dro7_o23, dro7_o24, dro7_o25, dro7_o26, dro7_o27]
abbrev dro7_mem (s : Nat) : Prop := s ∈ [15, 16, 17, 18, 19, 20, 21, 22, 23, 24, 25, 26, 27, 28, 29, 30, 31, 32, 33, 34, 35, 36, 37, 38, 39, 40]
set_option maxRecDepth 100000 in
theorem dro7_slots : ∀ j, j < 26 → dro7_mem (slotOf dro7_ops j) := by
  intro j hj
  match j, hj with
  | 0, _ => exact (by decide : dro7_mem 15)
  | 1, _ => exact (by decide : dro7_mem 16)
  | 2, _ => exact (by decide : dro7_mem 17)
  | 3, _ => exact (by decide : dro7_mem 18)
  | 4, _ => exact (by decide : dro7_mem 19)
  | 5, _ => exact (by decide : dro7_mem 20)
  | 6, _ => exact (by decide : dro7_mem 21)
  | 7, _ => exact (by decide : dro7_mem 22)
  | 8, _ => exact (by decide : dro7_mem 23)
  | 9, _ => exact (by decide : dro7_mem 24)
  | 10, _ => exact (by decide : dro7_mem 25)
  | 11, _ => exact (by decide : dro7_mem 26)
  | 12, _ => exact (by decide : dro7_mem 27)
  | 13, _ => exact (by decide : dro7_mem 28)
  | 14, _ => exact (by decide : dro7_mem 29)
  | 15, _ => exact (by decide : dro7_mem 30)
  | 16, _ => exact (by decide : dro7_mem 31)
  | 17, _ => exact (by decide : dro7_mem 32)
  | 18, _ => exact (by decide : dro7_mem 33)
  | 19, _ => exact (by decide : dro7_mem 34)
  | 20, _ => exact (by decide : dro7_mem 35)
  | 21, _ => exact (by decide : dro7_mem 36)
  | 22, _ => exact (by decide : dro7_mem 37)
  | 23, _ => exact (by decide : dro7_mem 38)
  | 24, _ => exact (by decide : dro7_mem 39)
  | 25, _ => exact (by decide : dro7_mem 40)
  | k + 26, hj => omega
def dro7_val (gF oF n cF i N0 : Nat) (P : List UInt8) (pB : Option Addr) (B : List Nat) (cB : Nat) (O : Value) : Nat → Value → World → Prop
  | 0, v, w => v = O
  | 1, v, w => v = .slice (some ⟨gF, oF, none⟩) n cF
  | 2, v, w => v = .int .i64 (i : Nat)
  | 3, v, w => v = .pointer (some ⟨gF, oF + i * 2, none⟩)
  | 4, v, w => v = .pointer (some ⟨gF, oF + i * 2, none⟩)
  | 5, v, w => v = by8 P
  | 6, v, w => v = .slice (some ⟨gF, oF, none⟩) n cF
  | 7, v, w => v = .int .i64 (i : Nat)
  | 8, v, w => v = .pointer (some ⟨gF, oF + i * 2, none⟩)
  | 9, v, w => v = .pointer (some ⟨gF, oF + i * 2, none⟩)
  | 10, v, w => v = by8 P
  | 11, v, w => v = by8 (ofL P)
  | 12, v, w => v = .slice (some ⟨gF, oF, none⟩) n cF
  | 13, v, w => v = .int .i64 (i : Nat)
  | 14, v, w => v = .pointer (some ⟨gF, oF + i * 2, none⟩)
  | 15, v, w => v = .pointer (some ⟨gF, oF + i * 2 + 1, none⟩)
  | 16, v, w => v = .slice pB (B.length) cB
  | 17, v, w => v = .int .u32 (crcL B : Nat)
  | 18, v, w => v = .slice (some ⟨gF, oF, none⟩) n cF
  | 19, v, w => v = .int .i64 (i : Nat)
  | 20, v, w => v = .pointer (some ⟨gF, oF + i * 2, none⟩)
  | 21, v, w => v = .pointer (some ⟨gF, oF + i * 2 + 1, none⟩)
  | 22, v, w => v = .slice pB (B.length) cB
  | 23, v, w => v = .int .i64 ((B.length) : Nat)
  | 24, v, w => v = .agg #[by8 P, by8 (ofL P), .int .u32 (crcL B : Nat), .int .i64 (B.length : Nat)]
  | 25, v, w => ∃ g, v = .slice (some ⟨g, 0, none⟩) 1 1 ∧ w.heap[g]? = some (.cells #[by8 P, by8 (ofL P), .int .u32 (crcL B : Nat), .int .i64 (B.length : Nat)] 44 (0, 0)) ∧ N0 ≤ g
  | _, _, _ => True
theorem dro7_below (gF oF n cF i N0 : Nat) (P : List UInt8) (pB : Option Addr) (B : List Nat) (cB : Nat) (O : Value) (w w' : World) (hb : Below w.heap.size w w') : ∀ j v, dro7_val gF oF n cF i N0 P pB B cB O j v w → dro7_val gF oF n cF i N0 P pB B cB O j v w' := by
  intro j v h
  match j, h with
  | 0, h => exact h
  | 1, h => exact h
  | 2, h => exact h
  | 3, h => exact h
  | 4, h => exact h
  | 5, h => exact h
  | 6, h => exact h
  | 7, h => exact h
  | 8, h => exact h
  | 9, h => exact h
  | 10, h => exact h
  | 11, h => exact h
  | 12, h => exact h
  | 13, h => exact h
  | 14, h => exact h
  | 15, h => exact h
  | 16, h => exact h
  | 17, h => exact h
  | 18, h => exact h
  | 19, h => exact h
  | 20, h => exact h
  | 21, h => exact h
  | 22, h => exact h
  | 23, h => exact h
  | 24, h => exact h
  | 25, h => obtain ⟨g, h1, h2, h3⟩ := h; exact ⟨g, h1, (hb.block g (block_lt h2)).trans h2, h3⟩
  | _ + 26, h => exact h
set_option maxRecDepth 100000 in
set_option maxHeartbeats 2000000 in
theorem dro7_s0 {Fc : Fence} (hF : Wide Fc) {nC : Nat} (gF oF n cF i N0 : Nat) (P : List UInt8) (pB : Option Addr) (B : List Nat) (cB : Nat) (O : Value) (Q : Exit → Act → World → Prop) (df : List Deferred) (w0 : World)
    (hi : i < n) (hn : n ≤ 140737488351232) (f0 : w0.cell? ⟨gF, oF + i * 2, none⟩ = some (by8 P)) (f1 : w0.cell? ⟨gF, oF + i * 2 + 1, none⟩ = some (.slice pB (B.length) cB)) (hp : P.length ≤ 1000000) (hl : B.length ≤ cB) (hm : cB ≤ 9223372036854775807) (hz : BL w0 pB B) (hN0 : w0.heap.size = N0)
    (x : Act) (w : World) (hB : Below w0.heap.size w0 w) (hdef : x.defers = df) (u0 : x.tmps.getD 0 undef = .slice (some ⟨gF, oF, none⟩) n cF) (u4 : x.tmps.getD 4 undef = O) (u5 : x.tmps.getD 5 undef = .int .i64 (i : Nat))
    : wpOpIn Fc nC Try.prog dro7_ops Q 0 (fun a' w' => ∃ v, a' = x.put (some 15) v ∧ (v = O) ∧ Below w.heap.size w w') x w := by
  have ho : dro7_ops[0]? = some dro7_o0 := rfl
  simp only [Array.getD_eq_getD_getElem?] at u0 u4 u5
  refine wpOpIn_plain ho rfl (oper_inK hF.fn (fun K hK => ?_))
  clear ho
  rw [Oper.semAt_plain Fc _ _ (by intro c h; cases h)]
  simp only [dro7_o0]
  go_simp
  exact hK _ _ ⟨_, act_putD x hdef _ _, rfl, Below.refl _ _⟩
set_option maxRecDepth 100000 in
set_option maxHeartbeats 2000000 in
theorem dro7_s1 {Fc : Fence} (hF : Wide Fc) {nC : Nat} (gF oF n cF i N0 : Nat) (P : List UInt8) (pB : Option Addr) (B : List Nat) (cB : Nat) (O : Value) (Q : Exit → Act → World → Prop) (df : List Deferred) (w0 : World)
    (hi : i < n) (hn : n ≤ 140737488351232) (f0 : w0.cell? ⟨gF, oF + i * 2, none⟩ = some (by8 P)) (f1 : w0.cell? ⟨gF, oF + i * 2 + 1, none⟩ = some (.slice pB (B.length) cB)) (hp : P.length ≤ 1000000) (hl : B.length ≤ cB) (hm : cB ≤ 9223372036854775807) (hz : BL w0 pB B) (hN0 : w0.heap.size = N0)
    (x : Act) (w : World) (hB : Below w0.heap.size w0 w) (hdef : x.defers = df) (u0 : x.tmps.getD 0 undef = .slice (some ⟨gF, oF, none⟩) n cF) (u4 : x.tmps.getD 4 undef = O) (u5 : x.tmps.getD 5 undef = .int .i64 (i : Nat))
    : wpOpIn Fc nC Try.prog dro7_ops Q 1 (fun a' w' => ∃ v, a' = x.put (some 16) v ∧ (v = .slice (some ⟨gF, oF, none⟩) n cF) ∧ Below w.heap.size w w') x w := by
  have ho : dro7_ops[1]? = some dro7_o1 := rfl
  simp only [Array.getD_eq_getD_getElem?] at u0 u4 u5
  refine wpOpIn_plain ho rfl (oper_inK hF.fn (fun K hK => ?_))
  clear ho
  rw [Oper.semAt_plain Fc _ _ (by intro c h; cases h)]
  simp only [dro7_o1]
  go_simp
  exact hK _ _ ⟨_, act_putD x hdef _ _, rfl, Below.refl _ _⟩
set_option maxRecDepth 100000 in
set_option maxHeartbeats 2000000 in
theorem dro7_s2 {Fc : Fence} (hF : Wide Fc) {nC : Nat} (gF oF n cF i N0 : Nat) (P : List UInt8) (pB : Option Addr) (B : List Nat) (cB : Nat) (O : Value) (Q : Exit → Act → World → Prop) (df : List Deferred) (w0 : World)
    (hi : i < n) (hn : n ≤ 140737488351232) (f0 : w0.cell? ⟨gF, oF + i * 2, none⟩ = some (by8 P)) (f1 : w0.cell? ⟨gF, oF + i * 2 + 1, none⟩ = some (.slice pB (B.length) cB)) (hp : P.length ≤ 1000000) (hl : B.length ≤ cB) (hm : cB ≤ 9223372036854775807) (hz : BL w0 pB B) (hN0 : w0.heap.size = N0)
    (x : Act) (w : World) (hB : Below w0.heap.size w0 w) (hdef : x.defers = df) (u0 : x.tmps.getD 0 undef = .slice (some ⟨gF, oF, none⟩) n cF) (u4 : x.tmps.getD 4 undef = O) (u5 : x.tmps.getD 5 undef = .int .i64 (i : Nat))
    : wpOpIn Fc nC Try.prog dro7_ops Q 2 (fun a' w' => ∃ v, a' = x.put (some 17) v ∧ (v = .int .i64 (i : Nat)) ∧ Below w.heap.size w w') x w := by
  have ho : dro7_ops[2]? = some dro7_o2 := rfl
  simp only [Array.getD_eq_getD_getElem?] at u0 u4 u5
  refine wpOpIn_plain ho rfl (oper_inK hF.fn (fun K hK => ?_))
  clear ho
  rw [Oper.semAt_plain Fc _ _ (by intro c h; cases h)]
  simp only [dro7_o2]
  go_simp
  exact hK _ _ ⟨_, act_putD x hdef _ _, rfl, Below.refl _ _⟩
set_option maxRecDepth 100000 in
set_option maxHeartbeats 2000000 in
theorem dro7_s3 {Fc : Fence} (hF : Wide Fc) {nC : Nat} (gF oF n cF i N0 : Nat) (P : List UInt8) (pB : Option Addr) (B : List Nat) (cB : Nat) (O : Value) (Q : Exit → Act → World → Prop) (df : List Deferred) (w0 : World)
    (hi : i < n) (hn : n ≤ 140737488351232) (f0 : w0.cell? ⟨gF, oF + i * 2, none⟩ = some (by8 P)) (f1 : w0.cell? ⟨gF, oF + i * 2 + 1, none⟩ = some (.slice pB (B.length) cB)) (hp : P.length ≤ 1000000) (hl : B.length ≤ cB) (hm : cB ≤ 9223372036854775807) (hz : BL w0 pB B) (hN0 : w0.heap.size = N0)
    (x : Act) (w : World) (hB : Below w0.heap.size w0 w) (hdef : x.defers = df) (u0 : x.tmps.getD 0 undef = .slice (some ⟨gF, oF, none⟩) n cF) (u4 : x.tmps.getD 4 undef = O) (u5 : x.tmps.getD 5 undef = .int .i64 (i : Nat))
    (p1 : dro7_val gF oF n cF i N0 P pB B cB O 1 (x.tmps.getD 16 undef) w)
    (p2 : dro7_val gF oF n cF i N0 P pB B cB O 2 (x.tmps.getD 17 undef) w)
    : wpOpIn Fc nC Try.prog dro7_ops Q 3 (fun a' w' => ∃ v, a' = x.put (some 18) v ∧ (v = .pointer (some ⟨gF, oF + i * 2, none⟩)) ∧ Below w.heap.size w w') x w := by
  have ho : dro7_ops[3]? = some dro7_o3 := rfl
  simp only [Array.getD_eq_getD_getElem?] at u0 u4 u5
  have q1 : x.tmps.getD 16 undef = .slice (some ⟨gF, oF, none⟩) n cF := p1
  have q2 : x.tmps.getD 17 undef = .int .i64 (i : Nat) := p2
  simp only [Array.getD_eq_getD_getElem?] at q1 q2
  have i0 : (0 : Int) ≤ (i : Int) := by omega
  have i1 : (i : Int) < (n : Int) := by omega
  refine wpOpIn_plain ho rfl (oper_inK hF.fn (fun K hK => ?_))
  clear ho
  rw [Oper.semAt_plain Fc _ _ (by intro c h; cases h)]
  simp only [dro7_o3]
  go_simp
  exact hK _ _ ⟨_, act_putD x hdef _ _, rfl, Below.refl _ _⟩
set_option maxRecDepth 100000 in
set_option maxHeartbeats 2000000 in
theorem dro7_s4 {Fc : Fence} (hF : Wide Fc) {nC : Nat} (gF oF n cF i N0 : Nat) (P : List UInt8) (pB : Option Addr) (B : List Nat) (cB : Nat) (O : Value) (Q : Exit → Act → World → Prop) (df : List Deferred) (w0 : World)
    (hi : i < n) (hn : n ≤ 140737488351232) (f0 : w0.cell? ⟨gF, oF + i * 2, none⟩ = some (by8 P)) (f1 : w0.cell? ⟨gF, oF + i * 2 + 1, none⟩ = some (.slice pB (B.length) cB)) (hp : P.length ≤ 1000000) (hl : B.length ≤ cB) (hm : cB ≤ 9223372036854775807) (hz : BL w0 pB B) (hN0 : w0.heap.size = N0)
    (x : Act) (w : World) (hB : Below w0.heap.size w0 w) (hdef : x.defers = df) (u0 : x.tmps.getD 0 undef = .slice (some ⟨gF, oF, none⟩) n cF) (u4 : x.tmps.getD 4 undef = O) (u5 : x.tmps.getD 5 undef = .int .i64 (i : Nat))
    (p3 : dro7_val gF oF n cF i N0 P pB B cB O 3 (x.tmps.getD 18 undef) w)
    : wpOpIn Fc nC Try.prog dro7_ops Q 4 (fun a' w' => ∃ v, a' = x.put (some 19) v ∧ (v = .pointer (some ⟨gF, oF + i * 2, none⟩)) ∧ Below w.heap.size w w') x w := by
  have ho : dro7_ops[4]? = some dro7_o4 := rfl
  simp only [Array.getD_eq_getD_getElem?] at u0 u4 u5
  have q3 : x.tmps.getD 18 undef = .pointer (some ⟨gF, oF + i * 2, none⟩) := p3
  simp only [Array.getD_eq_getD_getElem?] at q3
  refine wpOpIn_plain ho rfl (oper_inK hF.fn (fun K hK => ?_))
  clear ho
  rw [Oper.semAt_plain Fc _ _ (by intro c h; cases h)]
  simp only [dro7_o4]
  go_simp
  exact hK _ _ ⟨_, act_putD x hdef _ _, rfl, Below.refl _ _⟩
set_option maxRecDepth 100000 in
set_option maxHeartbeats 2000000 in
theorem dro7_s5 {Fc : Fence} (hF : Wide Fc) {nC : Nat} (gF oF n cF i N0 : Nat) (P : List UInt8) (pB : Option Addr) (B : List Nat) (cB : Nat) (O : Value) (Q : Exit → Act → World → Prop) (df : List Deferred) (w0 : World)
    (hi : i < n) (hn : n ≤ 140737488351232) (f0 : w0.cell? ⟨gF, oF + i * 2, none⟩ = some (by8 P)) (f1 : w0.cell? ⟨gF, oF + i * 2 + 1, none⟩ = some (.slice pB (B.length) cB)) (hp : P.length ≤ 1000000) (hl : B.length ≤ cB) (hm : cB ≤ 9223372036854775807) (hz : BL w0 pB B) (hN0 : w0.heap.size = N0)
    (x : Act) (w : World) (hB : Below w0.heap.size w0 w) (hdef : x.defers = df) (u0 : x.tmps.getD 0 undef = .slice (some ⟨gF, oF, none⟩) n cF) (u4 : x.tmps.getD 4 undef = O) (u5 : x.tmps.getD 5 undef = .int .i64 (i : Nat))
    (p4 : dro7_val gF oF n cF i N0 P pB B cB O 4 (x.tmps.getD 19 undef) w)
    : wpOpIn Fc nC Try.prog dro7_ops Q 5 (fun a' w' => ∃ v, a' = x.put (some 20) v ∧ (v = by8 P) ∧ Below w.heap.size w w') x w := by
  have ho : dro7_ops[5]? = some dro7_o5 := rfl
  simp only [Array.getD_eq_getD_getElem?] at u0 u4 u5
  have q4 : x.tmps.getD 19 undef = .pointer (some ⟨gF, oF + i * 2, none⟩) := p4
  simp only [Array.getD_eq_getD_getElem?] at q4
  have m := cell_thru f0 hB
  refine wpOpIn_plain ho rfl (oper_inK hF.fn (fun K hK => ?_))
  clear ho
  rw [Oper.semAt_plain Fc _ _ (by intro c h; cases h)]
  simp only [dro7_o5]
  go_simp
  exact hK _ _ ⟨_, act_putD x hdef _ _, rfl, Below.refl _ _⟩
set_option maxRecDepth 100000 in
set_option maxHeartbeats 2000000 in
theorem dro7_s6 {Fc : Fence} (hF : Wide Fc) {nC : Nat} (gF oF n cF i N0 : Nat) (P : List UInt8) (pB : Option Addr) (B : List Nat) (cB : Nat) (O : Value) (Q : Exit → Act → World → Prop) (df : List Deferred) (w0 : World)
    (hi : i < n) (hn : n ≤ 140737488351232) (f0 : w0.cell? ⟨gF, oF + i * 2, none⟩ = some (by8 P)) (f1 : w0.cell? ⟨gF, oF + i * 2 + 1, none⟩ = some (.slice pB (B.length) cB)) (hp : P.length ≤ 1000000) (hl : B.length ≤ cB) (hm : cB ≤ 9223372036854775807) (hz : BL w0 pB B) (hN0 : w0.heap.size = N0)
    (x : Act) (w : World) (hB : Below w0.heap.size w0 w) (hdef : x.defers = df) (u0 : x.tmps.getD 0 undef = .slice (some ⟨gF, oF, none⟩) n cF) (u4 : x.tmps.getD 4 undef = O) (u5 : x.tmps.getD 5 undef = .int .i64 (i : Nat))
    : wpOpIn Fc nC Try.prog dro7_ops Q 6 (fun a' w' => ∃ v, a' = x.put (some 21) v ∧ (v = .slice (some ⟨gF, oF, none⟩) n cF) ∧ Below w.heap.size w w') x w := by
  have ho : dro7_ops[6]? = some dro7_o6 := rfl
  simp only [Array.getD_eq_getD_getElem?] at u0 u4 u5
  refine wpOpIn_plain ho rfl (oper_inK hF.fn (fun K hK => ?_))
  clear ho
  rw [Oper.semAt_plain Fc _ _ (by intro c h; cases h)]
  simp only [dro7_o6]
  go_simp
  exact hK _ _ ⟨_, act_putD x hdef _ _, rfl, Below.refl _ _⟩
set_option maxRecDepth 100000 in
set_option maxHeartbeats 2000000 in
theorem dro7_s7 {Fc : Fence} (hF : Wide Fc) {nC : Nat} (gF oF n cF i N0 : Nat) (P : List UInt8) (pB : Option Addr) (B : List Nat) (cB : Nat) (O : Value) (Q : Exit → Act → World → Prop) (df : List Deferred) (w0 : World)
    (hi : i < n) (hn : n ≤ 140737488351232) (f0 : w0.cell? ⟨gF, oF + i * 2, none⟩ = some (by8 P)) (f1 : w0.cell? ⟨gF, oF + i * 2 + 1, none⟩ = some (.slice pB (B.length) cB)) (hp : P.length ≤ 1000000) (hl : B.length ≤ cB) (hm : cB ≤ 9223372036854775807) (hz : BL w0 pB B) (hN0 : w0.heap.size = N0)
    (x : Act) (w : World) (hB : Below w0.heap.size w0 w) (hdef : x.defers = df) (u0 : x.tmps.getD 0 undef = .slice (some ⟨gF, oF, none⟩) n cF) (u4 : x.tmps.getD 4 undef = O) (u5 : x.tmps.getD 5 undef = .int .i64 (i : Nat))
    : wpOpIn Fc nC Try.prog dro7_ops Q 7 (fun a' w' => ∃ v, a' = x.put (some 22) v ∧ (v = .int .i64 (i : Nat)) ∧ Below w.heap.size w w') x w := by
  have ho : dro7_ops[7]? = some dro7_o7 := rfl
  simp only [Array.getD_eq_getD_getElem?] at u0 u4 u5
  refine wpOpIn_plain ho rfl (oper_inK hF.fn (fun K hK => ?_))
  clear ho
  rw [Oper.semAt_plain Fc _ _ (by intro c h; cases h)]
  simp only [dro7_o7]
  go_simp
  exact hK _ _ ⟨_, act_putD x hdef _ _, rfl, Below.refl _ _⟩
set_option maxRecDepth 100000 in
set_option maxHeartbeats 2000000 in
theorem dro7_s8 {Fc : Fence} (hF : Wide Fc) {nC : Nat} (gF oF n cF i N0 : Nat) (P : List UInt8) (pB : Option Addr) (B : List Nat) (cB : Nat) (O : Value) (Q : Exit → Act → World → Prop) (df : List Deferred) (w0 : World)
    (hi : i < n) (hn : n ≤ 140737488351232) (f0 : w0.cell? ⟨gF, oF + i * 2, none⟩ = some (by8 P)) (f1 : w0.cell? ⟨gF, oF + i * 2 + 1, none⟩ = some (.slice pB (B.length) cB)) (hp : P.length ≤ 1000000) (hl : B.length ≤ cB) (hm : cB ≤ 9223372036854775807) (hz : BL w0 pB B) (hN0 : w0.heap.size = N0)
    (x : Act) (w : World) (hB : Below w0.heap.size w0 w) (hdef : x.defers = df) (u0 : x.tmps.getD 0 undef = .slice (some ⟨gF, oF, none⟩) n cF) (u4 : x.tmps.getD 4 undef = O) (u5 : x.tmps.getD 5 undef = .int .i64 (i : Nat))
    (p6 : dro7_val gF oF n cF i N0 P pB B cB O 6 (x.tmps.getD 21 undef) w)
    (p7 : dro7_val gF oF n cF i N0 P pB B cB O 7 (x.tmps.getD 22 undef) w)
    : wpOpIn Fc nC Try.prog dro7_ops Q 8 (fun a' w' => ∃ v, a' = x.put (some 23) v ∧ (v = .pointer (some ⟨gF, oF + i * 2, none⟩)) ∧ Below w.heap.size w w') x w := by
  have ho : dro7_ops[8]? = some dro7_o8 := rfl
  simp only [Array.getD_eq_getD_getElem?] at u0 u4 u5
  have q6 : x.tmps.getD 21 undef = .slice (some ⟨gF, oF, none⟩) n cF := p6
  have q7 : x.tmps.getD 22 undef = .int .i64 (i : Nat) := p7
  simp only [Array.getD_eq_getD_getElem?] at q6 q7
  have i0 : (0 : Int) ≤ (i : Int) := by omega
  have i1 : (i : Int) < (n : Int) := by omega
  refine wpOpIn_plain ho rfl (oper_inK hF.fn (fun K hK => ?_))
  clear ho
  rw [Oper.semAt_plain Fc _ _ (by intro c h; cases h)]
  simp only [dro7_o8]
  go_simp
  exact hK _ _ ⟨_, act_putD x hdef _ _, rfl, Below.refl _ _⟩
set_option maxRecDepth 100000 in
set_option maxHeartbeats 2000000 in
theorem dro7_s9 {Fc : Fence} (hF : Wide Fc) {nC : Nat} (gF oF n cF i N0 : Nat) (P : List UInt8) (pB : Option Addr) (B : List Nat) (cB : Nat) (O : Value) (Q : Exit → Act → World → Prop) (df : List Deferred) (w0 : World)
    (hi : i < n) (hn : n ≤ 140737488351232) (f0 : w0.cell? ⟨gF, oF + i * 2, none⟩ = some (by8 P)) (f1 : w0.cell? ⟨gF, oF + i * 2 + 1, none⟩ = some (.slice pB (B.length) cB)) (hp : P.length ≤ 1000000) (hl : B.length ≤ cB) (hm : cB ≤ 9223372036854775807) (hz : BL w0 pB B) (hN0 : w0.heap.size = N0)
    (x : Act) (w : World) (hB : Below w0.heap.size w0 w) (hdef : x.defers = df) (u0 : x.tmps.getD 0 undef = .slice (some ⟨gF, oF, none⟩) n cF) (u4 : x.tmps.getD 4 undef = O) (u5 : x.tmps.getD 5 undef = .int .i64 (i : Nat))
    (p8 : dro7_val gF oF n cF i N0 P pB B cB O 8 (x.tmps.getD 23 undef) w)
    : wpOpIn Fc nC Try.prog dro7_ops Q 9 (fun a' w' => ∃ v, a' = x.put (some 24) v ∧ (v = .pointer (some ⟨gF, oF + i * 2, none⟩)) ∧ Below w.heap.size w w') x w := by
  have ho : dro7_ops[9]? = some dro7_o9 := rfl
  simp only [Array.getD_eq_getD_getElem?] at u0 u4 u5
  have q8 : x.tmps.getD 23 undef = .pointer (some ⟨gF, oF + i * 2, none⟩) := p8
  simp only [Array.getD_eq_getD_getElem?] at q8
  refine wpOpIn_plain ho rfl (oper_inK hF.fn (fun K hK => ?_))
  clear ho
  rw [Oper.semAt_plain Fc _ _ (by intro c h; cases h)]
  simp only [dro7_o9]
  go_simp
  exact hK _ _ ⟨_, act_putD x hdef _ _, rfl, Below.refl _ _⟩
set_option maxRecDepth 100000 in
set_option maxHeartbeats 2000000 in
theorem dro7_s10 {Fc : Fence} (hF : Wide Fc) {nC : Nat} (gF oF n cF i N0 : Nat) (P : List UInt8) (pB : Option Addr) (B : List Nat) (cB : Nat) (O : Value) (Q : Exit → Act → World → Prop) (df : List Deferred) (w0 : World)
    (hi : i < n) (hn : n ≤ 140737488351232) (f0 : w0.cell? ⟨gF, oF + i * 2, none⟩ = some (by8 P)) (f1 : w0.cell? ⟨gF, oF + i * 2 + 1, none⟩ = some (.slice pB (B.length) cB)) (hp : P.length ≤ 1000000) (hl : B.length ≤ cB) (hm : cB ≤ 9223372036854775807) (hz : BL w0 pB B) (hN0 : w0.heap.size = N0)
    (x : Act) (w : World) (hB : Below w0.heap.size w0 w) (hdef : x.defers = df) (u0 : x.tmps.getD 0 undef = .slice (some ⟨gF, oF, none⟩) n cF) (u4 : x.tmps.getD 4 undef = O) (u5 : x.tmps.getD 5 undef = .int .i64 (i : Nat))
    (p9 : dro7_val gF oF n cF i N0 P pB B cB O 9 (x.tmps.getD 24 undef) w)
    : wpOpIn Fc nC Try.prog dro7_ops Q 10 (fun a' w' => ∃ v, a' = x.put (some 25) v ∧ (v = by8 P) ∧ Below w.heap.size w w') x w := by
  have ho : dro7_ops[10]? = some dro7_o10 := rfl
  simp only [Array.getD_eq_getD_getElem?] at u0 u4 u5
  have q9 : x.tmps.getD 24 undef = .pointer (some ⟨gF, oF + i * 2, none⟩) := p9
  simp only [Array.getD_eq_getD_getElem?] at q9
  have m := cell_thru f0 hB
  refine wpOpIn_plain ho rfl (oper_inK hF.fn (fun K hK => ?_))
  clear ho
  rw [Oper.semAt_plain Fc _ _ (by intro c h; cases h)]
  simp only [dro7_o10]
  go_simp
  exact hK _ _ ⟨_, act_putD x hdef _ _, rfl, Below.refl _ _⟩
set_option maxRecDepth 100000 in
set_option maxHeartbeats 2000000 in
theorem dro7_s11 {Fc : Fence} (hF : Wide Fc) {nC : Nat} (gF oF n cF i N0 : Nat) (P : List UInt8) (pB : Option Addr) (B : List Nat) (cB : Nat) (O : Value) (Q : Exit → Act → World → Prop) (df : List Deferred) (w0 : World)
    (hi : i < n) (hn : n ≤ 140737488351232) (f0 : w0.cell? ⟨gF, oF + i * 2, none⟩ = some (by8 P)) (f1 : w0.cell? ⟨gF, oF + i * 2 + 1, none⟩ = some (.slice pB (B.length) cB)) (hp : P.length ≤ 1000000) (hl : B.length ≤ cB) (hm : cB ≤ 9223372036854775807) (hz : BL w0 pB B) (hN0 : w0.heap.size = N0)
    (x : Act) (w : World) (hB : Below w0.heap.size w0 w) (hdef : x.defers = df) (u0 : x.tmps.getD 0 undef = .slice (some ⟨gF, oF, none⟩) n cF) (u4 : x.tmps.getD 4 undef = O) (u5 : x.tmps.getD 5 undef = .int .i64 (i : Nat))
    (p10 : dro7_val gF oF n cF i N0 P pB B cB O 10 (x.tmps.getD 25 undef) w)
    : wpOpIn Fc nC Try.prog dro7_ops Q 11 (fun a' w' => ∃ v, a' = x.put (some 26) v ∧ (v = by8 (ofL P)) ∧ Below w.heap.size w w') x w := by
  have ho : dro7_ops[11]? = some dro7_o11 := rfl
  simp only [Array.getD_eq_getD_getElem?] at u0 u4 u5
  have q10 : x.tmps.getD 25 undef = by8 P := p10
  simp only [Array.getD_eq_getD_getElem?] at q10
  refine wpOpIn_plain ho rfl (oper_inK hF.fn (fun K hK => ?_))
  clear ho
  rw [Oper.semAt_plain Fc _ _ (by intro c h; cases h)]
  simp only [dro7_o11]
  go_simp
  refine ⟨hF.deep, (hF.call (refOf_any P w hp)).mono ?_⟩
  rintro e w' ⟨rfl, hb⟩
  exact hK _ _ ⟨_, act_putD x hdef _ _, rfl, hb⟩
set_option maxRecDepth 100000 in
set_option maxHeartbeats 2000000 in
theorem dro7_s12 {Fc : Fence} (hF : Wide Fc) {nC : Nat} (gF oF n cF i N0 : Nat) (P : List UInt8) (pB : Option Addr) (B : List Nat) (cB : Nat) (O : Value) (Q : Exit → Act → World → Prop) (df : List Deferred) (w0 : World)
    (hi : i < n) (hn : n ≤ 140737488351232) (f0 : w0.cell? ⟨gF, oF + i * 2, none⟩ = some (by8 P)) (f1 : w0.cell? ⟨gF, oF + i * 2 + 1, none⟩ = some (.slice pB (B.length) cB)) (hp : P.length ≤ 1000000) (hl : B.length ≤ cB) (hm : cB ≤ 9223372036854775807) (hz : BL w0 pB B) (hN0 : w0.heap.size = N0)
    (x : Act) (w : World) (hB : Below w0.heap.size w0 w) (hdef : x.defers = df) (u0 : x.tmps.getD 0 undef = .slice (some ⟨gF, oF, none⟩) n cF) (u4 : x.tmps.getD 4 undef = O) (u5 : x.tmps.getD 5 undef = .int .i64 (i : Nat))
    : wpOpIn Fc nC Try.prog dro7_ops Q 12 (fun a' w' => ∃ v, a' = x.put (some 27) v ∧ (v = .slice (some ⟨gF, oF, none⟩) n cF) ∧ Below w.heap.size w w') x w := by
  have ho : dro7_ops[12]? = some dro7_o12 := rfl
  simp only [Array.getD_eq_getD_getElem?] at u0 u4 u5
  refine wpOpIn_plain ho rfl (oper_inK hF.fn (fun K hK => ?_))
  clear ho
  rw [Oper.semAt_plain Fc _ _ (by intro c h; cases h)]
  simp only [dro7_o12]
  go_simp
  exact hK _ _ ⟨_, act_putD x hdef _ _, rfl, Below.refl _ _⟩
set_option maxRecDepth 100000 in
set_option maxHeartbeats 2000000 in
theorem dro7_s13 {Fc : Fence} (hF : Wide Fc) {nC : Nat} (gF oF n cF i N0 : Nat) (P : List UInt8) (pB : Option Addr) (B : List Nat) (cB : Nat) (O : Value) (Q : Exit → Act → World → Prop) (df : List Deferred) (w0 : World)
    (hi : i < n) (hn : n ≤ 140737488351232) (f0 : w0.cell? ⟨gF, oF + i * 2, none⟩ = some (by8 P)) (f1 : w0.cell? ⟨gF, oF + i * 2 + 1, none⟩ = some (.slice pB (B.length) cB)) (hp : P.length ≤ 1000000) (hl : B.length ≤ cB) (hm : cB ≤ 9223372036854775807) (hz : BL w0 pB B) (hN0 : w0.heap.size = N0)
    (x : Act) (w : World) (hB : Below w0.heap.size w0 w) (hdef : x.defers = df) (u0 : x.tmps.getD 0 undef = .slice (some ⟨gF, oF, none⟩) n cF) (u4 : x.tmps.getD 4 undef = O) (u5 : x.tmps.getD 5 undef = .int .i64 (i : Nat))
    : wpOpIn Fc nC Try.prog dro7_ops Q 13 (fun a' w' => ∃ v, a' = x.put (some 28) v ∧ (v = .int .i64 (i : Nat)) ∧ Below w.heap.size w w') x w := by
  have ho : dro7_ops[13]? = some dro7_o13 := rfl
  simp only [Array.getD_eq_getD_getElem?] at u0 u4 u5
  refine wpOpIn_plain ho rfl (oper_inK hF.fn (fun K hK => ?_))
  clear ho
  rw [Oper.semAt_plain Fc _ _ (by intro c h; cases h)]
  simp only [dro7_o13]
  go_simp
  exact hK _ _ ⟨_, act_putD x hdef _ _, rfl, Below.refl _ _⟩
set_option maxRecDepth 100000 in
set_option maxHeartbeats 2000000 in
theorem dro7_s14 {Fc : Fence} (hF : Wide Fc) {nC : Nat} (gF oF n cF i N0 : Nat) (P : List UInt8) (pB : Option Addr) (B : List Nat) (cB : Nat) (O : Value) (Q : Exit → Act → World → Prop) (df : List Deferred) (w0 : World)
    (hi : i < n) (hn : n ≤ 140737488351232) (f0 : w0.cell? ⟨gF, oF + i * 2, none⟩ = some (by8 P)) (f1 : w0.cell? ⟨gF, oF + i * 2 + 1, none⟩ = some (.slice pB (B.length) cB)) (hp : P.length ≤ 1000000) (hl : B.length ≤ cB) (hm : cB ≤ 9223372036854775807) (hz : BL w0 pB B) (hN0 : w0.heap.size = N0)
    (x : Act) (w : World) (hB : Below w0.heap.size w0 w) (hdef : x.defers = df) (u0 : x.tmps.getD 0 undef = .slice (some ⟨gF, oF, none⟩) n cF) (u4 : x.tmps.getD 4 undef = O) (u5 : x.tmps.getD 5 undef = .int .i64 (i : Nat))
    (p12 : dro7_val gF oF n cF i N0 P pB B cB O 12 (x.tmps.getD 27 undef) w)
    (p13 : dro7_val gF oF n cF i N0 P pB B cB O 13 (x.tmps.getD 28 undef) w)
    : wpOpIn Fc nC Try.prog dro7_ops Q 14 (fun a' w' => ∃ v, a' = x.put (some 29) v ∧ (v = .pointer (some ⟨gF, oF + i * 2, none⟩)) ∧ Below w.heap.size w w') x w := by
  have ho : dro7_ops[14]? = some dro7_o14 := rfl
  simp only [Array.getD_eq_getD_getElem?] at u0 u4 u5
  have q12 : x.tmps.getD 27 undef = .slice (some ⟨gF, oF, none⟩) n cF := p12
  have q13 : x.tmps.getD 28 undef = .int .i64 (i : Nat) := p13
  simp only [Array.getD_eq_getD_getElem?] at q12 q13
  have i0 : (0 : Int) ≤ (i : Int) := by omega
  have i1 : (i : Int) < (n : Int) := by omega
  refine wpOpIn_plain ho rfl (oper_inK hF.fn (fun K hK => ?_))
  clear ho
  rw [Oper.semAt_plain Fc _ _ (by intro c h; cases h)]
  simp only [dro7_o14]
  go_simp
  exact hK _ _ ⟨_, act_putD x hdef _ _, rfl, Below.refl _ _⟩
set_option maxRecDepth 100000 in
set_option maxHeartbeats 2000000 in
theorem dro7_s15 {Fc : Fence} (hF : Wide Fc) {nC : Nat} (gF oF n cF i N0 : Nat) (P : List UInt8) (pB : Option Addr) (B : List Nat) (cB : Nat) (O : Value) (Q : Exit → Act → World → Prop) (df : List Deferred) (w0 : World)
    (hi : i < n) (hn : n ≤ 140737488351232) (f0 : w0.cell? ⟨gF, oF + i * 2, none⟩ = some (by8 P)) (f1 : w0.cell? ⟨gF, oF + i * 2 + 1, none⟩ = some (.slice pB (B.length) cB)) (hp : P.length ≤ 1000000) (hl : B.length ≤ cB) (hm : cB ≤ 9223372036854775807) (hz : BL w0 pB B) (hN0 : w0.heap.size = N0)
    (x : Act) (w : World) (hB : Below w0.heap.size w0 w) (hdef : x.defers = df) (u0 : x.tmps.getD 0 undef = .slice (some ⟨gF, oF, none⟩) n cF) (u4 : x.tmps.getD 4 undef = O) (u5 : x.tmps.getD 5 undef = .int .i64 (i : Nat))
    (p14 : dro7_val gF oF n cF i N0 P pB B cB O 14 (x.tmps.getD 29 undef) w)
    : wpOpIn Fc nC Try.prog dro7_ops Q 15 (fun a' w' => ∃ v, a' = x.put (some 30) v ∧ (v = .pointer (some ⟨gF, oF + i * 2 + 1, none⟩)) ∧ Below w.heap.size w w') x w := by
  have ho : dro7_ops[15]? = some dro7_o15 := rfl
  simp only [Array.getD_eq_getD_getElem?] at u0 u4 u5
  have q14 : x.tmps.getD 29 undef = .pointer (some ⟨gF, oF + i * 2, none⟩) := p14
  simp only [Array.getD_eq_getD_getElem?] at q14
  refine wpOpIn_plain ho rfl (oper_inK hF.fn (fun K hK => ?_))
  clear ho
  rw [Oper.semAt_plain Fc _ _ (by intro c h; cases h)]
  simp only [dro7_o15]
  go_simp
  exact hK _ _ ⟨_, act_putD x hdef _ _, rfl, Below.refl _ _⟩
set_option maxRecDepth 100000 in
set_option maxHeartbeats 2000000 in
theorem dro7_s16 {Fc : Fence} (hF : Wide Fc) {nC : Nat} (gF oF n cF i N0 : Nat) (P : List UInt8) (pB : Option Addr) (B : List Nat) (cB : Nat) (O : Value) (Q : Exit → Act → World → Prop) (df : List Deferred) (w0 : World)
    (hi : i < n) (hn : n ≤ 140737488351232) (f0 : w0.cell? ⟨gF, oF + i * 2, none⟩ = some (by8 P)) (f1 : w0.cell? ⟨gF, oF + i * 2 + 1, none⟩ = some (.slice pB (B.length) cB)) (hp : P.length ≤ 1000000) (hl : B.length ≤ cB) (hm : cB ≤ 9223372036854775807) (hz : BL w0 pB B) (hN0 : w0.heap.size = N0)
    (x : Act) (w : World) (hB : Below w0.heap.size w0 w) (hdef : x.defers = df) (u0 : x.tmps.getD 0 undef = .slice (some ⟨gF, oF, none⟩) n cF) (u4 : x.tmps.getD 4 undef = O) (u5 : x.tmps.getD 5 undef = .int .i64 (i : Nat))
    (p15 : dro7_val gF oF n cF i N0 P pB B cB O 15 (x.tmps.getD 30 undef) w)
    : wpOpIn Fc nC Try.prog dro7_ops Q 16 (fun a' w' => ∃ v, a' = x.put (some 31) v ∧ (v = .slice pB (B.length) cB) ∧ Below w.heap.size w w') x w := by
  have ho : dro7_ops[16]? = some dro7_o16 := rfl
  simp only [Array.getD_eq_getD_getElem?] at u0 u4 u5
  have q15 : x.tmps.getD 30 undef = .pointer (some ⟨gF, oF + i * 2 + 1, none⟩) := p15
  simp only [Array.getD_eq_getD_getElem?] at q15
  have m := cell_thru f1 hB
  refine wpOpIn_plain ho rfl (oper_inK hF.fn (fun K hK => ?_))
  clear ho
  rw [Oper.semAt_plain Fc _ _ (by intro c h; cases h)]
  simp only [dro7_o16]
  go_simp
  exact hK _ _ ⟨_, act_putD x hdef _ _, rfl, Below.refl _ _⟩
set_option maxRecDepth 100000 in
set_option maxHeartbeats 2000000 in
theorem dro7_s17 {Fc : Fence} (hF : Wide Fc) {nC : Nat} (gF oF n cF i N0 : Nat) (P : List UInt8) (pB : Option Addr) (B : List Nat) (cB : Nat) (O : Value) (Q : Exit → Act → World → Prop) (df : List Deferred) (w0 : World)
    (hi : i < n) (hn : n ≤ 140737488351232) (f0 : w0.cell? ⟨gF, oF + i * 2, none⟩ = some (by8 P)) (f1 : w0.cell? ⟨gF, oF + i * 2 + 1, none⟩ = some (.slice pB (B.length) cB)) (hp : P.length ≤ 1000000) (hl : B.length ≤ cB) (hm : cB ≤ 9223372036854775807) (hz : BL w0 pB B) (hN0 : w0.heap.size = N0)
    (x : Act) (w : World) (hB : Below w0.heap.size w0 w) (hdef : x.defers = df) (u0 : x.tmps.getD 0 undef = .slice (some ⟨gF, oF, none⟩) n cF) (u4 : x.tmps.getD 4 undef = O) (u5 : x.tmps.getD 5 undef = .int .i64 (i : Nat))
    (p16 : dro7_val gF oF n cF i N0 P pB B cB O 16 (x.tmps.getD 31 undef) w)
    : wpOpIn Fc nC Try.prog dro7_ops Q 17 (fun a' w' => ∃ v, a' = x.put (some 32) v ∧ (v = .int .u32 (crcL B : Nat)) ∧ Below w.heap.size w w') x w := by
  have ho : dro7_ops[17]? = some dro7_o17 := rfl
  simp only [Array.getD_eq_getD_getElem?] at u0 u4 u5
  have q16 : x.tmps.getD 31 undef = .slice pB (B.length) cB := p16
  simp only [Array.getD_eq_getD_getElem?] at q16
  refine wpOpIn_plain ho rfl (oper_inK hF.fn (fun K hK => ?_))
  clear ho
  rw [Oper.semAt_plain Fc _ _ (by intro c h; cases h)]
  simp only [dro7_o17]
  go_simp
  refine ⟨hF.deep, (hF.call (refOne_any pB B.length cB (fun i => B.getD i 0) w (by omega) (hz.below hB))).mono ?_⟩
  rintro e w' ⟨rfl, rfl⟩
  exact hK _ _ ⟨_, act_putD x hdef _ _, rfl, Below.refl _ _⟩
set_option maxRecDepth 100000 in
set_option maxHeartbeats 2000000 in
theorem dro7_s18 {Fc : Fence} (hF : Wide Fc) {nC : Nat} (gF oF n cF i N0 : Nat) (P : List UInt8) (pB : Option Addr) (B : List Nat) (cB : Nat) (O : Value) (Q : Exit → Act → World → Prop) (df : List Deferred) (w0 : World)
    (hi : i < n) (hn : n ≤ 140737488351232) (f0 : w0.cell? ⟨gF, oF + i * 2, none⟩ = some (by8 P)) (f1 : w0.cell? ⟨gF, oF + i * 2 + 1, none⟩ = some (.slice pB (B.length) cB)) (hp : P.length ≤ 1000000) (hl : B.length ≤ cB) (hm : cB ≤ 9223372036854775807) (hz : BL w0 pB B) (hN0 : w0.heap.size = N0)
    (x : Act) (w : World) (hB : Below w0.heap.size w0 w) (hdef : x.defers = df) (u0 : x.tmps.getD 0 undef = .slice (some ⟨gF, oF, none⟩) n cF) (u4 : x.tmps.getD 4 undef = O) (u5 : x.tmps.getD 5 undef = .int .i64 (i : Nat))
    : wpOpIn Fc nC Try.prog dro7_ops Q 18 (fun a' w' => ∃ v, a' = x.put (some 33) v ∧ (v = .slice (some ⟨gF, oF, none⟩) n cF) ∧ Below w.heap.size w w') x w := by
  have ho : dro7_ops[18]? = some dro7_o18 := rfl
  simp only [Array.getD_eq_getD_getElem?] at u0 u4 u5
  refine wpOpIn_plain ho rfl (oper_inK hF.fn (fun K hK => ?_))
  clear ho
  rw [Oper.semAt_plain Fc _ _ (by intro c h; cases h)]
  simp only [dro7_o18]
  go_simp
  exact hK _ _ ⟨_, act_putD x hdef _ _, rfl, Below.refl _ _⟩
set_option maxRecDepth 100000 in
set_option maxHeartbeats 2000000 in
theorem dro7_s19 {Fc : Fence} (hF : Wide Fc) {nC : Nat} (gF oF n cF i N0 : Nat) (P : List UInt8) (pB : Option Addr) (B : List Nat) (cB : Nat) (O : Value) (Q : Exit → Act → World → Prop) (df : List Deferred) (w0 : World)
    (hi : i < n) (hn : n ≤ 140737488351232) (f0 : w0.cell? ⟨gF, oF + i * 2, none⟩ = some (by8 P)) (f1 : w0.cell? ⟨gF, oF + i * 2 + 1, none⟩ = some (.slice pB (B.length) cB)) (hp : P.length ≤ 1000000) (hl : B.length ≤ cB) (hm : cB ≤ 9223372036854775807) (hz : BL w0 pB B) (hN0 : w0.heap.size = N0)
    (x : Act) (w : World) (hB : Below w0.heap.size w0 w) (hdef : x.defers = df) (u0 : x.tmps.getD 0 undef = .slice (some ⟨gF, oF, none⟩) n cF) (u4 : x.tmps.getD 4 undef = O) (u5 : x.tmps.getD 5 undef = .int .i64 (i : Nat))
    : wpOpIn Fc nC Try.prog dro7_ops Q 19 (fun a' w' => ∃ v, a' = x.put (some 34) v ∧ (v = .int .i64 (i : Nat)) ∧ Below w.heap.size w w') x w := by
  have ho : dro7_ops[19]? = some dro7_o19 := rfl
  simp only [Array.getD_eq_getD_getElem?] at u0 u4 u5
  refine wpOpIn_plain ho rfl (oper_inK hF.fn (fun K hK => ?_))
  clear ho
  rw [Oper.semAt_plain Fc _ _ (by intro c h; cases h)]
  simp only [dro7_o19]
  go_simp
  exact hK _ _ ⟨_, act_putD x hdef _ _, rfl, Below.refl _ _⟩
set_option maxRecDepth 100000 in
set_option maxHeartbeats 2000000 in
theorem dro7_s20 {Fc : Fence} (hF : Wide Fc) {nC : Nat} (gF oF n cF i N0 : Nat) (P : List UInt8) (pB : Option Addr) (B : List Nat) (cB : Nat) (O : Value) (Q : Exit → Act → World → Prop) (df : List Deferred) (w0 : World)
    (hi : i < n) (hn : n ≤ 140737488351232) (f0 : w0.cell? ⟨gF, oF + i * 2, none⟩ = some (by8 P)) (f1 : w0.cell? ⟨gF, oF + i * 2 + 1, none⟩ = some (.slice pB (B.length) cB)) (hp : P.length ≤ 1000000) (hl : B.length ≤ cB) (hm : cB ≤ 9223372036854775807) (hz : BL w0 pB B) (hN0 : w0.heap.size = N0)
    (x : Act) (w : World) (hB : Below w0.heap.size w0 w) (hdef : x.defers = df) (u0 : x.tmps.getD 0 undef = .slice (some ⟨gF, oF, none⟩) n cF) (u4 : x.tmps.getD 4 undef = O) (u5 : x.tmps.getD 5 undef = .int .i64 (i : Nat))
    (p18 : dro7_val gF oF n cF i N0 P pB B cB O 18 (x.tmps.getD 33 undef) w)
    (p19 : dro7_val gF oF n cF i N0 P pB B cB O 19 (x.tmps.getD 34 undef) w)
    : wpOpIn Fc nC Try.prog dro7_ops Q 20 (fun a' w' => ∃ v, a' = x.put (some 35) v ∧ (v = .pointer (some ⟨gF, oF + i * 2, none⟩)) ∧ Below w.heap.size w w') x w := by
  have ho : dro7_ops[20]? = some dro7_o20 := rfl
  simp only [Array.getD_eq_getD_getElem?] at u0 u4 u5
  have q18 : x.tmps.getD 33 undef = .slice (some ⟨gF, oF, none⟩) n cF := p18
  have q19 : x.tmps.getD 34 undef = .int .i64 (i : Nat) := p19
  simp only [Array.getD_eq_getD_getElem?] at q18 q19
  have i0 : (0 : Int) ≤ (i : Int) := by omega
  have i1 : (i : Int) < (n : Int) := by omega
  refine wpOpIn_plain ho rfl (oper_inK hF.fn (fun K hK => ?_))
  clear ho
  rw [Oper.semAt_plain Fc _ _ (by intro c h; cases h)]
  simp only [dro7_o20]
  go_simp
  exact hK _ _ ⟨_, act_putD x hdef _ _, rfl, Below.refl _ _⟩
set_option maxRecDepth 100000 in
set_option maxHeartbeats 2000000 in
theorem dro7_s21 {Fc : Fence} (hF : Wide Fc) {nC : Nat} (gF oF n cF i N0 : Nat) (P : List UInt8) (pB : Option Addr) (B : List Nat) (cB : Nat) (O : Value) (Q : Exit → Act → World → Prop) (df : List Deferred) (w0 : World)
    (hi : i < n) (hn : n ≤ 140737488351232) (f0 : w0.cell? ⟨gF, oF + i * 2, none⟩ = some (by8 P)) (f1 : w0.cell? ⟨gF, oF + i * 2 + 1, none⟩ = some (.slice pB (B.length) cB)) (hp : P.length ≤ 1000000) (hl : B.length ≤ cB) (hm : cB ≤ 9223372036854775807) (hz : BL w0 pB B) (hN0 : w0.heap.size = N0)
    (x : Act) (w : World) (hB : Below w0.heap.size w0 w) (hdef : x.defers = df) (u0 : x.tmps.getD 0 undef = .slice (some ⟨gF, oF, none⟩) n cF) (u4 : x.tmps.getD 4 undef = O) (u5 : x.tmps.getD 5 undef = .int .i64 (i : Nat))
    (p20 : dro7_val gF oF n cF i N0 P pB B cB O 20 (x.tmps.getD 35 undef) w)
    : wpOpIn Fc nC Try.prog dro7_ops Q 21 (fun a' w' => ∃ v, a' = x.put (some 36) v ∧ (v = .pointer (some ⟨gF, oF + i * 2 + 1, none⟩)) ∧ Below w.heap.size w w') x w := by
  have ho : dro7_ops[21]? = some dro7_o21 := rfl
  simp only [Array.getD_eq_getD_getElem?] at u0 u4 u5
  have q20 : x.tmps.getD 35 undef = .pointer (some ⟨gF, oF + i * 2, none⟩) := p20
  simp only [Array.getD_eq_getD_getElem?] at q20
  refine wpOpIn_plain ho rfl (oper_inK hF.fn (fun K hK => ?_))
  clear ho
  rw [Oper.semAt_plain Fc _ _ (by intro c h; cases h)]
  simp only [dro7_o21]
  go_simp
  exact hK _ _ ⟨_, act_putD x hdef _ _, rfl, Below.refl _ _⟩
set_option maxRecDepth 100000 in
set_option maxHeartbeats 2000000 in
theorem dro7_s22 {Fc : Fence} (hF : Wide Fc) {nC : Nat} (gF oF n cF i N0 : Nat) (P : List UInt8) (pB : Option Addr) (B : List Nat) (cB : Nat) (O : Value) (Q : Exit → Act → World → Prop) (df : List Deferred) (w0 : World)
    (hi : i < n) (hn : n ≤ 140737488351232) (f0 : w0.cell? ⟨gF, oF + i * 2, none⟩ = some (by8 P)) (f1 : w0.cell? ⟨gF, oF + i * 2 + 1, none⟩ = some (.slice pB (B.length) cB)) (hp : P.length ≤ 1000000) (hl : B.length ≤ cB) (hm : cB ≤ 9223372036854775807) (hz : BL w0 pB B) (hN0 : w0.heap.size = N0)
    (x : Act) (w : World) (hB : Below w0.heap.size w0 w) (hdef : x.defers = df) (u0 : x.tmps.getD 0 undef = .slice (some ⟨gF, oF, none⟩) n cF) (u4 : x.tmps.getD 4 undef = O) (u5 : x.tmps.getD 5 undef = .int .i64 (i : Nat))
    (p21 : dro7_val gF oF n cF i N0 P pB B cB O 21 (x.tmps.getD 36 undef) w)
    : wpOpIn Fc nC Try.prog dro7_ops Q 22 (fun a' w' => ∃ v, a' = x.put (some 37) v ∧ (v = .slice pB (B.length) cB) ∧ Below w.heap.size w w') x w := by
  have ho : dro7_ops[22]? = some dro7_o22 := rfl
  simp only [Array.getD_eq_getD_getElem?] at u0 u4 u5
  have q21 : x.tmps.getD 36 undef = .pointer (some ⟨gF, oF + i * 2 + 1, none⟩) := p21
  simp only [Array.getD_eq_getD_getElem?] at q21
  have m := cell_thru f1 hB
  refine wpOpIn_plain ho rfl (oper_inK hF.fn (fun K hK => ?_))
  clear ho
  rw [Oper.semAt_plain Fc _ _ (by intro c h; cases h)]
  simp only [dro7_o22]
  go_simp
  exact hK _ _ ⟨_, act_putD x hdef _ _, rfl, Below.refl _ _⟩
set_option maxRecDepth 100000 in
set_option maxHeartbeats 2000000 in
theorem dro7_s23 {Fc : Fence} (hF : Wide Fc) {nC : Nat} (gF oF n cF i N0 : Nat) (P : List UInt8) (pB : Option Addr) (B : List Nat) (cB : Nat) (O : Value) (Q : Exit → Act → World → Prop) (df : List Deferred) (w0 : World)
    (hi : i < n) (hn : n ≤ 140737488351232) (f0 : w0.cell? ⟨gF, oF + i * 2, none⟩ = some (by8 P)) (f1 : w0.cell? ⟨gF, oF + i * 2 + 1, none⟩ = some (.slice pB (B.length) cB)) (hp : P.length ≤ 1000000) (hl : B.length ≤ cB) (hm : cB ≤ 9223372036854775807) (hz : BL w0 pB B) (hN0 : w0.heap.size = N0)
    (x : Act) (w : World) (hB : Below w0.heap.size w0 w) (hdef : x.defers = df) (u0 : x.tmps.getD 0 undef = .slice (some ⟨gF, oF, none⟩) n cF) (u4 : x.tmps.getD 4 undef = O) (u5 : x.tmps.getD 5 undef = .int .i64 (i : Nat))
    (p22 : dro7_val gF oF n cF i N0 P pB B cB O 22 (x.tmps.getD 37 undef) w)
    : wpOpIn Fc nC Try.prog dro7_ops Q 23 (fun a' w' => ∃ v, a' = x.put (some 38) v ∧ (v = .int .i64 ((B.length) : Nat)) ∧ Below w.heap.size w w') x w := by
  have ho : dro7_ops[23]? = some dro7_o23 := rfl
  simp only [Array.getD_eq_getD_getElem?] at u0 u4 u5
  have q22 : x.tmps.getD 37 undef = .slice pB (B.length) cB := p22
  simp only [Array.getD_eq_getD_getElem?] at q22
  refine wpOpIn_plain ho rfl (oper_inK hF.fn (fun K hK => ?_))
  clear ho
  rw [Oper.semAt_plain Fc _ _ (by intro c h; cases h)]
  simp only [dro7_o23]
  go_simp
  exact hK _ _ ⟨_, act_putD x hdef _ _, rfl, Below.refl _ _⟩
set_option maxRecDepth 100000 in
set_option maxHeartbeats 2000000 in
theorem dro7_s24 {Fc : Fence} (hF : Wide Fc) {nC : Nat} (gF oF n cF i N0 : Nat) (P : List UInt8) (pB : Option Addr) (B : List Nat) (cB : Nat) (O : Value) (Q : Exit → Act → World → Prop) (df : List Deferred) (w0 : World)
    (hi : i < n) (hn : n ≤ 140737488351232) (f0 : w0.cell? ⟨gF, oF + i * 2, none⟩ = some (by8 P)) (f1 : w0.cell? ⟨gF, oF + i * 2 + 1, none⟩ = some (.slice pB (B.length) cB)) (hp : P.length ≤ 1000000) (hl : B.length ≤ cB) (hm : cB ≤ 9223372036854775807) (hz : BL w0 pB B) (hN0 : w0.heap.size = N0)
    (x : Act) (w : World) (hB : Below w0.heap.size w0 w) (hdef : x.defers = df) (u0 : x.tmps.getD 0 undef = .slice (some ⟨gF, oF, none⟩) n cF) (u4 : x.tmps.getD 4 undef = O) (u5 : x.tmps.getD 5 undef = .int .i64 (i : Nat))
    (p5 : dro7_val gF oF n cF i N0 P pB B cB O 5 (x.tmps.getD 20 undef) w)
    (p11 : dro7_val gF oF n cF i N0 P pB B cB O 11 (x.tmps.getD 26 undef) w)
    (p17 : dro7_val gF oF n cF i N0 P pB B cB O 17 (x.tmps.getD 32 undef) w)
    (p23 : dro7_val gF oF n cF i N0 P pB B cB O 23 (x.tmps.getD 38 undef) w)
    : wpOpIn Fc nC Try.prog dro7_ops Q 24 (fun a' w' => ∃ v, a' = x.put (some 39) v ∧ (v = .agg #[by8 P, by8 (ofL P), .int .u32 (crcL B : Nat), .int .i64 (B.length : Nat)]) ∧ Below w.heap.size w w') x w := by
  have ho : dro7_ops[24]? = some dro7_o24 := rfl
  simp only [Array.getD_eq_getD_getElem?] at u0 u4 u5
  have q5 : x.tmps.getD 20 undef = by8 P := p5
  have q11 : x.tmps.getD 26 undef = by8 (ofL P) := p11
  have q17 : x.tmps.getD 32 undef = .int .u32 (crcL B : Nat) := p17
  have q23 : x.tmps.getD 38 undef = .int .i64 ((B.length) : Nat) := p23
  simp only [Array.getD_eq_getD_getElem?] at q5 q11 q17 q23
  refine wpOpIn_plain ho rfl (oper_inK hF.fn (fun K hK => ?_))
  clear ho
  rw [Oper.semAt_plain Fc _ _ (by intro c h; cases h)]
  simp only [dro7_o24]
  go_simp
  exact hK _ _ ⟨.agg #[by8 P, by8 (ofL P), .int .u32 (crcL B : Nat), .int .i64 (B.length : Nat)], rfl, rfl, Below.refl _ _⟩
set_option maxRecDepth 100000 in
set_option maxHeartbeats 2000000 in
theorem dro7_s25 {Fc : Fence} (hF : Wide Fc) {nC : Nat} (gF oF n cF i N0 : Nat) (P : List UInt8) (pB : Option Addr) (B : List Nat) (cB : Nat) (O : Value) (Q : Exit → Act → World → Prop) (df : List Deferred) (w0 : World)
    (hi : i < n) (hn : n ≤ 140737488351232) (f0 : w0.cell? ⟨gF, oF + i * 2, none⟩ = some (by8 P)) (f1 : w0.cell? ⟨gF, oF + i * 2 + 1, none⟩ = some (.slice pB (B.length) cB)) (hp : P.length ≤ 1000000) (hl : B.length ≤ cB) (hm : cB ≤ 9223372036854775807) (hz : BL w0 pB B) (hN0 : w0.heap.size = N0)
    (x : Act) (w : World) (hB : Below w0.heap.size w0 w) (hdef : x.defers = df) (u0 : x.tmps.getD 0 undef = .slice (some ⟨gF, oF, none⟩) n cF) (u4 : x.tmps.getD 4 undef = O) (u5 : x.tmps.getD 5 undef = .int .i64 (i : Nat))
    (p24 : dro7_val gF oF n cF i N0 P pB B cB O 24 (x.tmps.getD 39 undef) w)
    : wpOpIn Fc nC Try.prog dro7_ops Q 25 (fun a' w' => ∃ v, a' = x.put (some 40) v ∧ (∃ g, v = .slice (some ⟨g, 0, none⟩) 1 1 ∧ w'.heap[g]? = some (.cells #[by8 P, by8 (ofL P), .int .u32 (crcL B : Nat), .int .i64 (B.length : Nat)] 44 (0, 0)) ∧ N0 ≤ g) ∧ Below w.heap.size w w') x w := by
  have ho : dro7_ops[25]? = some dro7_o25 := rfl
  simp only [Array.getD_eq_getD_getElem?] at u0 u4 u5
  have q24 : x.tmps.getD 39 undef = .agg #[by8 P, by8 (ofL P), .int .u32 (crcL B : Nat), .int .i64 (B.length : Nat)] := p24
  simp only [Array.getD_eq_getD_getElem?] at q24
  refine wpOpIn_plain ho rfl (oper_inK hF.fn (fun K hK => ?_))
  clear ho
  rw [Oper.semAt_plain Fc _ _ (by intro c h; cases h)]
  simp only [dro7_o25]
  go_simp
  exact hK _ _ ⟨_, act_putD x hdef _ _, ⟨_, rfl, heap_alloc_new _ _, hN0 ▸ hB.size⟩, below_alloc _ _⟩

set_option maxRecDepth 100000 in
set_option maxHeartbeats 4000000 in
theorem dro7 {Fc : Fence} (hF : Wide Fc) {nC : Nat} (gF oF n cF i N0 : Nat) (P : List UInt8) (pB : Option Addr) (B : List Nat) (cB : Nat) (O : Value) (Q : Exit → Act → World → Prop) (t0 : Array Value) (df : List Deferred) (w0 : World) (ht : t0.size = 43)
    (hs0 : t0.getD 0 undef = .slice (some ⟨gF, oF, none⟩) n cF) (hs4 : t0.getD 4 undef = O) (hs5 : t0.getD 5 undef = .int .i64 (i : Nat))
    (hi : i < n) (hn : n ≤ 140737488351232) (f0 : w0.cell? ⟨gF, oF + i * 2, none⟩ = some (by8 P)) (f1 : w0.cell? ⟨gF, oF + i * 2 + 1, none⟩ = some (.slice pB (B.length) cB)) (hp : P.length ≤ 1000000) (hl : B.length ≤ cB) (hm : cB ≤ 9223372036854775807) (hz : BL w0 pB B) (hN0 : w0.heap.size = N0)
    (hQ : ∀ (vs : Nat → Value) (w : World), Below w0.heap.size w0 w → (vs 15 = O) → (∃ g, (vs 40) = .slice (some ⟨g, 0, none⟩) 1 1 ∧ w.heap[g]? = some (.cells #[by8 P, by8 (ofL P), .int .u32 (crcL B : Nat), .int .i64 (B.length : Nat)] 44 (0, 0)) ∧ N0 ≤ g) → wpOpIn Fc nC Try.prog dro7_ops Q 26 (fun a' w' => wpOpIn Fc nC Try.prog dro7_ops Q 27 (Q .normal) a' w') { tmps := [15, 16, 17, 18, 19, 20, 21, 22, 23, 24, 25, 26, 27, 28, 29, 30, 31, 32, 33, 34, 35, 36, 37, 38, 39, 40].foldl (fun y d => y.setIfInBounds d (vs d)) t0, defers := df } w) :
    (Code.region 7 dro7_ops true).wpIn Fc nC Try.prog Q { tmps := t0, defers := df } w0 := by
  refine wpIn_region_tail 26 (by decide) (by kernel_rfl) (fun a b => Below a.heap.size a b) (dro7_val gF oF n cF i N0 P pB B cB O) t0 df w0 (by rw [ht]; kernel_rfl) (by kernel_rfl) (by kernel_rfl) (by kernel_rfl) ((Below.refl _ _).drew) (fun _ _ _ h k => h.trans (k.mono h.size)) (dro7_below gF oF n cF i N0 P pB B cB O) ?_ ?_
  · intro j o ho hj x w hB hdef hsz hs hdeps
    have hs' : ∀ s, ¬ dro7_mem s → x.tmps.getD s undef = t0.getD s undef := fun s hn => hs s (fun j hj e => hn (by rw [e]; exact dro7_slots j hj))
    have u0 := (hs' 0 (by decide)).trans hs0
    have u4 := (hs' 4 (by decide)).trans hs4
    have u5 := (hs' 5 (by decide)).trans hs5
    match j, ho, hj with
    | 0, ho, _ =>
      have e : o = dro7_o0 := (Option.some.inj ho).symm
      subst e
      exact dro7_s0 hF gF oF n cF i N0 P pB B cB O Q df w0 hi hn f0 f1 hp hl hm hz hN0 x w hB hdef u0 u4 u5 
    | 1, ho, _ =>
      have e : o = dro7_o1 := (Option.some.inj ho).symm
      subst e
      exact dro7_s1 hF gF oF n cF i N0 P pB B cB O Q df w0 hi hn f0 f1 hp hl hm hz hN0 x w hB hdef u0 u4 u5 
    | 2, ho, _ =>
      have e : o = dro7_o2 := (Option.some.inj ho).symm
      subst e
      exact dro7_s2 hF gF oF n cF i N0 P pB B cB O Q df w0 hi hn f0 f1 hp hl hm hz hN0 x w hB hdef u0 u4 u5 
    | 3, ho, _ =>
      have e : o = dro7_o3 := (Option.some.inj ho).symm
      subst e
      exact dro7_s3 hF gF oF n cF i N0 P pB B cB O Q df w0 hi hn f0 f1 hp hl hm hz hN0 x w hB hdef u0 u4 u5 (hdeps { on := 1, ground := Ground.data } (by simp) rfl) (hdeps { on := 2, ground := Ground.data } (by simp) rfl)
    | 4, ho, _ =>
      have e : o = dro7_o4 := (Option.some.inj ho).symm
      subst e
      exact dro7_s4 hF gF oF n cF i N0 P pB B cB O Q df w0 hi hn f0 f1 hp hl hm hz hN0 x w hB hdef u0 u4 u5 (hdeps { on := 3, ground := Ground.data } (by simp) rfl)
    | 5, ho, _ =>
      have e : o = dro7_o5 := (Option.some.inj ho).symm
      subst e
      exact dro7_s5 hF gF oF n cF i N0 P pB B cB O Q df w0 hi hn f0 f1 hp hl hm hz hN0 x w hB hdef u0 u4 u5 (hdeps { on := 4, ground := Ground.data } (by simp) rfl)
    | 6, ho, _ =>
      have e : o = dro7_o6 := (Option.some.inj ho).symm
      subst e
      exact dro7_s6 hF gF oF n cF i N0 P pB B cB O Q df w0 hi hn f0 f1 hp hl hm hz hN0 x w hB hdef u0 u4 u5 
    | 7, ho, _ =>
      have e : o = dro7_o7 := (Option.some.inj ho).symm
      subst e
      exact dro7_s7 hF gF oF n cF i N0 P pB B cB O Q df w0 hi hn f0 f1 hp hl hm hz hN0 x w hB hdef u0 u4 u5 
    | 8, ho, _ =>
      have e : o = dro7_o8 := (Option.some.inj ho).symm
      subst e
      exact dro7_s8 hF gF oF n cF i N0 P pB B cB O Q df w0 hi hn f0 f1 hp hl hm hz hN0 x w hB hdef u0 u4 u5 (hdeps { on := 6, ground := Ground.data } (by simp) rfl) (hdeps { on := 7, ground := Ground.data } (by simp) rfl)
    | 9, ho, _ =>
      have e : o = dro7_o9 := (Option.some.inj ho).symm
      subst e
      exact dro7_s9 hF gF oF n cF i N0 P pB B cB O Q df w0 hi hn f0 f1 hp hl hm hz hN0 x w hB hdef u0 u4 u5 (hdeps { on := 8, ground := Ground.data } (by simp) rfl)
    | 10, ho, _ =>
      have e : o = dro7_o10 := (Option.some.inj ho).symm
      subst e
      exact dro7_s10 hF gF oF n cF i N0 P pB B cB O Q df w0 hi hn f0 f1 hp hl hm hz hN0 x w hB hdef u0 u4 u5 (hdeps { on := 9, ground := Ground.data } (by simp) rfl)
    | 11, ho, _ =>
      have e : o = dro7_o11 := (Option.some.inj ho).symm
      subst e
      exact dro7_s11 hF gF oF n cF i N0 P pB B cB O Q df w0 hi hn f0 f1 hp hl hm hz hN0 x w hB hdef u0 u4 u5 (hdeps { on := 10, ground := Ground.data } (by simp) rfl)
    | 12, ho, _ =>
      have e : o = dro7_o12 := (Option.some.inj ho).symm
      subst e
      exact dro7_s12 hF gF oF n cF i N0 P pB B cB O Q df w0 hi hn f0 f1 hp hl hm hz hN0 x w hB hdef u0 u4 u5 
    | 13, ho, _ =>
      have e : o = dro7_o13 := (Option.some.inj ho).symm
      subst e
      exact dro7_s13 hF gF oF n cF i N0 P pB B cB O Q df w0 hi hn f0 f1 hp hl hm hz hN0 x w hB hdef u0 u4 u5 
    | 14, ho, _ =>
      have e : o = dro7_o14 := (Option.some.inj ho).symm
      subst e
      exact dro7_s14 hF gF oF n cF i N0 P pB B cB O Q df w0 hi hn f0 f1 hp hl hm hz hN0 x w hB hdef u0 u4 u5 (hdeps { on := 12, ground := Ground.data } (by simp) rfl) (hdeps { on := 13, ground := Ground.data } (by simp) rfl)
    | 15, ho, _ =>
      have e : o = dro7_o15 := (Option.some.inj ho).symm
      subst e
      exact dro7_s15 hF gF oF n cF i N0 P pB B cB O Q df w0 hi hn f0 f1 hp hl hm hz hN0 x w hB hdef u0 u4 u5 (hdeps { on := 14, ground := Ground.data } (by simp) rfl)
    | 16, ho, _ =>
      have e : o = dro7_o16 := (Option.some.inj ho).symm
      subst e
      exact dro7_s16 hF gF oF n cF i N0 P pB B cB O Q df w0 hi hn f0 f1 hp hl hm hz hN0 x w hB hdef u0 u4 u5 (hdeps { on := 15, ground := Ground.data } (by simp) rfl)
    | 17, ho, _ =>
      have e : o = dro7_o17 := (Option.some.inj ho).symm
      subst e
      exact dro7_s17 hF gF oF n cF i N0 P pB B cB O Q df w0 hi hn f0 f1 hp hl hm hz hN0 x w hB hdef u0 u4 u5 (hdeps { on := 16, ground := Ground.data } (by simp) rfl)
    | 18, ho, _ =>
      have e : o = dro7_o18 := (Option.some.inj ho).symm
      subst e
      exact dro7_s18 hF gF oF n cF i N0 P pB B cB O Q df w0 hi hn f0 f1 hp hl hm hz hN0 x w hB hdef u0 u4 u5 
    | 19, ho, _ =>
      have e : o = dro7_o19 := (Option.some.inj ho).symm
      subst e
      exact dro7_s19 hF gF oF n cF i N0 P pB B cB O Q df w0 hi hn f0 f1 hp hl hm hz hN0 x w hB hdef u0 u4 u5 
    | 20, ho, _ =>
      have e : o = dro7_o20 := (Option.some.inj ho).symm
      subst e
      exact dro7_s20 hF gF oF n cF i N0 P pB B cB O Q df w0 hi hn f0 f1 hp hl hm hz hN0 x w hB hdef u0 u4 u5 (hdeps { on := 18, ground := Ground.data } (by simp) rfl) (hdeps { on := 19, ground := Ground.data } (by simp) rfl)
    | 21, ho, _ =>
      have e : o = dro7_o21 := (Option.some.inj ho).symm
      subst e
      exact dro7_s21 hF gF oF n cF i N0 P pB B cB O Q df w0 hi hn f0 f1 hp hl hm hz hN0 x w hB hdef u0 u4 u5 (hdeps { on := 20, ground := Ground.data } (by simp) rfl)
    | 22, ho, _ =>
      have e : o = dro7_o22 := (Option.some.inj ho).symm
      subst e
      exact dro7_s22 hF gF oF n cF i N0 P pB B cB O Q df w0 hi hn f0 f1 hp hl hm hz hN0 x w hB hdef u0 u4 u5 (hdeps { on := 21, ground := Ground.data } (by simp) rfl)
    | 23, ho, _ =>
      have e : o = dro7_o23 := (Option.some.inj ho).symm
      subst e
      exact dro7_s23 hF gF oF n cF i N0 P pB B cB O Q df w0 hi hn f0 f1 hp hl hm hz hN0 x w hB hdef u0 u4 u5 (hdeps { on := 22, ground := Ground.data } (by simp) rfl)
    | 24, ho, _ =>
      have e : o = dro7_o24 := (Option.some.inj ho).symm
      subst e
      exact dro7_s24 hF gF oF n cF i N0 P pB B cB O Q df w0 hi hn f0 f1 hp hl hm hz hN0 x w hB hdef u0 u4 u5 (hdeps { on := 5, ground := Ground.data } (by simp) rfl) (hdeps { on := 11, ground := Ground.data } (by simp) rfl) (hdeps { on := 17, ground := Ground.data } (by simp) rfl) (hdeps { on := 23, ground := Ground.data } (by simp) rfl)
    | 25, ho, _ =>
      have e : o = dro7_o25 := (Option.some.inj ho).symm
      subst e
      exact dro7_s25 hF gF oF n cF i N0 P pB B cB O Q df w0 hi hn f0 f1 hp hl hm hz hN0 x w hB hdef u0 u4 u5 (hdeps { on := 24, ground := Ground.data } (by simp) rfl)
    | k + 26, _, hj => omega
  · intro x w hB hdef hsz hs hv
    have hx := frame_sets x.tmps t0 hsz [15, 16, 17, 18, 19, 20, 21, 22, 23, 24, 25, 26, 27, 28, 29, 30, 31, 32, 33, 34, 35, 36, 37, 38, 39, 40] (fun s hn => hs s (fun j hj e => hn (by rw [e]; exact dro7_slots j hj)))
    have hq := hQ (fun d => x.tmps.getD d undef) w hB (hv 0 (by decide)) (hv 25 (by decide))
    obtain ⟨T, Df⟩ := x
    dsimp only at hx hdef hq
    subst hdef
    rw [← hx] at hq
    exact hq
end Go.Proofs.Ytpmldopbjlnknaa

/-
  mudlarkref22's Files, Of.
-/
namespace Go.Proofs.Ytpmldopbjlnknaa
open Go.RowKit Go.Shelf

set_option maxRecDepth 100000 in
set_option maxHeartbeats 4000000 in
theorem refFiles_any (a : Option Addr) (n ca : Nat) (f : Nat → Fil) (w : World) (hn : n ≤ 140737488351232) (hrow : RowK w a 2 n (fun i => cellF (f i))) (hP : ∀ i, i < n → (f i).P.length ≤ 1000000) :
    Calls Try.prog 12 #[.slice a n ca] w fun e w' => e = .returned (.bool (rightF (filesL f n))) ∧ Below w.heap.size w w' := by
  have hres := rightF_eq f n
  have HR := hide hrow
  have HH := hide (And.intro hP hres)
  clear hrow hP hres
  go_enter Try.func12, Try.ntmps12
  go_wp2_with fail
  go_loopg [3] n (fun q s3 wr => ∃ k : Nat, k + q = n ∧ s3 = .int .i64 k ∧ riseP [] (pathsN (fun i => (f i).P) k) = true ∧ (∀ i, i < k → (f i).B.length ≤ 1048576) ∧ Below w.heap.size w wr)
  case atStart => exact ⟨0, by omega, rfl, rfl, fun i h => by omega, Below.refl _ _⟩
  case round =>
    obtain ⟨k, hkq, rfl, hg, hlen, hB⟩ := hrel
    have HC := hide (And.intro hg (And.intro hlen hB))
    clear hg hlen
    cases gk with
    | zero =>
      obtain rfl : k = n := by omega
      clear hB
      go_wp2_with fail
      go_ret
      refine ⟨?_, HC.out.2.2⟩
      rw [HH.out.2, HC.out.1, Bool.and_true, show ((List.range k).all fun i => decide ((f i).B.length ≤ 1048576)) = true from List.all_eq_true.2 (fun i hi => decide_eq_true (HC.out.2.1 i (List.mem_range.1 hi))), Bool.and_true]
      have : decide ((k : Int) ≤ 4000) = decide (k ≤ 4000) := by rw [decide_eq_decide]; omega
      rw [← this]
      rfl
    | succ q =>
      have hkn : k < n := by omega
      have hkz : (k : Int) < (n : Int) := by omega
      have hb := HR.out.below hB
      obtain ⟨g, o, rfl, d0, d1⟩ := hb.at2 hkn
      obtain ⟨r1, r2, r3, r4⟩ := rise_round (fun i => (f i).P) k n hkn HC.out.1
      have HX := hide (And.intro d0 (And.intro d1 (HH.out.1 k hkn)))
      have HD := hide (And.intro r1 (And.intro r2 (And.intro r3 r4)))
      have HB := hide hb
      have hbad : ¬ (f k).B.length ≤ 1048576 → rightF (filesL f n) = false := fun h => by
        rw [HH.out.2]
        have : ((List.range n).all fun i => decide ((f i).B.length ≤ 1048576)) = false := by
          rw [List.all_eq_false]
          exact ⟨k, List.mem_range.2 hkn, by simpa using h⟩
        rw [this, Bool.and_false]
      have HBD := hide hbad
      have hnx : (f k).B.length ≤ 1048576 → ∀ i, i < k + 1 → (f i).B.length ≤ 1048576 := fun h i hi => by
        rcases Nat.lt_or_ge i k with h1 | h1
        · exact HC.out.2.1 i h1
        · obtain rfl : i = k := by omega
          exact h
      have HNX := hide hnx
      clear hB hb d0 d1 r1 r2 r3 r4 hbad hnx
      cases hrt : rightP (f k).P with
      | false =>
        have H1 := hide hrt
        clear hrt
        go_wp2_with fail
        refine (wpIn_wide (n := 0)).1 (drfC wide_plain g o n ca k 0 (f k).P [] (f k).pB (f k).B (f k).cB _ _ _ _ rfl rfl rfl hkn hn HX.out.1 HX.out.2.2 H1.out ?_)
        intro vs W5 hb5 h43
        simp only [List.foldl_cons, List.foldl_nil, List.setIfInBounds_toArray, List.set_cons_succ, List.set_cons_zero]
        rw [h43]
        have H5 := hide (HC.out.2.2.trans (hb5.mono HC.out.2.2.size))
        clear h43 hb5
        go_wp2_with fail
        go_ret
        exact ⟨by rw [HH.out.2, HD.out.1 H1.out, Bool.and_false, Bool.false_and]; rfl, H5.out⟩
      | true =>
        have H1 := hide hrt
        clear hrt
        by_cases hbig : 1048576 < (f k).B.length
        · have h2 : decide ((1048576 : Int) < ((f k).B.length : Nat)) = true := decide_eq_true (by omega)
          have H2 := hide (And.intro h2 (HBD.out (by omega)))
          clear h2 hbig
          go_wp2_with fail
          refine (wpIn_wide (n := 0)).1 (drfD wide_plain g o n ca k 0 (f k).P [] (f k).pB (f k).B (f k).cB _ _ _ _ rfl rfl rfl hkn hn HX.out.1 HX.out.2.2 H1.out HX.out.2.1 H2.out.1 ?_)
          intro vs W5 hb5 h43
          simp only [List.foldl_cons, List.foldl_nil, List.setIfInBounds_toArray, List.set_cons_succ, List.set_cons_zero]
          rw [h43]
          have H5 := hide (HC.out.2.2.trans (hb5.mono HC.out.2.2.size))
          clear h43 hb5
          go_wp2_with fail
          go_ret
          exact ⟨by rw [H2.out.2]; rfl, H5.out⟩
        · have h2 : decide ((1048576 : Int) < ((f k).B.length : Nat)) = false := decide_eq_false (by omega)
          have H2 := hide (And.intro h2 (HNX.out (by omega)))
          clear h2 hbig
          rcases Nat.eq_zero_or_pos k with h0 | h0
          · have h00 : decide (0 < k) = false := decide_eq_false (by omega)
            have H0 := hide (And.intro h0 h00)
            clear h0 h00
            go_wp2_with fail
            refine (wpIn_wide (n := 0)).1 (drfA wide_plain g o n ca k 0 (f k).P [] (f k).pB (f k).B (f k).cB _ _ _ _ rfl rfl rfl hkn hn HX.out.1 HX.out.2.2 H1.out HX.out.2.1 H2.out.1 H0.out.2 ?_)
            intro vs W5 hb5 h43
            simp only [List.foldl_cons, List.foldl_nil, List.setIfInBounds_toArray, List.set_cons_succ, List.set_cons_zero]
            rw [h43]
            have H5 := hide (HC.out.2.2.trans (hb5.mono HC.out.2.2.size))
            clear h43 hb5
            go_wp2_with fail
            go_roundg q
            case measure => omega
            case rel => exact ⟨k + 1, by omega, by go_num, HD.out.2.1 H1.out H0.out.1, H2.out.2, H5.out⟩
          · obtain ⟨j, hj⟩ : ∃ j, k = j + 1 := ⟨k - 1, by omega⟩
            have h00 : decide (0 < k) = true := decide_eq_true h0
            have hjn : j < n := by omega
            obtain ⟨g2, o2, e2, c0, _⟩ := HB.out.at2 hjn
            cases e2
            cases hlt : ltP (f j).P (f k).P with
            | false =>
              have h6 : (!Op.bytesLess (f j).P (f k).P) = true := by rw [less_raw, hlt]; rfl
              have H0 := hide (And.intro hj (And.intro h00 (And.intro c0 (And.intro h6 hlt))))
              clear h0 h00 hj c0 h6 hlt
              go_wp2_with fail
              refine (wpIn_wide (n := 0)).1 (drfE wide_plain g o n ca k j (f k).P (f j).P (f k).pB (f k).B (f k).cB _ _ _ _ rfl rfl rfl hkn hn HX.out.1 HX.out.2.2 H1.out HX.out.2.1 H2.out.1 H0.out.2.1 (hide H0.out.1) H0.out.2.2.1 H0.out.2.2.2.1 ?_)
              intro vs W5 hb5 h43
              simp only [List.foldl_cons, List.foldl_nil, List.setIfInBounds_toArray, List.set_cons_succ, List.set_cons_zero]
              rw [h43]
              have H5 := hide (HC.out.2.2.trans (hb5.mono HC.out.2.2.size))
              clear h43 hb5
              go_wp2_with fail
              go_ret
              exact ⟨by rw [HH.out.2, HD.out.2.2.1 j H0.out.1 H0.out.2.2.2.2, Bool.and_false, Bool.false_and]; rfl, H5.out⟩
            | true =>
              have h6 : (!Op.bytesLess (f j).P (f k).P) = false := by rw [less_raw, hlt]; rfl
              have H0 := hide (And.intro hj (And.intro h00 (And.intro c0 (And.intro h6 hlt))))
              clear h0 h00 hj c0 h6 hlt
              go_wp2_with fail
              refine (wpIn_wide (n := 0)).1 (drfB wide_plain g o n ca k j (f k).P (f j).P (f k).pB (f k).B (f k).cB _ _ _ _ rfl rfl rfl hkn hn HX.out.1 HX.out.2.2 H1.out HX.out.2.1 H2.out.1 H0.out.2.1 (hide H0.out.1) H0.out.2.2.1 H0.out.2.2.2.1 ?_)
              intro vs W5 hb5 h43
              simp only [List.foldl_cons, List.foldl_nil, List.setIfInBounds_toArray, List.set_cons_succ, List.set_cons_zero]
              rw [h43]
              have H5 := hide (HC.out.2.2.trans (hb5.mono HC.out.2.2.size))
              clear h43 hb5
              go_wp2_with fail
              go_roundg q
              case measure => omega
              case rel => exact ⟨k + 1, by omega, by go_num, HD.out.2.2.2 j H0.out.1 H1.out H0.out.2.2.2.2, H2.out.2, H5.out⟩
end Go.Proofs.Ytpmldopbjlnknaa

/-
  mudlarkref22's Of.
-/
namespace Go.Proofs.Ytpmldopbjlnknaa
open Go.RowKit Go.Shelf

set_option maxRecDepth 100000 in
set_option maxHeartbeats 4000000 in
theorem refDocOf_any (a : Option Addr) (len cap : Nat) (f : Nat → Fil) (w : World) (hlen : len ≤ 140737488351232) (hF : Fils w a len f) (hP : ∀ i, i < len → (f i).P.length ≤ 1000000) :
    Calls Try.prog 10 #[.slice a len cap] w fun e w' => (if rightF (filesL f len) = true then ∃ v, e = .returned (.tuple #[v, .int .i64 0]) ∧ OwnD w' w.heap.size v ((filesL f len).map docF) else e = .returned (.tuple #[.slice none 0 0, .int .i64 2])) ∧ Below w.heap.size w w' := by
  have h1 := refFiles_any a len cap f w hlen hF.row hP
  have HF := hide hF
  clear hF
  cases hr : rightF (filesL f len) with
  | false =>
    rw [hr] at h1
    clear hr
    go_enter Try.func10, Try.ntmps10
    go_wp2_with fail
    refine h1.mono ?_
    rintro e w2 ⟨rfl, hb2⟩
    have HB := hide hb2
    clear h1 hb2
    go_wp2_with fail
    go_ret2
    exact ⟨rfl, HB.out⟩
  | true =>
    rw [hr] at h1
    have h4 : len ≤ 4000 := by
      rw [rightF_eq] at hr
      simp only [Bool.and_eq_true, decide_eq_true_eq] at hr
      exact hr.1.1
    have HH := hide (And.intro hr hP)
    clear hr hP
    go_enter Try.func10, Try.ntmps10
    go_wp2_with fail
    refine h1.mono ?_
    rintro e w2 ⟨rfl, hb2⟩
    have HB := hide hb2
    clear h1 hb2
    go_wp2_with fail
    go_loopg [4, 5] len (fun q s4 s5 wr => ∃ (k : Nat) (A : Option Addr) (C : Nat), k + q = len ∧ s4 = .slice A k C ∧ s5 = .int .i64 k ∧ OwnD wr w2.heap.size (.slice A k C) ((filesL f k).map docF) ∧ Below w2.heap.size w2 wr)
    case atStart => exact ⟨0, none, 0, by omega, rfl, rfl, OwnD.nil _ _, Below.refl _ _⟩
    case round =>
      obtain ⟨k, A, C, hkq, rfl, rfl, ho, hB2⟩ := hrel
      have HO := hide ho
      have HB2 := hide hB2
      cases gk with
      | zero =>
        obtain rfl : k = len := by omega
        clear ho hB2
        go_wp2_with fail
        go_ret2
        exact ⟨⟨_, rfl, owns_lower HO.out HB.out.size⟩, HB.out.trans (HB2.out.mono HB.out.size)⟩
      | succ q =>
        have hkl : k < len := by omega
        have hk1 : (k : Int) < (len : Int) := by omega
        obtain ⟨b, off, rfl, ⟨q0, q1⟩, hok⟩ := (HF.out.below (HB.out.trans (hB2.mono HB.out.size))).cells k hkl
        have HQ := hide (And.intro q0 (And.intro q1 hok))
        clear ho hB2 q0 q1 hok
        go_wp2_with fail
        refine (wpIn_wide (n := 0)).1 (dro7 wide_plain b off len cap k wr.heap.size (f k).P (f k).pB (f k).B (f k).cB (.slice A k C) _ _ _ _ rfl rfl rfl rfl hkl hlen HQ.out.1 HQ.out.2.1 (HH.out.2 k hkl) HQ.out.2.2.lB HQ.out.2.2.mB HQ.out.2.2.bB rfl ?_)
        intro vs W5 hB5 h15 h40
        obtain ⟨g5, h40, hs5, hg5⟩ := h40
        simp only [List.foldl_cons, List.foldl_nil, List.setIfInBounds_toArray, List.set_cons_succ, List.set_cons_zero]
        rw [h15, h40]
        have hsz5 : w2.heap.size ≤ W5.heap.size := Nat.le_trans HB2.out.size hB5.size
        obtain ⟨i0, hi0, hq0, hq1, hq2⟩ := info_partsD info_doc
        refine op_appendS wide_plain (o := dro7_ops[26]) rfl rfl (.tmp 15) (.tmp 40) 26 rfl 44 i0 (.agg #[.string ⟨#[]⟩, .string ⟨#[]⟩, .int .u32 0, .int .i64 0]) 4 48 Try.underlying26 hi0 hq0 hq1 hq2 rfl (by omega) w2.heap.size (.slice A k C) k (cellsD ((filesL f k).map docF)) rfl (by have := HO.out.thru hB5; unfold OwnD at this; rwa [List.length_map, filesL_length] at this) ⟨g5, 0, none⟩ 1 1 (cellD (docF ((f k).P, (f k).B))) rfl rfl (doc_news (d := docF ((f k).P, (f k).B)) hs5) (cellD_one _) (by unfold maxLen; omega) (by omega) hsz5 ?_
        intro A' C' W6 hown' hG' _
        have hk6 := (Kept.of_below (F := fun y => (Value.slice A k C).ownBlock = some y) hB5).trans (hG'.kept (F := fun y => (Value.slice A k C).ownBlock = some y) (fun _ h => h)) (fun _ _ h => h)
        have H6 := hide (And.intro hown' (HB2.out.trans (hk6.below (fun y hy => (owns_cells HO.out y hy).2.1) HB2.out.size)))
        clear hown' hG' hk6 hB5 h15 h40 hsz5 hs5 hi0 hq0 hq1 hq2 hg5
        refine wpOpIn_plain (o := dro7_ops[27]) rfl rfl (oper_inK (fun _ => trivial) (fun K hK => ?_))
        rw [Oper.semAt_plain Fence.wide _ _ (by intro c h; cases h)]
        simp only [dro7_ops, dro7_o27]
        go_simp
        refine hK _ _ ?_
        clear hK K
        go_wp2_with fail
        go_roundg q
        case measure => omega
        case rel =>
          refine ⟨k + 1, A', C', by omega, rfl, by go_num, ?_, H6.out.2⟩
          have h := H6.out.1
          rw [← cellsD_snoc] at h
          unfold OwnD
          rw [filesL_succ, List.map_append, List.length_append, List.length_map, filesL_length]
          exact h
theorem refDocOf_ok (a : Option Addr) (len cap : Nat) (f : Nat → Fil) (w : World) (hlen : len ≤ 140737488351232) (hF : Fils w a len f) (hP : ∀ i, i < len → (f i).P.length ≤ 1000000) (hr : rightF (filesL f len) = true) :
    Calls Try.prog 10 #[.slice a len cap] w fun e w' => (∃ v, e = .returned (.tuple #[v, .int .i64 0]) ∧ OwnD w' w.heap.size v ((filesL f len).map docF)) ∧ Below w.heap.size w w' :=
  (refDocOf_any a len cap f w hlen hF hP).mono fun e w' ⟨h, hb⟩ => by rw [if_pos hr] at h; exact ⟨h, hb⟩
theorem refDocOf_bad (a : Option Addr) (len cap : Nat) (f : Nat → Fil) (w : World) (hlen : len ≤ 140737488351232) (hF : Fils w a len f) (hP : ∀ i, i < len → (f i).P.length ≤ 1000000) (hr : rightF (filesL f len) = false) :
    Calls Try.prog 10 #[.slice a len cap] w fun e w' => e = .returned (.tuple #[.slice none 0 0, .int .i64 2]) ∧ Below w.heap.size w w' :=
  (refDocOf_any a len cap f w hlen hF hP).mono fun e w' ⟨h, hb⟩ => by rw [hr, if_neg (by decide)] at h; exact ⟨h, hb⟩
end Go.Proofs.Ytpmldopbjlnknaa

/-
  Contracts of the kit's functions that lend rows of files.
-/
namespace Go.Proofs.Ytpmldopbjlnknaa
open Go.RowKit

theorem cells2f {w : World} {p : Nat} {a b : Value} {t : TypeId} (h : w.heap[p]? = some (.cells #[a, b] t (0, 0))) :
    w.cell? ⟨p, 0, none⟩ = some a ∧ w.cell? ⟨p, 1, none⟩ = some b ∧ w.frozen? ⟨p, 0, none⟩ = false ∧ w.frozen? ⟨p, 1, none⟩ = false :=
  ⟨by rw [cell_of_row _ _ _ _ _ _ h]; rfl, by rw [cell_of_row _ _ _ _ _ _ h]; rfl, frozen_of_row _ _ _ _ _ h, frozen_of_row _ _ _ _ _ h⟩
def dftF : Fil := ⟨[], [], none, 0⟩
/-- The cells of files. -/
def rcF : List Fil → List Value
  | [] => []
  | Q :: r => by8 Q.P :: .slice Q.pB Q.B.length Q.cB :: rcF r
theorem rcF_append (a b : List Fil) : rcF (a ++ b) = rcF a ++ rcF b := by
  induction a with
  | nil => rfl
  | cons x a ih => simp [rcF, ih]
theorem rcF_get : ∀ (xs : List Fil) (i : Nat), i < xs.length → (rcF xs)[i * 2]? = some (by8 (xs.getD i dftF).P) ∧ (rcF xs)[i * 2 + 1]? = some (.slice (xs.getD i dftF).pB (xs.getD i dftF).B.length (xs.getD i dftF).cB)
  | [], i, h => by simp at h
  | x :: r, 0, _ => ⟨rfl, rfl⟩
  | x :: r, i + 1, h => by
    have := rcF_get r i (by simpa using h)
    simp only [rcF, List.getD_cons_succ]
    rw [show (i + 1) * 2 = i * 2 + 1 + 1 from by omega]
    simpa using this
theorem Blk.keptF {F : Nat → Prop} {w w' : World} {g len : Nat} {z : Nat → Nat} (h : Blk w g len z) (hk : Kept F w w') (hg : ¬ F g) : Blk w' g len z := by
  obtain ⟨h1, cur, h2, h3⟩ := h
  exact ⟨h1, cur, hk.heap h2 hg, h3⟩
/-- A file that is lent; a mark behind. -/
def LOneF (R : Nat) (W : World) (P Q : Fil) : Prop :=
  Q.P = P.P ∧ Q.B = P.B ∧ ∃ h, h ≠ R ∧ Q.pB = some ⟨h, 0, none⟩ ∧ Q.cB = P.B.length + 12 ∧ Blk W h (P.B.length + 12) (lent (fun j => P.B.getD j 0) P.B.length)
def MOneF (i : Nat) (Q : Fil) : Prop := Q = ⟨markL 1 i, [], none, 0⟩
theorem LOneF.kept {R : Nat} {W W' : World} {P Q : Fil} (h : LOneF R W P Q) (hk : Kept (fun k => k = R) W W') : LOneF R W' P Q := by
  obtain ⟨h1, h2, g, h3, h4, h5, h6⟩ := h
  exact ⟨h1, h2, g, h3, h4, h5, h6.keptF hk h3⟩
/-- The row that is lent, its block R. -/
def LentF (W : World) (R n : Nat) (P : Nat → Fil) (Qs : List Fil) : Prop :=
  Qs.length = n + 12 ∧ W.ownsRow R 46 2 (.slice (some ⟨R, 0, none⟩) (n + 12) (n + 12)) (n + 12) (rcF Qs) ∧ (∀ i, i < n → LOneF R W (P i) (Qs.getD i dftF)) ∧ ∀ i, i < 12 → MOneF i (Qs.getD (n + i) dftF)
theorem LentF.below {W W' : World} {R n : Nat} {P : Nat → Fil} {Qs : List Fil} (h : LentF W R n P Qs) (hb : Below W.heap.size W W') : LentF W' R n P Qs :=
  ⟨h.1, owns_thruS h.2.1 hb, fun i hi => (h.2.2.1 i hi).kept (Kept.of_below hb), h.2.2.2⟩
theorem LOneF.ok {R : Nat} {W : World} {P Q : Fil} (h : LOneF R W P Q) (hl : P.B.length ≤ 20000) (hB : ∀ b ∈ P.B, b < 256) : Q.Ok W := by
  obtain ⟨h1, h2, g, h3, h4, h5, h6⟩ := h
  refine ⟨by rw [h2, h5]; omega, by rw [h5]; omega, by rw [h4]; exact (fun e => by cases e), .inr ⟨g, 0, h4⟩, ?_⟩
  rw [h4, h2]
  refine BL.mk hB (.inr ⟨g, 0, rfl, fun i hi => ?_⟩)
  have := h6.cell (i := i) (by omega)
  unfold lent at this
  rw [if_pos hi] at this
  rw [Nat.zero_add]
  exact this
theorem LentF.fils {W : World} {R n : Nat} {P : Nat → Fil} {Qs : List Fil} (h : LentF W R n P Qs) (hl : ∀ i, i < n → (P i).B.length ≤ 20000 ∧ ∀ b ∈ (P i).B, b < 256) : Fils W (some ⟨R, 0, none⟩) n (fun i => Qs.getD i dftF) := by
  refine .inr ⟨R, 0, rfl, fun i hi => ?_⟩
  obtain ⟨e0, e1⟩ := rcF_get Qs i (by have := h.1; omega)
  have hc := h.2.1.cells (g := R) rfl
  have c0 := hc _ _ e0
  have c1 := hc _ _ e1
  rw [add_none' _ rfl] at c0 c1
  exact ⟨⟨c0, c1⟩, (h.2.2.1 i hi).ok (hl i hi).1 (hl i hi).2⟩
theorem info_fileK : (Try.prog.info? 46).map (fun i => (i.zero, i.size, i.bytes)) = some (some (.agg #[.string ⟨#[]⟩, .slice none 0 0]), 2, 40) := by kernel_rfl

set_option maxRecDepth 100000 in
set_option maxHeartbeats 1000000 in
theorem lentFile_any (T : List UInt8) (a : Option Addr) (len cap : Nat) (z : Nat → Nat) (w : World) (hl : len ≤ 20000) (hn : a = none → cap = 0) (hlc : len ≤ cap) (hz : Byt w a len z) :
    Calls Try.prog 25 #[.agg #[by8 T, .slice a len cap]] w fun e w' => ∃ g, e = .returned (.agg #[by8 T, .slice (some ⟨g, 0, none⟩) len (len + 12)]) ∧ w.heap.size ≤ g ∧ Blk w' g (len + 12) (lent z len) ∧ Below w.heap.size w w' := by
  have hle := fun (W : World) (hW : Below w.heap.size w W) => lentBytes_any a len cap z W hl hn hlc (hz.below hW)
  unfold by8
  generalize (⟨T.toArray⟩ : ByteArray) = TT
  obtain ⟨W1, hW1⟩ : ∃ W1, w.alloc (.cells #[.string TT, .slice a len cap] 46) = W1 := ⟨_, rfl⟩
  have hB1 : Below w.heap.size w W1 := by rw [← hW1]; exact below_alloc _ _
  have hs1 : W1.heap.size = w.heap.size + 1 := by rw [← hW1]; simp
  have h1 : W1.heap[w.heap.size]? = some (.cells #[.string TT, .slice a len cap] 46 (0, 0)) := by rw [← hW1]; exact heap_alloc_new _ _
  obtain ⟨W2, hW2⟩ : ∃ W2, W1.alloc (.cells #[.string ⟨#[]⟩, .slice none 0 0] 46) = W2 := ⟨_, rfl⟩
  have hB2 : Below W1.heap.size W1 W2 := by rw [← hW2]; exact below_alloc _ _
  have hs2 : W2.heap.size = W1.heap.size + 1 := by rw [← hW2]; simp
  have h2 : W2.heap[W1.heap.size]? = some (.cells #[.string ⟨#[]⟩, .slice none 0 0] 46 (0, 0)) := by rw [← hW2]; exact heap_alloc_new _ _
  have h12 := (hB2.block _ (block_lt h1)).trans h1
  obtain ⟨c0, c1, f0, f1⟩ := cells2f h12
  have hB : Below w.heap.size w W2 := hB1.trans (hB2.mono hB1.size)
  have hl2 := hle W2 hB
  have H := hide (And.intro hs1 (And.intro hs2 (And.intro h12 (And.intro h2 hB))))
  clear hle h1 h2 h12 hs1 hs2 hz hB1 hB2 hB hn hlc
  go_enter Try.func25, Try.ntmps25
  go_wp2_with fail
  refine hl2.mono ?_
  rintro e w3 ⟨g, rfl, hg, hblk, hB3⟩
  obtain ⟨hs1, hs2, h12, h2, hB⟩ := H.out
  have k1 := (hB3.block _ (block_lt h12)).trans h12
  have k2 := (hB3.block _ (block_lt h2)).trans h2
  obtain ⟨d0, d1, g0, g1⟩ := cells2f k1
  obtain ⟨e0, e1, i0, i1⟩ := cells2f k2
  obtain ⟨w4, hw4⟩ : ∃ w4, w3.setCell ⟨w.heap.size, 1, none⟩ (.slice (some ⟨g, 0, none⟩) len (len + 12)) = w4 := ⟨_, rfl⟩
  have k4 : w4.heap[w.heap.size]? = some (.cells #[.string TT, .slice (some ⟨g, 0, none⟩) len (len + 12)] 46 (0, 0)) := by rw [← hw4]; exact heap_setCell_same _ _ 1 _ _ _ k1
  have hK4 : Kept (fun k => k = w.heap.size) w3 w4 := by rw [← hw4]; exact (Kept.refl (fun k => k = w.heap.size) w3).setCell (.inl rfl) _
  have k24 := hK4.heap k2 (by show ¬ W1.heap.size = w.heap.size; omega)
  obtain ⟨d0, d1, g0, g1⟩ := cells2f k4
  obtain ⟨e0, e1, i0, i1⟩ := cells2f k24
  have HH := hide (And.intro hg (And.intro hblk (And.intro hB3 (And.intro hK4 (And.intro k24 k2)))))
  clear hl2 hs1 hs2 h12 h2 hB k1 k2 k4 hg hblk hB3 hK4 k24
  go_wp2_with fail
  obtain ⟨hg, hblk, hB3, hK4, k24, k2⟩ := HH.out
  obtain ⟨hs1, hs2, h12, h2, hB⟩ := H.out
  obtain ⟨w5, hw5⟩ : ∃ w5, (w4.setCell ⟨W1.heap.size, 0, none⟩ (.string TT)).setCell ⟨W1.heap.size, 1, none⟩ (.slice (some ⟨g, 0, none⟩) len (len + 12)) = w5 := ⟨_, rfl⟩
  have hS : w5.heap[W1.heap.size]? = some (.cells #[.string TT, .slice (some ⟨g, 0, none⟩) len (len + 12)] 46 (0, 0)) := by
    rw [← hw5]
    exact heap_setCell_same _ _ 1 _ _ _ (heap_setCell_same _ _ 0 _ _ _ k24)
  have hK5 : Kept (fun k => k = w.heap.size ∨ k = W1.heap.size) w3 w5 := by
    rw [← hw5]
    exact ((hK4.mono (G := fun k => k = w.heap.size ∨ k = W1.heap.size) (fun _ _ h => .inl h)).setCell (.inl (.inr rfl)) _).setCell (.inl (.inr rfl)) _
  have hs2' := hB.size
  refine bodyPost_ret_by (results_cell_row rfl _ _ W1.heap.size 46 #[.string TT, .slice (some ⟨g, 0, none⟩) len (len + 12)] (0, 0) _ rfl (by rw [hw5]; exact hS) Try.underlying46 rfl (by kernel_rfl)) rfl ⟨g, rfl, by omega, ?_, ?_⟩
  · rw [hw5]
    exact hblk.keptF hK5 (by show ¬ (g = w.heap.size ∨ g = W1.heap.size); omega)
  · rw [hw5]
    exact ((Kept.of_below (F := fun k => w.heap.size ≤ k) hB).trans ((Kept.of_below (F := fun k => w.heap.size ≤ k) hB3).trans (hK5.mono (G := fun k => w.heap.size ≤ k) (fun k _ h => by rcases h with h | h <;> omega)) (fun _ _ h => h)) (fun _ _ h => h)).below (fun _ h => h) (Nat.le_refl _)

/-- What LentFiles' loops hold. -/
def LStF (w : World) (n : Nat) (P : Nat → Fil) (Qs : List Fil) (W : World) : Prop :=
  W.ownsRow w.heap.size 46 2 (.slice (some ⟨w.heap.size, 0, none⟩) Qs.length (n + 12)) Qs.length (rcF Qs) ∧ (∀ i, i < n → i < Qs.length → LOneF w.heap.size W (P i) (Qs.getD i dftF)) ∧ (∀ i, n + i < Qs.length → MOneF i (Qs.getD (n + i) dftF)) ∧ Below w.heap.size w W
theorem LStF.below {w W W' : World} {n : Nat} {P : Nat → Fil} {Qs : List Fil} (h : LStF w n P Qs W) (hb : Below W.heap.size W W') : LStF w n P Qs W' :=
  ⟨owns_thruS h.1 hb, fun i hi hj => (h.2.1 i hi hj).kept (Kept.of_below hb), h.2.2.1, h.2.2.2.trans (hb.mono h.2.2.2.size)⟩
theorem getD_leftF {l m : List Fil} {i : Nat} (h : i < l.length) : (l ++ m).getD i dftF = l.getD i dftF := by
  rw [List.getD_eq_getElem?_getD, List.getD_eq_getElem?_getD, List.getElem?_append_left h]
theorem getD_lastF {l : List Fil} {x : Fil} {i : Nat} (h : i = l.length) : (l ++ [x]).getD i dftF = x := by
  subst h
  rw [List.getD_eq_getElem?_getD, List.getElem?_append_right (Nat.le_refl _), Nat.sub_self]
  rfl
theorem LStF.add {w W W' : World} {n : Nat} {P : Nat → Fil} {Qs : List Fil} {Q : Fil} (h : LStF w n P Qs W) (hg : W.grownBy W' (some w.heap.size)) (ho : W'.ownsRow w.heap.size 46 2 (.slice (some ⟨w.heap.size, 0, none⟩) (Qs.length + 1) (n + 12)) (Qs.length + 1) (rcF Qs ++ [by8 Q.P, .slice Q.pB Q.B.length Q.cB]))
    (hl : Qs.length < n → LOneF w.heap.size W (P Qs.length) Q) (hm : ∀ i, Qs.length = n + i → MOneF i Q) : LStF w n P (Qs ++ [Q]) W' := by
  have hK : Kept (fun k => k = w.heap.size) W W' := (Kept.refl (fun k => k = w.heap.size) W).grown hg (fun r e => by
    cases e
    refine .inl ⟨rfl, fun o ho' => ?_⟩
    obtain ⟨_, _, cur, hc⟩ := owns_cells h.1 w.heap.size rfl
    rw [hc] at ho'
    cases ho'
    rfl)
  have hlen : (Qs ++ [Q]).length = Qs.length + 1 := by simp
  refine ⟨?_, fun i hi hj => ?_, fun i hi => ?_, h.2.2.2.trans (hK.below (fun k e => by omega) h.2.2.2.size)⟩
  · rw [hlen, rcF_append]
    exact ho
  · rw [hlen] at hj
    by_cases e : i < Qs.length
    · rw [getD_leftF e]
      exact (h.2.1 i hi e).kept hK
    · obtain rfl : i = Qs.length := by omega
      rw [getD_lastF rfl]
      exact (hl hi).kept hK
  · rw [hlen] at hi
    by_cases e : n + i < Qs.length
    · rw [getD_leftF e]
      exact h.2.2.1 i e
    · have e2 : Qs.length = n + i := by omega
      rw [getD_lastF e2.symm]
      exact hm i e2
theorem news2f {W : World} {g : Nat} {x y : Value} (h : W.heap[g]? = some (.cells #[x, y] 46 (0, 0))) : ∀ j u, [x, y][j]? = some u → W.cell? ((⟨g, 0, none⟩ : Addr).add j) = some u := by
  intro j u hj
  rw [add_none' _ rfl, cell_of_row _ _ _ _ _ _ h, Nat.zero_add]
  simpa using hj

set_option maxRecDepth 100000 in
set_option maxHeartbeats 2000000 in
theorem lentFiles_any (a : Option Addr) (n cap : Nat) (P : Nat → Fil) (w : World) (hP : Fils w a n P) (hn : n ≤ 10000) (hl : ∀ i, i < n → (P i).B.length ≤ 10000) :
    Calls Try.prog 8 #[.slice a n cap] w fun e w' => e = .returned (.slice (some ⟨w.heap.size, 0, none⟩) n (n + 12)) ∧ (∃ Qs, LentF w' w.heap.size n P Qs) ∧ Below w.heap.size w w' := by
  obtain ⟨i0, hi, hq0, hq1, hq2⟩ := info_parts info_fileK
  go_enter Try.func8, Try.ntmps8
  go_wp2_with (at_make; go_must (refine wpList_make_own _ rfl (.const (.int .i64 0)) (.tmp 9) 22 rfl w.heap.size 46 i0 (.agg #[.string ⟨#[]⟩, .slice none 0 0]) 2 Try.underlying22 hi hq0 hq1 .i64 .i64 _ (n + 12) rfl rfl (by simp) (by rw [hq2]; omega) (by unfold maxLen; omega) (Nat.le_refl _) ?_); intro w1 hown1 hg1)
  have hS0 : LStF w n P [] w1 := ⟨hown1, (fun i _ h => by simp at h), (fun i h => by simp at h), below_grown hg1⟩
  clear hown1 hg1
  go_loopg [3, 4] n (fun q s3 s4 wr => ∃ (k : Nat) (Qs : List Fil), k + q = n ∧ s4 = .int .i64 k ∧ s3 = .slice (some ⟨w.heap.size, 0, none⟩) k (n + 12) ∧ Qs.length = k ∧ LStF w n P Qs wr)
  case atStart => exact ⟨0, [], by omega, rfl, rfl, rfl, hS0⟩
  case round =>
    obtain ⟨k, Qs, hkq, rfl, rfl, hQl, hSt⟩ := hrel
    clear hS0
    cases gk with
    | zero =>
      obtain rfl : k = n := by omega
      have HSt := hide (And.intro hSt hQl)
      clear hSt hQl hP hl
      go_wp2
      go_loopg [3, 6] 12 (fun q s3 s6 wr => ∃ (j : Nat) (Qs : List Fil), j + q = 12 ∧ s6 = .int .i64 j ∧ s3 = .slice (some ⟨w.heap.size, 0, none⟩) (k + j) (k + 12) ∧ Qs.length = k + j ∧ LStF w k P Qs wr)
      case atStart => exact ⟨0, Qs, by omega, rfl, by simp, by have := HSt.out.2; omega, HSt.out.1⟩
      case round =>
        obtain ⟨j, Qs2, hjq, rfl, rfl, hQl2, hSt2⟩ := hrel
        cases gk with
        | zero =>
          obtain rfl : j = 12 := by omega
          have HSt2 := hide (And.intro hSt2 hQl2)
          have hk0 : (0 : Int) ≤ (k : Int) := by omega
          have hk1 : (k : Int) ≤ (k : Int) + 12 := by omega
          clear hSt2 hQl2 hi hq0 hq1 hq2
          go_wp2
          go_ret
          obtain ⟨hS, hL⟩ := HSt2.out
          refine ⟨rfl, ⟨Qs2, hL, ?_, fun i hi => hS.2.1 i hi (by omega), fun i hi => hS.2.2.1 i (by omega)⟩, hS.2.2.2⟩
          have := hS.1
          rw [hL] at this
          exact this
        | succ q =>
          have hj0 : (0 : Int) ≤ (j : Int) := by omega
          have hjz : (j : Int) < 12 := by omega
          have hm : ∀ W : World, Calls Try.prog 26 #[.int .i64 ((1 : Nat) : Int), .int .i64 j] W fun e w' => ∃ γ, e = .returned (.agg #[by8 (markL 1 j), .slice none 0 0]) ∧ FileFlat.gd w' γ 1 j ∧ Below W.heap.size W w' := fun W => FileFlat.mark_any 1 j W (by omega) (by omega)
          have HS2 := hide hSt2
          have HQ2 := hide hQl2
          clear hSt2 hQl2
          obtain ⟨MM, hMM⟩ : ∃ MM : ByteArray, by8 (markL 1 j) = .string MM := ⟨_, rfl⟩
          have HM := hide hMM
          have hMs : (Value.string MM).oneCell' = true := rfl
          rw [hMM] at hm
          clear hMM
          go_wp2_with (first
            | (go_at_call 26; refine (hm _).mono ?_; rintro e w' ⟨γ, rfl, hgd, hbm⟩
               have HG := hide hbm
               have hS3 := (HS2.out.below hbm).below (below_alloc w' (.cells #[.string MM, .slice none 0 0] 46))
               have hown := hS3.1
               rw [HQ2.out] at hown
               have hnw := news2f (heap_alloc_new w' (.cells #[.string MM, .slice none 0 0] 46))
               have HS3 := hide hS3
               clear hgd hbm hS3)
            | (at_builtin; go_must (refine wpList_append_fits _ rfl (.tmp 30) (.tmp 33) 22 rfl w.heap.size 46 i0 2 Try.underlying22 hi hq1 w.heap.size (k + j) (k + 12) (rcF Qs2) rfl hown ⟨w'.heap.size, 0, none⟩ 1 1 [.string MM, .slice none 0 0] rfl rfl hnw (by intro u hu; simp at hu; rcases hu with rfl | rfl; exact hMs; rfl) (by omega) ?_); intro w3 hown3 hg3))
          have hadd := HS3.out.add (Q := ⟨markL 1 j, [], none, 0⟩) hg3 (by rw [HQ2.out, HM.out]; exact hown3) (fun h => by have := HQ2.out; omega) (fun i hi => by
            obtain rfl : i = j := by have := HQ2.out; omega
            rfl)
          have HA := hide hadd
          clear hadd hown3 hg3 hown hnw
          go_roundg q
          case measure => omega
          case rel => exact ⟨j + 1, _, by omega, by go_num, by go_num, by rw [List.length_append, HQ2.out]; simp; omega, HA.out⟩
    | succ q =>
      have hkn : k < n := by omega
      have hkz : (k : Int) < (n : Int) := by omega
      have hk0 : (0 : Int) ≤ (k : Int) := by omega
      obtain ⟨b, off, rfl, ⟨e0, e1⟩, hok⟩ := (hP.below hSt.2.2.2).cells k hkn
      have hll := hl k hkn
      have hle := fun W hW => lentFile_any (P k).P (P k).pB (P k).B.length (P k).cB (fun j => (P k).B.getD j 0) W (by omega) hok.nB hok.lB (hok.bB.below (w' := W) hW)
      obtain ⟨MM, hMM⟩ : ∃ MM : ByteArray, by8 (P k).P = .string MM := ⟨_, rfl⟩
      have HM := hide hMM
      have hMs : (Value.string MM).oneCell' = true := rfl
      rw [hMM] at hle e0
      clear hP hl hMM
      have HS2 := hide hSt
      have HQ2 := hide hQl
      clear hSt hQl hok
      go_wp2_with (first
        | (go_at_call 25; refine (hle _ (Below.refl _ _)).mono ?_; rintro e w' ⟨g, rfl, hg, hblk, hbm⟩
           have HG := hide (And.intro hg (And.intro hblk hbm))
           have hb2 := below_step (below_alloc w' (.cells #[.string MM, .slice (some ⟨g, 0, none⟩) (P k).B.length ((P k).B.length + 12)] 46)) (.cells #[.string MM, .slice (some ⟨g, 0, none⟩) (P k).B.length ((P k).B.length + 12)] 46)
           have hS3 := (HS2.out.below hbm).below hb2
           have hown := hS3.1
           rw [HQ2.out] at hown
           have hnw := news2f (heap_alloc_new (w'.alloc (.cells #[.string MM, .slice (some ⟨g, 0, none⟩) (P k).B.length ((P k).B.length + 12)] 46)) (.cells #[.string MM, .slice (some ⟨g, 0, none⟩) (P k).B.length ((P k).B.length + 12)] 46))
           rw [World.size_alloc] at hnw
           have HS3 := hide (And.intro hS3 hb2)
           clear hg hblk hbm hS3 hb2)
        | (at_builtin; go_must (refine wpList_append_fits _ rfl (.tmp 22) (.tmp 24) 22 rfl w.heap.size 46 i0 2 Try.underlying22 hi hq1 w.heap.size k (n + 12) (rcF Qs) rfl hown ⟨w'.heap.size + 1, 0, none⟩ 1 1 [.string MM, .slice (some ⟨g, 0, none⟩) (P k).B.length ((P k).B.length + 12)] rfl rfl hnw (by intro u hu; simp at hu; rcases hu with rfl | rfl; exact hMs; rfl) (by omega) ?_); intro w3 hown3 hg3))
      have hgr : g ≠ w.heap.size := by
        have h1 := (owns_cells HS2.out.1 w.heap.size rfl).1
        have h2 := HG.out.1
        omega
      have hadd := HS3.out.1.add (Q := ⟨(P k).P, (P k).B, some ⟨g, 0, none⟩, (P k).B.length + 12⟩) hg3 (by rw [HQ2.out, HM.out]; exact hown3) (fun h => by
        rw [HQ2.out]
        exact ⟨rfl, rfl, g, hgr, rfl, rfl, HG.out.2.1.below HS3.out.2⟩) (fun i hi => by have := HQ2.out; omega)
      have HA := hide hadd
      clear hadd hown3 hg3 hown hnw hle
      go_roundg q
      case measure => omega
      case rel => exact ⟨k + 1, _, by omega, by go_num, rfl, by rw [List.length_append, HQ2.out]; simp, HA.out⟩
end Go.Proofs.Ytpmldopbjlnknaa

/-
  The drawn region of the kit's KeptFiles (written by tools/gen-dkept.py).
-/
namespace Go.Proofs.Ytpmldopbjlnknaa
open Go.RowKit Go.Shelf
set_option linter.unusedVariables false
set_option linter.unusedSimpArgs false

abbrev dk7_o0 : Oper := { dst := some 23, op := Op.move (Operand.tmp 6), type := 3, pos := "lent.go:423", after := #[], guard := none }
abbrev dk7_o1 : Oper := { dst := some 24, op := Op.move (Operand.tmp 1), type := 22, pos := "lent.go:423", after := #[], guard := none }
abbrev dk7_o2 : Oper := { dst := some 25, op := Op.call { callee := Callee.builtin Builtin.len, args := #[Operand.tmp 24], argTypes := #[22] }, type := 3, pos := "lent.go:423", after := #[{ on := 1, ground := Ground.data }], guard := none }
abbrev dk7_o3 : Oper := { dst := some 26, op := Op.binOp BinOp.lss 3 (Operand.tmp 23) (Operand.tmp 25) 3, type := 4, pos := "lent.go:423", after := #[{ on := 0, ground := Ground.data }, { on := 2, ground := Ground.data }], guard := none }
abbrev dk7_o4 : Oper := { dst := some 27, op := Op.move (Operand.tmp 26), type := 4, pos := "lent.go:423", after := #[{ on := 3, ground := Ground.data }], guard := none }
abbrev dk7_o5 : Oper := { dst := some 28, op := Op.move (Operand.tmp 5), type := 22, pos := "lent.go:423", after := #[{ on := 4, ground := Ground.guard }], guard := some (4, true) }
abbrev dk7_o6 : Oper := { dst := some 29, op := Op.move (Operand.tmp 6), type := 3, pos := "lent.go:423", after := #[{ on := 4, ground := Ground.guard }], guard := some (4, true) }
abbrev dk7_o7 : Oper := { dst := some 30, op := Op.indexAddr 22 (Operand.tmp 28) (Operand.tmp 29), type := 0, pos := "lent.go:423", after := #[{ on := 5, ground := Ground.data }, { on := 6, ground := Ground.data }, { on := 4, ground := Ground.guard }], guard := some (4, true) }
abbrev dk7_o8 : Oper := { dst := some 31, op := Op.load 46 (Operand.tmp 30), type := 46, pos := "lent.go:423", after := #[{ on := 7, ground := Ground.data }, { on := 4, ground := Ground.guard }], guard := some (4, true) }
abbrev dk7_o9 : Oper := { dst := some 32, op := Op.move (Operand.tmp 1), type := 22, pos := "lent.go:423", after := #[{ on := 4, ground := Ground.guard }], guard := some (4, true) }
abbrev dk7_o10 : Oper := { dst := some 33, op := Op.move (Operand.tmp 6), type := 3, pos := "lent.go:423", after := #[{ on := 4, ground := Ground.guard }], guard := some (4, true) }
abbrev dk7_o11 : Oper := { dst := some 34, op := Op.indexAddr 22 (Operand.tmp 32) (Operand.tmp 33), type := 0, pos := "lent.go:423", after := #[{ on := 9, ground := Ground.data }, { on := 10, ground := Ground.data }, { on := 4, ground := Ground.guard }], guard := some (4, true) }
abbrev dk7_o12 : Oper := { dst := some 35, op := Op.load 46 (Operand.tmp 34), type := 46, pos := "lent.go:423", after := #[{ on := 11, ground := Ground.data }, { on := 4, ground := Ground.guard }], guard := some (4, true) }
abbrev dk7_o13 : Oper := { dst := some 36, op := Op.call { callee := Callee.value (Operand.func 34), args := #[Operand.tmp 31, Operand.tmp 35], argTypes := #[46, 46] }, type := 4, pos := "lent.go:423", after := #[{ on := 8, ground := Ground.data }, { on := 12, ground := Ground.data }, { on := 4, ground := Ground.chain }, { on := 4, ground := Ground.guard }], guard := some (4, true) }
abbrev dk7_o14 : Oper := { dst := some 37, op := Op.unOp UnOp.not 4 (Operand.tmp 36), type := 4, pos := "lent.go:423", after := #[{ on := 13, ground := Ground.data }, { on := 4, ground := Ground.guard }], guard := some (4, true) }
abbrev dk7_o15 : Oper := { dst := some 38, op := Op.pick (Operand.tmp 27) (Operand.tmp 37) (Operand.const (Value.bool false)), type := 4, pos := "lent.go:423", after := #[{ on := 4, ground := Ground.data }, { on := 14, ground := Ground.data }], guard := none }
abbrev dk7_o16 : Oper := { dst := some 39, op := Op.move (Operand.tmp 38), type := 4, pos := "lent.go:423", after := #[{ on := 15, ground := Ground.data }, { on := 13, ground := Ground.chain }], guard := none }
abbrev dk7_o17 : Oper := { dst := some 40, op := Op.move (Operand.tmp 6), type := 3, pos := "lent.go:423", after := #[{ on := 16, ground := Ground.guard }], guard := some (16, false) }
abbrev dk7_o18 : Oper := { dst := some 41, op := Op.move (Operand.tmp 1), type := 22, pos := "lent.go:423", after := #[{ on := 16, ground := Ground.guard }], guard := some (16, false) }
abbrev dk7_o19 : Oper := { dst := some 42, op := Op.call { callee := Callee.builtin Builtin.len, args := #[Operand.tmp 41], argTypes := #[22] }, type := 3, pos := "lent.go:423", after := #[{ on := 18, ground := Ground.data }, { on := 16, ground := Ground.guard }], guard := some (16, false) }
abbrev dk7_o20 : Oper := { dst := some 43, op := Op.binOp BinOp.geq 3 (Operand.tmp 40) (Operand.tmp 42) 3, type := 4, pos := "lent.go:423", after := #[{ on := 17, ground := Ground.data }, { on := 19, ground := Ground.data }, { on := 16, ground := Ground.guard }], guard := some (16, false) }
abbrev dk7_o21 : Oper := { dst := some 44, op := Op.move (Operand.tmp 43), type := 4, pos := "lent.go:423", after := #[{ on := 20, ground := Ground.data }, { on := 16, ground := Ground.chain }, { on := 16, ground := Ground.guard }], guard := some (16, false) }
abbrev dk7_o22 : Oper := { dst := some 45, op := Op.move (Operand.tmp 5), type := 22, pos := "lent.go:423", after := #[{ on := 21, ground := Ground.guard }], guard := some (21, true) }
abbrev dk7_o23 : Oper := { dst := some 46, op := Op.move (Operand.tmp 6), type := 3, pos := "lent.go:423", after := #[{ on := 21, ground := Ground.guard }], guard := some (21, true) }
abbrev dk7_o24 : Oper := { dst := some 47, op := Op.indexAddr 22 (Operand.tmp 45) (Operand.tmp 46), type := 0, pos := "lent.go:423", after := #[{ on := 22, ground := Ground.data }, { on := 23, ground := Ground.data }, { on := 21, ground := Ground.guard }], guard := some (21, true) }
abbrev dk7_o25 : Oper := { dst := some 48, op := Op.load 46 (Operand.tmp 47), type := 46, pos := "lent.go:423", after := #[{ on := 24, ground := Ground.data }, { on := 21, ground := Ground.guard }], guard := some (21, true) }
abbrev dk7_o26 : Oper := { dst := some 49, op := Op.move (Operand.tmp 6), type := 3, pos := "lent.go:423", after := #[{ on := 21, ground := Ground.guard }], guard := some (21, true) }
abbrev dk7_o27 : Oper := { dst := some 50, op := Op.move (Operand.tmp 1), type := 22, pos := "lent.go:423", after := #[{ on := 21, ground := Ground.guard }], guard := some (21, true) }
abbrev dk7_o28 : Oper := { dst := some 51, op := Op.call { callee := Callee.builtin Builtin.len, args := #[Operand.tmp 50], argTypes := #[22] }, type := 3, pos := "lent.go:423", after := #[{ on := 27, ground := Ground.data }, { on := 21, ground := Ground.guard }], guard := some (21, true) }
abbrev dk7_o29 : Oper := { dst := some 52, op := Op.binOp BinOp.sub 3 (Operand.tmp 49) (Operand.tmp 51) 3, type := 3, pos := "lent.go:423", after := #[{ on := 26, ground := Ground.data }, { on := 28, ground := Ground.data }, { on := 21, ground := Ground.guard }], guard := some (21, true) }
abbrev dk7_o30 : Oper := { dst := some 53, op := Op.call { callee := Callee.value (Operand.func 26), args := #[Operand.const (Value.int IntKind.i64 1), Operand.tmp 52], argTypes := #[3, 3] }, type := 46, pos := "lent.go:423", after := #[{ on := 29, ground := Ground.data }, { on := 21, ground := Ground.chain }, { on := 21, ground := Ground.guard }], guard := some (21, true) }
abbrev dk7_o31 : Oper := { dst := some 54, op := Op.call { callee := Callee.value (Operand.func 35), args := #[Operand.tmp 48, Operand.tmp 53], argTypes := #[46, 46] }, type := 4, pos := "lent.go:423", after := #[{ on := 25, ground := Ground.data }, { on := 30, ground := Ground.data }, { on := 30, ground := Ground.chain }, { on := 21, ground := Ground.guard }], guard := some (21, true) }
abbrev dk7_o32 : Oper := { dst := some 55, op := Op.unOp UnOp.not 4 (Operand.tmp 54), type := 4, pos := "lent.go:423", after := #[{ on := 31, ground := Ground.data }, { on := 21, ground := Ground.guard }], guard := some (21, true) }
abbrev dk7_o33 : Oper := { dst := some 56, op := Op.pick (Operand.tmp 44) (Operand.tmp 55) (Operand.const (Value.bool false)), type := 4, pos := "lent.go:423", after := #[{ on := 21, ground := Ground.data }, { on := 32, ground := Ground.data }, { on := 16, ground := Ground.guard }], guard := some (16, false) }
abbrev dk7_o34 : Oper := { dst := some 57, op := Op.pick (Operand.tmp 39) (Operand.const (Value.bool true)) (Operand.tmp 56), type := 4, pos := "lent.go:423", after := #[{ on := 16, ground := Ground.data }, { on := 33, ground := Ground.data }], guard := none }
def dk7_ops : Array Oper := #[dk7_o0, dk7_o1, dk7_o2, dk7_o3, dk7_o4, dk7_o5, dk7_o6, dk7_o7, dk7_o8, dk7_o9, dk7_o10, dk7_o11, dk7_o12, dk7_o13, dk7_o14, dk7_o15, dk7_o16, dk7_o17, dk7_o18, dk7_o19, dk7_o20, dk7_o21, dk7_o22, dk7_o23, dk7_o24, dk7_o25, dk7_o26, dk7_o27, dk7_o28, dk7_o29, dk7_o30, dk7_o31, dk7_o32, dk7_o33, dk7_o34]
abbrev dk7_mem (s : Nat) : Prop := s ∈ [23, 24, 25, 26, 27, 28, 29, 30, 31, 32, 33, 34, 35, 36, 37, 38, 39, 40, 41, 42, 43, 44, 45, 46, 47, 48, 49, 50, 51, 52, 53, 54, 55, 56, 57]
set_option maxRecDepth 100000 in
theorem dk7_slots : ∀ j, j < 35 → dk7_mem (slotOf dk7_ops j) := by
  intro j hj
  match j, hj with
  | 0, _ => exact (by decide : dk7_mem 23)
  | 1, _ => exact (by decide : dk7_mem 24)
  | 2, _ => exact (by decide : dk7_mem 25)
  | 3, _ => exact (by decide : dk7_mem 26)
  | 4, _ => exact (by decide : dk7_mem 27)
  | 5, _ => exact (by decide : dk7_mem 28)
  | 6, _ => exact (by decide : dk7_mem 29)
  | 7, _ => exact (by decide : dk7_mem 30)
  | 8, _ => exact (by decide : dk7_mem 31)
  | 9, _ => exact (by decide : dk7_mem 32)
  | 10, _ => exact (by decide : dk7_mem 33)
  | 11, _ => exact (by decide : dk7_mem 34)
  | 12, _ => exact (by decide : dk7_mem 35)
  | 13, _ => exact (by decide : dk7_mem 36)
  | 14, _ => exact (by decide : dk7_mem 37)
  | 15, _ => exact (by decide : dk7_mem 38)
  | 16, _ => exact (by decide : dk7_mem 39)
  | 17, _ => exact (by decide : dk7_mem 40)
  | 18, _ => exact (by decide : dk7_mem 41)
  | 19, _ => exact (by decide : dk7_mem 42)
  | 20, _ => exact (by decide : dk7_mem 43)
  | 21, _ => exact (by decide : dk7_mem 44)
  | 22, _ => exact (by decide : dk7_mem 45)
  | 23, _ => exact (by decide : dk7_mem 46)
  | 24, _ => exact (by decide : dk7_mem 47)
  | 25, _ => exact (by decide : dk7_mem 48)
  | 26, _ => exact (by decide : dk7_mem 49)
  | 27, _ => exact (by decide : dk7_mem 50)
  | 28, _ => exact (by decide : dk7_mem 51)
  | 29, _ => exact (by decide : dk7_mem 52)
  | 30, _ => exact (by decide : dk7_mem 53)
  | 31, _ => exact (by decide : dk7_mem 54)
  | 32, _ => exact (by decide : dk7_mem 55)
  | 33, _ => exact (by decide : dk7_mem 56)
  | 34, _ => exact (by decide : dk7_mem 57)
  | k + 35, hj => omega
def dkA_val (gR oR m cR gB oB n cA i l h cB : Nat) (P : List UInt8) (pB : Option Addr) : Nat → Value → World → Prop
  | 0, v, w => v = .int .i64 (i : Nat)
  | 1, v, w => v = .slice (some ⟨gB, oB, none⟩) n cA
  | 2, v, w => v = .int .i64 (n : Nat)
  | 3, v, w => v = .bool true
  | 4, v, w => v = .bool true
  | 5, v, w => v = .slice (some ⟨gR, oR, none⟩) m cR
  | 6, v, w => v = .int .i64 (i : Nat)
  | 7, v, w => v = .pointer (some ⟨gR, oR + i * 2, none⟩)
  | 8, v, w => v = .agg #[by8 P, .slice (some ⟨h, 0, none⟩) l (l + 12)]
  | 9, v, w => v = .slice (some ⟨gB, oB, none⟩) n cA
  | 10, v, w => v = .int .i64 (i : Nat)
  | 11, v, w => v = .pointer (some ⟨gB, oB + i * 2, none⟩)
  | 12, v, w => v = .agg #[by8 P, .slice pB l cB]
  | 13, v, w => v = .bool true
  | 14, v, w => v = .bool false
  | 15, v, w => v = .bool false
  | 16, v, w => v = .bool false
  | 17, v, w => v = .int .i64 (i : Nat)
  | 18, v, w => v = .slice (some ⟨gB, oB, none⟩) n cA
  | 19, v, w => v = .int .i64 (n : Nat)
  | 20, v, w => v = .bool false
  | 21, v, w => v = .bool false
  | 22, v, w => v = undef
  | 23, v, w => v = undef
  | 24, v, w => v = undef
  | 25, v, w => v = undef
  | 26, v, w => v = undef
  | 27, v, w => v = undef
  | 28, v, w => v = undef
  | 29, v, w => v = undef
  | 30, v, w => v = undef
  | 31, v, w => v = undef
  | 32, v, w => v = undef
  | 33, v, w => v = .bool false
  | 34, v, w => v = .bool false
  | _, _, _ => True
theorem dkA_below (gR oR m cR gB oB n cA i l h cB : Nat) (P : List UInt8) (pB : Option Addr) (w w' : World) (hb : Below w.heap.size w w') : ∀ j v, dkA_val gR oR m cR gB oB n cA i l h cB P pB j v w → dkA_val gR oR m cR gB oB n cA i l h cB P pB j v w' := by
  intro j v h
  match j, h with
  | 0, h => exact h
  | 1, h => exact h
  | 2, h => exact h
  | 3, h => exact h
  | 4, h => exact h
  | 5, h => exact h
  | 6, h => exact h
  | 7, h => exact h
  | 8, h => exact h
  | 9, h => exact h
  | 10, h => exact h
  | 11, h => exact h
  | 12, h => exact h
  | 13, h => exact h
  | 14, h => exact h
  | 15, h => exact h
  | 16, h => exact h
  | 17, h => exact h
  | 18, h => exact h
  | 19, h => exact h
  | 20, h => exact h
  | 21, h => exact h
  | 22, h => exact h
  | 23, h => exact h
  | 24, h => exact h
  | 25, h => exact h
  | 26, h => exact h
  | 27, h => exact h
  | 28, h => exact h
  | 29, h => exact h
  | 30, h => exact h
  | 31, h => exact h
  | 32, h => exact h
  | 33, h => exact h
  | 34, h => exact h
  | _ + 35, h => exact h
def dkA_H (Fc : Fence) (gR oR m cR gB oB n cA i l h cB : Nat) (P : List UInt8) (pB : Option Addr) (df : List Deferred) (w0 : World) (x : Act) (w : World) : Prop :=
  (Wide Fc) ∧ (Hid (i < n ∧ i < m ∧ m ≤ 20000)) ∧ (w0.cell? ⟨gR, oR + i * 2, none⟩ = some (by8 P)) ∧ (w0.cell? ⟨gR, oR + i * 2 + 1, none⟩ = some (.slice (some ⟨h, 0, none⟩) l (l + 12))) ∧ (w0.cell? ⟨gB, oB + i * 2, none⟩ = some (by8 P)) ∧ (w0.cell? ⟨gB, oB + i * 2 + 1, none⟩ = some (.slice pB l cB)) ∧ (∀ W : World, Below w0.heap.size w0 W → Calls Try.prog 34 #[.agg #[by8 P, .slice (some ⟨h, 0, none⟩) l (l + 12)], .agg #[by8 P, .slice pB l cB]] W fun e w' => e = .returned (.bool true) ∧ Below W.heap.size W w') ∧ (Below w0.heap.size w0 w) ∧ (x.defers = df) ∧ (x.tmps.getD 1 undef = .slice (some ⟨gB, oB, none⟩) n cA) ∧ (x.tmps.getD 5 undef = .slice (some ⟨gR, oR, none⟩) m cR) ∧ (x.tmps.getD 6 undef = .int .i64 (i : Nat))
section
set_option maxRecDepth 100000
set_option maxHeartbeats 2000000
variable {Fc : Fence} {nC : Nat} (gR oR m cR gB oB n cA i l h cB : Nat) (P : List UInt8) (pB : Option Addr) (Q : Exit → Act → World → Prop) (df : List Deferred) (w0 : World) (x : Act) (w : World)
theorem dkA_s0 (H : dkA_H Fc gR oR m cR gB oB n cA i l h cB P pB df w0 x w)
    : Stp Fc nC Try.prog dk7_ops Q 0 23 (dkA_val gR oR m cR gB oB n cA i l h cB P pB 0) x w := by
  obtain ⟨hF, hk, x0, x1, y0, y1, cs, hB, hdef, u1, u5, u6⟩ := H
  have ho : dk7_ops[0]? = some dk7_o0 := rfl
  simp only [Array.getD_eq_getD_getElem?] at u1 u5 u6
  refine wpOpIn_plain ho rfl (oper_inK hF.fn (fun K hK => ?_))
  clear ho
  rw [Oper.semAt_plain Fc _ _ (by intro c h; cases h)]
  simp only [dk7_o0]
  go_simp
  exact hK _ _ ⟨_, act_putD x hdef _ _, rfl, Below.refl _ _⟩
theorem dkA_s1 (H : dkA_H Fc gR oR m cR gB oB n cA i l h cB P pB df w0 x w)
    : Stp Fc nC Try.prog dk7_ops Q 1 24 (dkA_val gR oR m cR gB oB n cA i l h cB P pB 1) x w := by
  obtain ⟨hF, hk, x0, x1, y0, y1, cs, hB, hdef, u1, u5, u6⟩ := H
  have ho : dk7_ops[1]? = some dk7_o1 := rfl
  simp only [Array.getD_eq_getD_getElem?] at u1 u5 u6
  refine wpOpIn_plain ho rfl (oper_inK hF.fn (fun K hK => ?_))
  clear ho
  rw [Oper.semAt_plain Fc _ _ (by intro c h; cases h)]
  simp only [dk7_o1]
  go_simp
  exact hK _ _ ⟨_, act_putD x hdef _ _, rfl, Below.refl _ _⟩
theorem dkA_s2 (H : dkA_H Fc gR oR m cR gB oB n cA i l h cB P pB df w0 x w)
    (p1 : dkA_val gR oR m cR gB oB n cA i l h cB P pB 1 (x.tmps.getD 24 undef) w)
    : Stp Fc nC Try.prog dk7_ops Q 2 25 (dkA_val gR oR m cR gB oB n cA i l h cB P pB 2) x w := by
  obtain ⟨hF, hk, x0, x1, y0, y1, cs, hB, hdef, u1, u5, u6⟩ := H
  have ho : dk7_ops[2]? = some dk7_o2 := rfl
  simp only [Array.getD_eq_getD_getElem?] at u1 u5 u6
  have q1 : x.tmps.getD 24 undef = .slice (some ⟨gB, oB, none⟩) n cA := p1
  simp only [Array.getD_eq_getD_getElem?] at q1
  refine wpOpIn_plain ho rfl (oper_inK hF.fn (fun K hK => ?_))
  clear ho
  rw [Oper.semAt_plain Fc _ _ (by intro c h; cases h)]
  simp only [dk7_o2]
  go_simp
  exact hK _ _ ⟨_, act_putD x hdef _ _, rfl, Below.refl _ _⟩
theorem dkA_s3 (H : dkA_H Fc gR oR m cR gB oB n cA i l h cB P pB df w0 x w)
    (p0 : dkA_val gR oR m cR gB oB n cA i l h cB P pB 0 (x.tmps.getD 23 undef) w)
    (p2 : dkA_val gR oR m cR gB oB n cA i l h cB P pB 2 (x.tmps.getD 25 undef) w)
    : Stp Fc nC Try.prog dk7_ops Q 3 26 (dkA_val gR oR m cR gB oB n cA i l h cB P pB 3) x w := by
  obtain ⟨hF, hk, x0, x1, y0, y1, cs, hB, hdef, u1, u5, u6⟩ := H
  have ho : dk7_ops[3]? = some dk7_o3 := rfl
  simp only [Array.getD_eq_getD_getElem?] at u1 u5 u6
  have q0 : x.tmps.getD 23 undef = .int .i64 (i : Nat) := p0
  have q2 : x.tmps.getD 25 undef = .int .i64 (n : Nat) := p2
  simp only [Array.getD_eq_getD_getElem?] at q0 q2
  have r1 : (i : Int) < (n : Int) := by have := hk.out; omega
  refine wpOpIn_plain ho rfl (oper_inK hF.fn (fun K hK => ?_))
  clear ho
  rw [Oper.semAt_plain Fc _ _ (by intro c h; cases h)]
  simp only [dk7_o3]
  go_simp
  exact hK _ _ ⟨_, act_putD x hdef _ _, rfl, Below.refl _ _⟩
theorem dkA_s4 (H : dkA_H Fc gR oR m cR gB oB n cA i l h cB P pB df w0 x w)
    (p3 : dkA_val gR oR m cR gB oB n cA i l h cB P pB 3 (x.tmps.getD 26 undef) w)
    : Stp Fc nC Try.prog dk7_ops Q 4 27 (dkA_val gR oR m cR gB oB n cA i l h cB P pB 4) x w := by
  obtain ⟨hF, hk, x0, x1, y0, y1, cs, hB, hdef, u1, u5, u6⟩ := H
  have ho : dk7_ops[4]? = some dk7_o4 := rfl
  simp only [Array.getD_eq_getD_getElem?] at u1 u5 u6
  have q3 : x.tmps.getD 26 undef = .bool true := p3
  simp only [Array.getD_eq_getD_getElem?] at q3
  refine wpOpIn_plain ho rfl (oper_inK hF.fn (fun K hK => ?_))
  clear ho
  rw [Oper.semAt_plain Fc _ _ (by intro c h; cases h)]
  simp only [dk7_o4]
  go_simp
  exact hK _ _ ⟨_, act_putD x hdef _ _, rfl, Below.refl _ _⟩
theorem dkA_s5 (H : dkA_H Fc gR oR m cR gB oB n cA i l h cB P pB df w0 x w)
    (p4 : dkA_val gR oR m cR gB oB n cA i l h cB P pB 4 (x.tmps.getD 27 undef) w)
    : Stp Fc nC Try.prog dk7_ops Q 5 28 (dkA_val gR oR m cR gB oB n cA i l h cB P pB 5) x w := by
  obtain ⟨hF, hk, x0, x1, y0, y1, cs, hB, hdef, u1, u5, u6⟩ := H
  have ho : dk7_ops[5]? = some dk7_o5 := rfl
  simp only [Array.getD_eq_getD_getElem?] at u1 u5 u6
  have q4 : x.tmps.getD 27 undef = .bool true := p4
  simp only [Array.getD_eq_getD_getElem?] at q4
  have e4 : (dk7_ops[4]?.bind fun x => x.dst) = some 27 := rfl
  have g4 := get_someT q4 (fun h => by cases h)
  refine wpOpIn_stepT hF ho (fun K hK => ?_)
  clear ho
  rw [Oper.semAt_plain Fc _ _ (by intro c h; cases h)]
  simp only [dk7_o5]
  go_simp
  exact hK _ _ ⟨_, act_putD x hdef _ _, rfl, Below.refl _ _⟩
theorem dkA_s6 (H : dkA_H Fc gR oR m cR gB oB n cA i l h cB P pB df w0 x w)
    (p4 : dkA_val gR oR m cR gB oB n cA i l h cB P pB 4 (x.tmps.getD 27 undef) w)
    : Stp Fc nC Try.prog dk7_ops Q 6 29 (dkA_val gR oR m cR gB oB n cA i l h cB P pB 6) x w := by
  obtain ⟨hF, hk, x0, x1, y0, y1, cs, hB, hdef, u1, u5, u6⟩ := H
  have ho : dk7_ops[6]? = some dk7_o6 := rfl
  simp only [Array.getD_eq_getD_getElem?] at u1 u5 u6
  have q4 : x.tmps.getD 27 undef = .bool true := p4
  simp only [Array.getD_eq_getD_getElem?] at q4
  have e4 : (dk7_ops[4]?.bind fun x => x.dst) = some 27 := rfl
  have g4 := get_someT q4 (fun h => by cases h)
  refine wpOpIn_stepT hF ho (fun K hK => ?_)
  clear ho
  rw [Oper.semAt_plain Fc _ _ (by intro c h; cases h)]
  simp only [dk7_o6]
  go_simp
  exact hK _ _ ⟨_, act_putD x hdef _ _, rfl, Below.refl _ _⟩
theorem dkA_s7 (H : dkA_H Fc gR oR m cR gB oB n cA i l h cB P pB df w0 x w)
    (p5 : dkA_val gR oR m cR gB oB n cA i l h cB P pB 5 (x.tmps.getD 28 undef) w)
    (p6 : dkA_val gR oR m cR gB oB n cA i l h cB P pB 6 (x.tmps.getD 29 undef) w)
    (p4 : dkA_val gR oR m cR gB oB n cA i l h cB P pB 4 (x.tmps.getD 27 undef) w)
    : Stp Fc nC Try.prog dk7_ops Q 7 30 (dkA_val gR oR m cR gB oB n cA i l h cB P pB 7) x w := by
  obtain ⟨hF, hk, x0, x1, y0, y1, cs, hB, hdef, u1, u5, u6⟩ := H
  have ho : dk7_ops[7]? = some dk7_o7 := rfl
  simp only [Array.getD_eq_getD_getElem?] at u1 u5 u6
  have q5 : x.tmps.getD 28 undef = .slice (some ⟨gR, oR, none⟩) m cR := p5
  have q6 : x.tmps.getD 29 undef = .int .i64 (i : Nat) := p6
  have q4 : x.tmps.getD 27 undef = .bool true := p4
  simp only [Array.getD_eq_getD_getElem?] at q5 q6 q4
  have e4 : (dk7_ops[4]?.bind fun x => x.dst) = some 27 := rfl
  have g4 := get_someT q4 (fun h => by cases h)
  have r0 : (0 : Int) ≤ (i : Int) := by have := hk.out; omega
  have r1 : (i : Int) < (m : Int) := by have := hk.out; omega
  refine wpOpIn_stepT hF ho (fun K hK => ?_)
  clear ho
  rw [Oper.semAt_plain Fc _ _ (by intro c h; cases h)]
  simp only [dk7_o7]
  go_simp
  exact hK _ _ ⟨_, act_putD x hdef _ _, rfl, Below.refl _ _⟩
theorem dkA_s8 (H : dkA_H Fc gR oR m cR gB oB n cA i l h cB P pB df w0 x w)
    (p7 : dkA_val gR oR m cR gB oB n cA i l h cB P pB 7 (x.tmps.getD 30 undef) w)
    (p4 : dkA_val gR oR m cR gB oB n cA i l h cB P pB 4 (x.tmps.getD 27 undef) w)
    : Stp Fc nC Try.prog dk7_ops Q 8 31 (dkA_val gR oR m cR gB oB n cA i l h cB P pB 8) x w := by
  obtain ⟨hF, hk, x0, x1, y0, y1, cs, hB, hdef, u1, u5, u6⟩ := H
  have ho : dk7_ops[8]? = some dk7_o8 := rfl
  simp only [Array.getD_eq_getD_getElem?] at u1 u5 u6
  have q7 : x.tmps.getD 30 undef = .pointer (some ⟨gR, oR + i * 2, none⟩) := p7
  have q4 : x.tmps.getD 27 undef = .bool true := p4
  simp only [Array.getD_eq_getD_getElem?] at q7 q4
  have e4 : (dk7_ops[4]?.bind fun x => x.dst) = some 27 := rfl
  have g4 := get_someT q4 (fun h => by cases h)
  have m0 := cell_thru x0 hB
  have m1 := cell_thru x1 hB
  unfold by8 at *
  refine wpOpIn_stepT hF ho (fun K hK => ?_)
  clear ho
  rw [Oper.semAt_plain Fc _ _ (by intro c h; cases h)]
  simp only [dk7_o8]
  go_simp
  exact hK _ _ ⟨_, act_putD x hdef _ _, rfl, Below.refl _ _⟩
theorem dkA_s9 (H : dkA_H Fc gR oR m cR gB oB n cA i l h cB P pB df w0 x w)
    (p4 : dkA_val gR oR m cR gB oB n cA i l h cB P pB 4 (x.tmps.getD 27 undef) w)
    : Stp Fc nC Try.prog dk7_ops Q 9 32 (dkA_val gR oR m cR gB oB n cA i l h cB P pB 9) x w := by
  obtain ⟨hF, hk, x0, x1, y0, y1, cs, hB, hdef, u1, u5, u6⟩ := H
  have ho : dk7_ops[9]? = some dk7_o9 := rfl
  simp only [Array.getD_eq_getD_getElem?] at u1 u5 u6
  have q4 : x.tmps.getD 27 undef = .bool true := p4
  simp only [Array.getD_eq_getD_getElem?] at q4
  have e4 : (dk7_ops[4]?.bind fun x => x.dst) = some 27 := rfl
  have g4 := get_someT q4 (fun h => by cases h)
  refine wpOpIn_stepT hF ho (fun K hK => ?_)
  clear ho
  rw [Oper.semAt_plain Fc _ _ (by intro c h; cases h)]
  simp only [dk7_o9]
  go_simp
  exact hK _ _ ⟨_, act_putD x hdef _ _, rfl, Below.refl _ _⟩
theorem dkA_s10 (H : dkA_H Fc gR oR m cR gB oB n cA i l h cB P pB df w0 x w)
    (p4 : dkA_val gR oR m cR gB oB n cA i l h cB P pB 4 (x.tmps.getD 27 undef) w)
    : Stp Fc nC Try.prog dk7_ops Q 10 33 (dkA_val gR oR m cR gB oB n cA i l h cB P pB 10) x w := by
  obtain ⟨hF, hk, x0, x1, y0, y1, cs, hB, hdef, u1, u5, u6⟩ := H
  have ho : dk7_ops[10]? = some dk7_o10 := rfl
  simp only [Array.getD_eq_getD_getElem?] at u1 u5 u6
  have q4 : x.tmps.getD 27 undef = .bool true := p4
  simp only [Array.getD_eq_getD_getElem?] at q4
  have e4 : (dk7_ops[4]?.bind fun x => x.dst) = some 27 := rfl
  have g4 := get_someT q4 (fun h => by cases h)
  refine wpOpIn_stepT hF ho (fun K hK => ?_)
  clear ho
  rw [Oper.semAt_plain Fc _ _ (by intro c h; cases h)]
  simp only [dk7_o10]
  go_simp
  exact hK _ _ ⟨_, act_putD x hdef _ _, rfl, Below.refl _ _⟩
theorem dkA_s11 (H : dkA_H Fc gR oR m cR gB oB n cA i l h cB P pB df w0 x w)
    (p9 : dkA_val gR oR m cR gB oB n cA i l h cB P pB 9 (x.tmps.getD 32 undef) w)
    (p10 : dkA_val gR oR m cR gB oB n cA i l h cB P pB 10 (x.tmps.getD 33 undef) w)
    (p4 : dkA_val gR oR m cR gB oB n cA i l h cB P pB 4 (x.tmps.getD 27 undef) w)
    : Stp Fc nC Try.prog dk7_ops Q 11 34 (dkA_val gR oR m cR gB oB n cA i l h cB P pB 11) x w := by
  obtain ⟨hF, hk, x0, x1, y0, y1, cs, hB, hdef, u1, u5, u6⟩ := H
  have ho : dk7_ops[11]? = some dk7_o11 := rfl
  simp only [Array.getD_eq_getD_getElem?] at u1 u5 u6
  have q9 : x.tmps.getD 32 undef = .slice (some ⟨gB, oB, none⟩) n cA := p9
  have q10 : x.tmps.getD 33 undef = .int .i64 (i : Nat) := p10
  have q4 : x.tmps.getD 27 undef = .bool true := p4
  simp only [Array.getD_eq_getD_getElem?] at q9 q10 q4
  have e4 : (dk7_ops[4]?.bind fun x => x.dst) = some 27 := rfl
  have g4 := get_someT q4 (fun h => by cases h)
  have r0 : (0 : Int) ≤ (i : Int) := by have := hk.out; omega
  have r1 : (i : Int) < (n : Int) := by have := hk.out; omega
  refine wpOpIn_stepT hF ho (fun K hK => ?_)
  clear ho
  rw [Oper.semAt_plain Fc _ _ (by intro c h; cases h)]
  simp only [dk7_o11]
  go_simp
  exact hK _ _ ⟨_, act_putD x hdef _ _, rfl, Below.refl _ _⟩
theorem dkA_s12 (H : dkA_H Fc gR oR m cR gB oB n cA i l h cB P pB df w0 x w)
    (p11 : dkA_val gR oR m cR gB oB n cA i l h cB P pB 11 (x.tmps.getD 34 undef) w)
    (p4 : dkA_val gR oR m cR gB oB n cA i l h cB P pB 4 (x.tmps.getD 27 undef) w)
    : Stp Fc nC Try.prog dk7_ops Q 12 35 (dkA_val gR oR m cR gB oB n cA i l h cB P pB 12) x w := by
  obtain ⟨hF, hk, x0, x1, y0, y1, cs, hB, hdef, u1, u5, u6⟩ := H
  have ho : dk7_ops[12]? = some dk7_o12 := rfl
  simp only [Array.getD_eq_getD_getElem?] at u1 u5 u6
  have q11 : x.tmps.getD 34 undef = .pointer (some ⟨gB, oB + i * 2, none⟩) := p11
  have q4 : x.tmps.getD 27 undef = .bool true := p4
  simp only [Array.getD_eq_getD_getElem?] at q11 q4
  have e4 : (dk7_ops[4]?.bind fun x => x.dst) = some 27 := rfl
  have g4 := get_someT q4 (fun h => by cases h)
  have m0 := cell_thru y0 hB
  have m1 := cell_thru y1 hB
  unfold by8 at *
  refine wpOpIn_stepT hF ho (fun K hK => ?_)
  clear ho
  rw [Oper.semAt_plain Fc _ _ (by intro c h; cases h)]
  simp only [dk7_o12]
  go_simp
  exact hK _ _ ⟨_, act_putD x hdef _ _, rfl, Below.refl _ _⟩
theorem dkA_s13 (H : dkA_H Fc gR oR m cR gB oB n cA i l h cB P pB df w0 x w)
    (p8 : dkA_val gR oR m cR gB oB n cA i l h cB P pB 8 (x.tmps.getD 31 undef) w)
    (p12 : dkA_val gR oR m cR gB oB n cA i l h cB P pB 12 (x.tmps.getD 35 undef) w)
    (p4 : dkA_val gR oR m cR gB oB n cA i l h cB P pB 4 (x.tmps.getD 27 undef) w)
    : Stp Fc nC Try.prog dk7_ops Q 13 36 (dkA_val gR oR m cR gB oB n cA i l h cB P pB 13) x w := by
  obtain ⟨hF, hk, x0, x1, y0, y1, cs, hB, hdef, u1, u5, u6⟩ := H
  have ho : dk7_ops[13]? = some dk7_o13 := rfl
  simp only [Array.getD_eq_getD_getElem?] at u1 u5 u6
  have q8 : x.tmps.getD 31 undef = .agg #[by8 P, .slice (some ⟨h, 0, none⟩) l (l + 12)] := p8
  have q12 : x.tmps.getD 35 undef = .agg #[by8 P, .slice pB l cB] := p12
  have q4 : x.tmps.getD 27 undef = .bool true := p4
  simp only [Array.getD_eq_getD_getElem?] at q8 q12 q4
  have e4 : (dk7_ops[4]?.bind fun x => x.dst) = some 27 := rfl
  have g4 := get_someT q4 (fun h => by cases h)
  refine wpOpIn_stepT hF ho (fun K hK => ?_)
  clear ho
  rw [Oper.semAt_plain Fc _ _ (by intro c h; cases h)]
  simp only [dk7_o13]
  go_simp
  refine ⟨hF.deep, (hF.call (cs w hB)).mono ?_⟩
  rintro e w' ⟨rfl, hb⟩
  exact hK _ _ ⟨_, act_putD x hdef _ _, rfl, hb⟩
theorem dkA_s14 (H : dkA_H Fc gR oR m cR gB oB n cA i l h cB P pB df w0 x w)
    (p13 : dkA_val gR oR m cR gB oB n cA i l h cB P pB 13 (x.tmps.getD 36 undef) w)
    (p4 : dkA_val gR oR m cR gB oB n cA i l h cB P pB 4 (x.tmps.getD 27 undef) w)
    : Stp Fc nC Try.prog dk7_ops Q 14 37 (dkA_val gR oR m cR gB oB n cA i l h cB P pB 14) x w := by
  obtain ⟨hF, hk, x0, x1, y0, y1, cs, hB, hdef, u1, u5, u6⟩ := H
  have ho : dk7_ops[14]? = some dk7_o14 := rfl
  simp only [Array.getD_eq_getD_getElem?] at u1 u5 u6
  have q13 : x.tmps.getD 36 undef = .bool true := p13
  have q4 : x.tmps.getD 27 undef = .bool true := p4
  simp only [Array.getD_eq_getD_getElem?] at q13 q4
  have e4 : (dk7_ops[4]?.bind fun x => x.dst) = some 27 := rfl
  have g4 := get_someT q4 (fun h => by cases h)
  refine wpOpIn_stepT hF ho (fun K hK => ?_)
  clear ho
  rw [Oper.semAt_plain Fc _ _ (by intro c h; cases h)]
  simp only [dk7_o14]
  go_simp
  exact hK _ _ ⟨_, act_putD x hdef _ _, rfl, Below.refl _ _⟩
theorem dkA_s15 (H : dkA_H Fc gR oR m cR gB oB n cA i l h cB P pB df w0 x w)
    (p4 : dkA_val gR oR m cR gB oB n cA i l h cB P pB 4 (x.tmps.getD 27 undef) w)
    (p14 : dkA_val gR oR m cR gB oB n cA i l h cB P pB 14 (x.tmps.getD 37 undef) w)
    : Stp Fc nC Try.prog dk7_ops Q 15 38 (dkA_val gR oR m cR gB oB n cA i l h cB P pB 15) x w := by
  obtain ⟨hF, hk, x0, x1, y0, y1, cs, hB, hdef, u1, u5, u6⟩ := H
  have ho : dk7_ops[15]? = some dk7_o15 := rfl
  simp only [Array.getD_eq_getD_getElem?] at u1 u5 u6
  have q4 : x.tmps.getD 27 undef = .bool true := p4
  have q14 : x.tmps.getD 37 undef = .bool false := p14
  simp only [Array.getD_eq_getD_getElem?] at q4 q14
  refine wpOpIn_plain ho rfl (oper_inK hF.fn (fun K hK => ?_))
  clear ho
  rw [Oper.semAt_plain Fc _ _ (by intro c h; cases h)]
  simp only [dk7_o15]
  go_simp
  exact hK _ _ ⟨_, act_putD x hdef _ _, rfl, Below.refl _ _⟩
theorem dkA_s16 (H : dkA_H Fc gR oR m cR gB oB n cA i l h cB P pB df w0 x w)
    (p15 : dkA_val gR oR m cR gB oB n cA i l h cB P pB 15 (x.tmps.getD 38 undef) w)
    : Stp Fc nC Try.prog dk7_ops Q 16 39 (dkA_val gR oR m cR gB oB n cA i l h cB P pB 16) x w := by
  obtain ⟨hF, hk, x0, x1, y0, y1, cs, hB, hdef, u1, u5, u6⟩ := H
  have ho : dk7_ops[16]? = some dk7_o16 := rfl
  simp only [Array.getD_eq_getD_getElem?] at u1 u5 u6
  have q15 : x.tmps.getD 38 undef = .bool false := p15
  simp only [Array.getD_eq_getD_getElem?] at q15
  refine wpOpIn_plain ho rfl (oper_inK hF.fn (fun K hK => ?_))
  clear ho
  rw [Oper.semAt_plain Fc _ _ (by intro c h; cases h)]
  simp only [dk7_o16]
  go_simp
  exact hK _ _ ⟨_, act_putD x hdef _ _, rfl, Below.refl _ _⟩
theorem dkA_s17 (H : dkA_H Fc gR oR m cR gB oB n cA i l h cB P pB df w0 x w)
    (p16 : dkA_val gR oR m cR gB oB n cA i l h cB P pB 16 (x.tmps.getD 39 undef) w)
    : Stp Fc nC Try.prog dk7_ops Q 17 40 (dkA_val gR oR m cR gB oB n cA i l h cB P pB 17) x w := by
  obtain ⟨hF, hk, x0, x1, y0, y1, cs, hB, hdef, u1, u5, u6⟩ := H
  have ho : dk7_ops[17]? = some dk7_o17 := rfl
  simp only [Array.getD_eq_getD_getElem?] at u1 u5 u6
  have q16 : x.tmps.getD 39 undef = .bool false := p16
  simp only [Array.getD_eq_getD_getElem?] at q16
  have e16 : (dk7_ops[16]?.bind fun x => x.dst) = some 39 := rfl
  have g16 := get_someT q16 (fun h => by cases h)
  refine wpOpIn_stepT hF ho (fun K hK => ?_)
  clear ho
  rw [Oper.semAt_plain Fc _ _ (by intro c h; cases h)]
  simp only [dk7_o17]
  go_simp
  exact hK _ _ ⟨_, act_putD x hdef _ _, rfl, Below.refl _ _⟩
theorem dkA_s18 (H : dkA_H Fc gR oR m cR gB oB n cA i l h cB P pB df w0 x w)
    (p16 : dkA_val gR oR m cR gB oB n cA i l h cB P pB 16 (x.tmps.getD 39 undef) w)
    : Stp Fc nC Try.prog dk7_ops Q 18 41 (dkA_val gR oR m cR gB oB n cA i l h cB P pB 18) x w := by
  obtain ⟨hF, hk, x0, x1, y0, y1, cs, hB, hdef, u1, u5, u6⟩ := H
  have ho : dk7_ops[18]? = some dk7_o18 := rfl
  simp only [Array.getD_eq_getD_getElem?] at u1 u5 u6
  have q16 : x.tmps.getD 39 undef = .bool false := p16
  simp only [Array.getD_eq_getD_getElem?] at q16
  have e16 : (dk7_ops[16]?.bind fun x => x.dst) = some 39 := rfl
  have g16 := get_someT q16 (fun h => by cases h)
  refine wpOpIn_stepT hF ho (fun K hK => ?_)
  clear ho
  rw [Oper.semAt_plain Fc _ _ (by intro c h; cases h)]
  simp only [dk7_o18]
  go_simp
  exact hK _ _ ⟨_, act_putD x hdef _ _, rfl, Below.refl _ _⟩
theorem dkA_s19 (H : dkA_H Fc gR oR m cR gB oB n cA i l h cB P pB df w0 x w)
    (p18 : dkA_val gR oR m cR gB oB n cA i l h cB P pB 18 (x.tmps.getD 41 undef) w)
    (p16 : dkA_val gR oR m cR gB oB n cA i l h cB P pB 16 (x.tmps.getD 39 undef) w)
    : Stp Fc nC Try.prog dk7_ops Q 19 42 (dkA_val gR oR m cR gB oB n cA i l h cB P pB 19) x w := by
  obtain ⟨hF, hk, x0, x1, y0, y1, cs, hB, hdef, u1, u5, u6⟩ := H
  have ho : dk7_ops[19]? = some dk7_o19 := rfl
  simp only [Array.getD_eq_getD_getElem?] at u1 u5 u6
  have q18 : x.tmps.getD 41 undef = .slice (some ⟨gB, oB, none⟩) n cA := p18
  have q16 : x.tmps.getD 39 undef = .bool false := p16
  simp only [Array.getD_eq_getD_getElem?] at q18 q16
  have e16 : (dk7_ops[16]?.bind fun x => x.dst) = some 39 := rfl
  have g16 := get_someT q16 (fun h => by cases h)
  refine wpOpIn_stepT hF ho (fun K hK => ?_)
  clear ho
  rw [Oper.semAt_plain Fc _ _ (by intro c h; cases h)]
  simp only [dk7_o19]
  go_simp
  exact hK _ _ ⟨_, act_putD x hdef _ _, rfl, Below.refl _ _⟩
theorem dkA_s20 (H : dkA_H Fc gR oR m cR gB oB n cA i l h cB P pB df w0 x w)
    (p17 : dkA_val gR oR m cR gB oB n cA i l h cB P pB 17 (x.tmps.getD 40 undef) w)
    (p19 : dkA_val gR oR m cR gB oB n cA i l h cB P pB 19 (x.tmps.getD 42 undef) w)
    (p16 : dkA_val gR oR m cR gB oB n cA i l h cB P pB 16 (x.tmps.getD 39 undef) w)
    : Stp Fc nC Try.prog dk7_ops Q 20 43 (dkA_val gR oR m cR gB oB n cA i l h cB P pB 20) x w := by
  obtain ⟨hF, hk, x0, x1, y0, y1, cs, hB, hdef, u1, u5, u6⟩ := H
  have ho : dk7_ops[20]? = some dk7_o20 := rfl
  simp only [Array.getD_eq_getD_getElem?] at u1 u5 u6
  have q17 : x.tmps.getD 40 undef = .int .i64 (i : Nat) := p17
  have q19 : x.tmps.getD 42 undef = .int .i64 (n : Nat) := p19
  have q16 : x.tmps.getD 39 undef = .bool false := p16
  simp only [Array.getD_eq_getD_getElem?] at q17 q19 q16
  have e16 : (dk7_ops[16]?.bind fun x => x.dst) = some 39 := rfl
  have g16 := get_someT q16 (fun h => by cases h)
  have r1 : ¬ ((n : Int) ≤ (i : Int)) := by have := hk.out; omega
  refine wpOpIn_stepT hF ho (fun K hK => ?_)
  clear ho
  rw [Oper.semAt_plain Fc _ _ (by intro c h; cases h)]
  simp only [dk7_o20]
  go_simp
  exact hK _ _ ⟨_, act_putD x hdef _ _, rfl, Below.refl _ _⟩
theorem dkA_s21 (H : dkA_H Fc gR oR m cR gB oB n cA i l h cB P pB df w0 x w)
    (p20 : dkA_val gR oR m cR gB oB n cA i l h cB P pB 20 (x.tmps.getD 43 undef) w)
    (p16 : dkA_val gR oR m cR gB oB n cA i l h cB P pB 16 (x.tmps.getD 39 undef) w)
    : Stp Fc nC Try.prog dk7_ops Q 21 44 (dkA_val gR oR m cR gB oB n cA i l h cB P pB 21) x w := by
  obtain ⟨hF, hk, x0, x1, y0, y1, cs, hB, hdef, u1, u5, u6⟩ := H
  have ho : dk7_ops[21]? = some dk7_o21 := rfl
  simp only [Array.getD_eq_getD_getElem?] at u1 u5 u6
  have q20 : x.tmps.getD 43 undef = .bool false := p20
  have q16 : x.tmps.getD 39 undef = .bool false := p16
  simp only [Array.getD_eq_getD_getElem?] at q20 q16
  have e16 : (dk7_ops[16]?.bind fun x => x.dst) = some 39 := rfl
  have g16 := get_someT q16 (fun h => by cases h)
  refine wpOpIn_stepT hF ho (fun K hK => ?_)
  clear ho
  rw [Oper.semAt_plain Fc _ _ (by intro c h; cases h)]
  simp only [dk7_o21]
  go_simp
  exact hK _ _ ⟨_, act_putD x hdef _ _, rfl, Below.refl _ _⟩
theorem dkA_s22 (H : dkA_H Fc gR oR m cR gB oB n cA i l h cB P pB df w0 x w)
    (p21 : dkA_val gR oR m cR gB oB n cA i l h cB P pB 21 (x.tmps.getD 44 undef) w)
    : Stp Fc nC Try.prog dk7_ops Q 22 45 (dkA_val gR oR m cR gB oB n cA i l h cB P pB 22) x w := by
  obtain ⟨hF, hk, x0, x1, y0, y1, cs, hB, hdef, u1, u5, u6⟩ := H
  have ho : dk7_ops[22]? = some dk7_o22 := rfl
  simp only [Array.getD_eq_getD_getElem?] at u1 u5 u6
  have q21 : x.tmps.getD 44 undef = .bool false := p21
  simp only [Array.getD_eq_getD_getElem?] at q21
  have e21 : (dk7_ops[21]?.bind fun x => x.dst) = some 44 := rfl
  have g21 := get_someT q21 (fun h => by cases h)
  refine wpOpIn_stepT hF ho (fun K hK => ?_)
  clear ho
  rw [Oper.semAt_plain Fc _ _ (by intro c h; cases h)]
  simp only [dk7_o22]
  go_simp
  exact hK _ _ ⟨_, act_putD x hdef _ _, rfl, Below.refl _ _⟩
theorem dkA_s23 (H : dkA_H Fc gR oR m cR gB oB n cA i l h cB P pB df w0 x w)
    (p21 : dkA_val gR oR m cR gB oB n cA i l h cB P pB 21 (x.tmps.getD 44 undef) w)
    : Stp Fc nC Try.prog dk7_ops Q 23 46 (dkA_val gR oR m cR gB oB n cA i l h cB P pB 23) x w := by
  obtain ⟨hF, hk, x0, x1, y0, y1, cs, hB, hdef, u1, u5, u6⟩ := H
  have ho : dk7_ops[23]? = some dk7_o23 := rfl
  simp only [Array.getD_eq_getD_getElem?] at u1 u5 u6
  have q21 : x.tmps.getD 44 undef = .bool false := p21
  simp only [Array.getD_eq_getD_getElem?] at q21
  have e21 : (dk7_ops[21]?.bind fun x => x.dst) = some 44 := rfl
  have g21 := get_someT q21 (fun h => by cases h)
  refine wpOpIn_stepT hF ho (fun K hK => ?_)
  clear ho
  rw [Oper.semAt_plain Fc _ _ (by intro c h; cases h)]
  simp only [dk7_o23]
  go_simp
  exact hK _ _ ⟨_, act_putD x hdef _ _, rfl, Below.refl _ _⟩
theorem dkA_s24 (H : dkA_H Fc gR oR m cR gB oB n cA i l h cB P pB df w0 x w)
    (p22 : dkA_val gR oR m cR gB oB n cA i l h cB P pB 22 (x.tmps.getD 45 undef) w)
    (p23 : dkA_val gR oR m cR gB oB n cA i l h cB P pB 23 (x.tmps.getD 46 undef) w)
    (p21 : dkA_val gR oR m cR gB oB n cA i l h cB P pB 21 (x.tmps.getD 44 undef) w)
    : Stp Fc nC Try.prog dk7_ops Q 24 47 (dkA_val gR oR m cR gB oB n cA i l h cB P pB 24) x w := by
  obtain ⟨hF, hk, x0, x1, y0, y1, cs, hB, hdef, u1, u5, u6⟩ := H
  have ho : dk7_ops[24]? = some dk7_o24 := rfl
  simp only [Array.getD_eq_getD_getElem?] at u1 u5 u6
  have q22 : x.tmps.getD 45 undef = undef := p22
  have q23 : x.tmps.getD 46 undef = undef := p23
  have q21 : x.tmps.getD 44 undef = .bool false := p21
  simp only [Array.getD_eq_getD_getElem?] at q22 q23 q21
  have e21 : (dk7_ops[21]?.bind fun x => x.dst) = some 44 := rfl
  have g21 := get_someT q21 (fun h => by cases h)
  refine wpOpIn_stepT hF ho (fun K hK => ?_)
  clear ho
  rw [Oper.semAt_plain Fc _ _ (by intro c h; cases h)]
  simp only [dk7_o24]
  go_simp
  exact hK _ _ ⟨_, act_putD x hdef _ _, rfl, Below.refl _ _⟩
theorem dkA_s25 (H : dkA_H Fc gR oR m cR gB oB n cA i l h cB P pB df w0 x w)
    (p24 : dkA_val gR oR m cR gB oB n cA i l h cB P pB 24 (x.tmps.getD 47 undef) w)
    (p21 : dkA_val gR oR m cR gB oB n cA i l h cB P pB 21 (x.tmps.getD 44 undef) w)
    : Stp Fc nC Try.prog dk7_ops Q 25 48 (dkA_val gR oR m cR gB oB n cA i l h cB P pB 25) x w := by
  obtain ⟨hF, hk, x0, x1, y0, y1, cs, hB, hdef, u1, u5, u6⟩ := H
  have ho : dk7_ops[25]? = some dk7_o25 := rfl
  simp only [Array.getD_eq_getD_getElem?] at u1 u5 u6
  have q24 : x.tmps.getD 47 undef = undef := p24
  have q21 : x.tmps.getD 44 undef = .bool false := p21
  simp only [Array.getD_eq_getD_getElem?] at q24 q21
  have e21 : (dk7_ops[21]?.bind fun x => x.dst) = some 44 := rfl
  have g21 := get_someT q21 (fun h => by cases h)
  refine wpOpIn_stepT hF ho (fun K hK => ?_)
  clear ho
  rw [Oper.semAt_plain Fc _ _ (by intro c h; cases h)]
  simp only [dk7_o25]
  go_simp
  exact hK _ _ ⟨_, act_putD x hdef _ _, rfl, Below.refl _ _⟩
theorem dkA_s26 (H : dkA_H Fc gR oR m cR gB oB n cA i l h cB P pB df w0 x w)
    (p21 : dkA_val gR oR m cR gB oB n cA i l h cB P pB 21 (x.tmps.getD 44 undef) w)
    : Stp Fc nC Try.prog dk7_ops Q 26 49 (dkA_val gR oR m cR gB oB n cA i l h cB P pB 26) x w := by
  obtain ⟨hF, hk, x0, x1, y0, y1, cs, hB, hdef, u1, u5, u6⟩ := H
  have ho : dk7_ops[26]? = some dk7_o26 := rfl
  simp only [Array.getD_eq_getD_getElem?] at u1 u5 u6
  have q21 : x.tmps.getD 44 undef = .bool false := p21
  simp only [Array.getD_eq_getD_getElem?] at q21
  have e21 : (dk7_ops[21]?.bind fun x => x.dst) = some 44 := rfl
  have g21 := get_someT q21 (fun h => by cases h)
  refine wpOpIn_stepT hF ho (fun K hK => ?_)
  clear ho
  rw [Oper.semAt_plain Fc _ _ (by intro c h; cases h)]
  simp only [dk7_o26]
  go_simp
  exact hK _ _ ⟨_, act_putD x hdef _ _, rfl, Below.refl _ _⟩
theorem dkA_s27 (H : dkA_H Fc gR oR m cR gB oB n cA i l h cB P pB df w0 x w)
    (p21 : dkA_val gR oR m cR gB oB n cA i l h cB P pB 21 (x.tmps.getD 44 undef) w)
    : Stp Fc nC Try.prog dk7_ops Q 27 50 (dkA_val gR oR m cR gB oB n cA i l h cB P pB 27) x w := by
  obtain ⟨hF, hk, x0, x1, y0, y1, cs, hB, hdef, u1, u5, u6⟩ := H
  have ho : dk7_ops[27]? = some dk7_o27 := rfl
  simp only [Array.getD_eq_getD_getElem?] at u1 u5 u6
  have q21 : x.tmps.getD 44 undef = .bool false := p21
  simp only [Array.getD_eq_getD_getElem?] at q21
  have e21 : (dk7_ops[21]?.bind fun x => x.dst) = some 44 := rfl
  have g21 := get_someT q21 (fun h => by cases h)
  refine wpOpIn_stepT hF ho (fun K hK => ?_)
  clear ho
  rw [Oper.semAt_plain Fc _ _ (by intro c h; cases h)]
  simp only [dk7_o27]
  go_simp
  exact hK _ _ ⟨_, act_putD x hdef _ _, rfl, Below.refl _ _⟩
theorem dkA_s28 (H : dkA_H Fc gR oR m cR gB oB n cA i l h cB P pB df w0 x w)
    (p27 : dkA_val gR oR m cR gB oB n cA i l h cB P pB 27 (x.tmps.getD 50 undef) w)
    (p21 : dkA_val gR oR m cR gB oB n cA i l h cB P pB 21 (x.tmps.getD 44 undef) w)
    : Stp Fc nC Try.prog dk7_ops Q 28 51 (dkA_val gR oR m cR gB oB n cA i l h cB P pB 28) x w := by
  obtain ⟨hF, hk, x0, x1, y0, y1, cs, hB, hdef, u1, u5, u6⟩ := H
  have ho : dk7_ops[28]? = some dk7_o28 := rfl
  simp only [Array.getD_eq_getD_getElem?] at u1 u5 u6
  have q27 : x.tmps.getD 50 undef = undef := p27
  have q21 : x.tmps.getD 44 undef = .bool false := p21
  simp only [Array.getD_eq_getD_getElem?] at q27 q21
  have e21 : (dk7_ops[21]?.bind fun x => x.dst) = some 44 := rfl
  have g21 := get_someT q21 (fun h => by cases h)
  refine wpOpIn_stepT hF ho (fun K hK => ?_)
  clear ho
  rw [Oper.semAt_plain Fc _ _ (by intro c h; cases h)]
  simp only [dk7_o28]
  go_simp
  exact hK _ _ ⟨_, act_putD x hdef _ _, rfl, Below.refl _ _⟩
theorem dkA_s29 (H : dkA_H Fc gR oR m cR gB oB n cA i l h cB P pB df w0 x w)
    (p26 : dkA_val gR oR m cR gB oB n cA i l h cB P pB 26 (x.tmps.getD 49 undef) w)
    (p28 : dkA_val gR oR m cR gB oB n cA i l h cB P pB 28 (x.tmps.getD 51 undef) w)
    (p21 : dkA_val gR oR m cR gB oB n cA i l h cB P pB 21 (x.tmps.getD 44 undef) w)
    : Stp Fc nC Try.prog dk7_ops Q 29 52 (dkA_val gR oR m cR gB oB n cA i l h cB P pB 29) x w := by
  obtain ⟨hF, hk, x0, x1, y0, y1, cs, hB, hdef, u1, u5, u6⟩ := H
  have ho : dk7_ops[29]? = some dk7_o29 := rfl
  simp only [Array.getD_eq_getD_getElem?] at u1 u5 u6
  have q26 : x.tmps.getD 49 undef = undef := p26
  have q28 : x.tmps.getD 51 undef = undef := p28
  have q21 : x.tmps.getD 44 undef = .bool false := p21
  simp only [Array.getD_eq_getD_getElem?] at q26 q28 q21
  have e21 : (dk7_ops[21]?.bind fun x => x.dst) = some 44 := rfl
  have g21 := get_someT q21 (fun h => by cases h)
  refine wpOpIn_stepT hF ho (fun K hK => ?_)
  clear ho
  rw [Oper.semAt_plain Fc _ _ (by intro c h; cases h)]
  simp only [dk7_o29]
  go_simp
  exact hK _ _ ⟨_, act_putD x hdef _ _, rfl, Below.refl _ _⟩
theorem dkA_s30 (H : dkA_H Fc gR oR m cR gB oB n cA i l h cB P pB df w0 x w)
    (p29 : dkA_val gR oR m cR gB oB n cA i l h cB P pB 29 (x.tmps.getD 52 undef) w)
    (p21 : dkA_val gR oR m cR gB oB n cA i l h cB P pB 21 (x.tmps.getD 44 undef) w)
    : Stp Fc nC Try.prog dk7_ops Q 30 53 (dkA_val gR oR m cR gB oB n cA i l h cB P pB 30) x w := by
  obtain ⟨hF, hk, x0, x1, y0, y1, cs, hB, hdef, u1, u5, u6⟩ := H
  have ho : dk7_ops[30]? = some dk7_o30 := rfl
  simp only [Array.getD_eq_getD_getElem?] at u1 u5 u6
  have q29 : x.tmps.getD 52 undef = undef := p29
  have q21 : x.tmps.getD 44 undef = .bool false := p21
  simp only [Array.getD_eq_getD_getElem?] at q29 q21
  have e21 : (dk7_ops[21]?.bind fun x => x.dst) = some 44 := rfl
  have g21 := get_someT q21 (fun h => by cases h)
  refine wpOpIn_stepT hF ho (fun K hK => ?_)
  clear ho
  rw [Oper.semAt_plain Fc _ _ (by intro c h; cases h)]
  simp only [dk7_o30]
  go_simp
  exact hK _ _ ⟨_, act_putD x hdef _ _, rfl, Below.refl _ _⟩
theorem dkA_s31 (H : dkA_H Fc gR oR m cR gB oB n cA i l h cB P pB df w0 x w)
    (p25 : dkA_val gR oR m cR gB oB n cA i l h cB P pB 25 (x.tmps.getD 48 undef) w)
    (p30 : dkA_val gR oR m cR gB oB n cA i l h cB P pB 30 (x.tmps.getD 53 undef) w)
    (p21 : dkA_val gR oR m cR gB oB n cA i l h cB P pB 21 (x.tmps.getD 44 undef) w)
    : Stp Fc nC Try.prog dk7_ops Q 31 54 (dkA_val gR oR m cR gB oB n cA i l h cB P pB 31) x w := by
  obtain ⟨hF, hk, x0, x1, y0, y1, cs, hB, hdef, u1, u5, u6⟩ := H
  have ho : dk7_ops[31]? = some dk7_o31 := rfl
  simp only [Array.getD_eq_getD_getElem?] at u1 u5 u6
  have q25 : x.tmps.getD 48 undef = undef := p25
  have q30 : x.tmps.getD 53 undef = undef := p30
  have q21 : x.tmps.getD 44 undef = .bool false := p21
  simp only [Array.getD_eq_getD_getElem?] at q25 q30 q21
  have e21 : (dk7_ops[21]?.bind fun x => x.dst) = some 44 := rfl
  have g21 := get_someT q21 (fun h => by cases h)
  refine wpOpIn_stepT hF ho (fun K hK => ?_)
  clear ho
  rw [Oper.semAt_plain Fc _ _ (by intro c h; cases h)]
  simp only [dk7_o31]
  go_simp
  exact hK _ _ ⟨_, act_putD x hdef _ _, rfl, Below.refl _ _⟩
theorem dkA_s32 (H : dkA_H Fc gR oR m cR gB oB n cA i l h cB P pB df w0 x w)
    (p31 : dkA_val gR oR m cR gB oB n cA i l h cB P pB 31 (x.tmps.getD 54 undef) w)
    (p21 : dkA_val gR oR m cR gB oB n cA i l h cB P pB 21 (x.tmps.getD 44 undef) w)
    : Stp Fc nC Try.prog dk7_ops Q 32 55 (dkA_val gR oR m cR gB oB n cA i l h cB P pB 32) x w := by
  obtain ⟨hF, hk, x0, x1, y0, y1, cs, hB, hdef, u1, u5, u6⟩ := H
  have ho : dk7_ops[32]? = some dk7_o32 := rfl
  simp only [Array.getD_eq_getD_getElem?] at u1 u5 u6
  have q31 : x.tmps.getD 54 undef = undef := p31
  have q21 : x.tmps.getD 44 undef = .bool false := p21
  simp only [Array.getD_eq_getD_getElem?] at q31 q21
  have e21 : (dk7_ops[21]?.bind fun x => x.dst) = some 44 := rfl
  have g21 := get_someT q21 (fun h => by cases h)
  refine wpOpIn_stepT hF ho (fun K hK => ?_)
  clear ho
  rw [Oper.semAt_plain Fc _ _ (by intro c h; cases h)]
  simp only [dk7_o32]
  go_simp
  exact hK _ _ ⟨_, act_putD x hdef _ _, rfl, Below.refl _ _⟩
theorem dkA_s33 (H : dkA_H Fc gR oR m cR gB oB n cA i l h cB P pB df w0 x w)
    (p21 : dkA_val gR oR m cR gB oB n cA i l h cB P pB 21 (x.tmps.getD 44 undef) w)
    (p32 : dkA_val gR oR m cR gB oB n cA i l h cB P pB 32 (x.tmps.getD 55 undef) w)
    (p16 : dkA_val gR oR m cR gB oB n cA i l h cB P pB 16 (x.tmps.getD 39 undef) w)
    : Stp Fc nC Try.prog dk7_ops Q 33 56 (dkA_val gR oR m cR gB oB n cA i l h cB P pB 33) x w := by
  obtain ⟨hF, hk, x0, x1, y0, y1, cs, hB, hdef, u1, u5, u6⟩ := H
  have ho : dk7_ops[33]? = some dk7_o33 := rfl
  simp only [Array.getD_eq_getD_getElem?] at u1 u5 u6
  have q21 : x.tmps.getD 44 undef = .bool false := p21
  have q32 : x.tmps.getD 55 undef = undef := p32
  have q16 : x.tmps.getD 39 undef = .bool false := p16
  simp only [Array.getD_eq_getD_getElem?] at q21 q32 q16
  have e16 : (dk7_ops[16]?.bind fun x => x.dst) = some 39 := rfl
  have g16 := get_someT q16 (fun h => by cases h)
  refine wpOpIn_stepT hF ho (fun K hK => ?_)
  clear ho
  rw [Oper.semAt_plain Fc _ _ (by intro c h; cases h)]
  simp only [dk7_o33]
  go_simp
  exact hK _ _ ⟨_, act_putD x hdef _ _, rfl, Below.refl _ _⟩
theorem dkA_s34 (H : dkA_H Fc gR oR m cR gB oB n cA i l h cB P pB df w0 x w)
    (p16 : dkA_val gR oR m cR gB oB n cA i l h cB P pB 16 (x.tmps.getD 39 undef) w)
    (p33 : dkA_val gR oR m cR gB oB n cA i l h cB P pB 33 (x.tmps.getD 56 undef) w)
    : Stp Fc nC Try.prog dk7_ops Q 34 57 (dkA_val gR oR m cR gB oB n cA i l h cB P pB 34) x w := by
  obtain ⟨hF, hk, x0, x1, y0, y1, cs, hB, hdef, u1, u5, u6⟩ := H
  have ho : dk7_ops[34]? = some dk7_o34 := rfl
  simp only [Array.getD_eq_getD_getElem?] at u1 u5 u6
  have q16 : x.tmps.getD 39 undef = .bool false := p16
  have q33 : x.tmps.getD 56 undef = .bool false := p33
  simp only [Array.getD_eq_getD_getElem?] at q16 q33
  refine wpOpIn_plain ho rfl (oper_inK hF.fn (fun K hK => ?_))
  clear ho
  rw [Oper.semAt_plain Fc _ _ (by intro c h; cases h)]
  simp only [dk7_o34]
  go_simp
  exact hK _ _ ⟨_, act_putD x hdef _ _, rfl, Below.refl _ _⟩
end

set_option maxRecDepth 100000 in
set_option maxHeartbeats 4000000 in
theorem dkA {Fc : Fence} (hF : Wide Fc) {nC : Nat} (gR oR m cR gB oB n cA i l h cB : Nat) (P : List UInt8) (pB : Option Addr) (Q : Exit → Act → World → Prop) (t0 : Array Value) (df : List Deferred) (w0 : World) (ht : t0.size = 58)
    (hs1 : t0.getD 1 undef = .slice (some ⟨gB, oB, none⟩) n cA) (hs5 : t0.getD 5 undef = .slice (some ⟨gR, oR, none⟩) m cR) (hs6 : t0.getD 6 undef = .int .i64 (i : Nat))
    (hk : Hid (i < n ∧ i < m ∧ m ≤ 20000)) (x0 : w0.cell? ⟨gR, oR + i * 2, none⟩ = some (by8 P)) (x1 : w0.cell? ⟨gR, oR + i * 2 + 1, none⟩ = some (.slice (some ⟨h, 0, none⟩) l (l + 12))) (y0 : w0.cell? ⟨gB, oB + i * 2, none⟩ = some (by8 P)) (y1 : w0.cell? ⟨gB, oB + i * 2 + 1, none⟩ = some (.slice pB l cB)) (cs : ∀ W : World, Below w0.heap.size w0 W → Calls Try.prog 34 #[.agg #[by8 P, .slice (some ⟨h, 0, none⟩) l (l + 12)], .agg #[by8 P, .slice pB l cB]] W fun e w' => e = .returned (.bool true) ∧ Below W.heap.size W w')
    (hQ : ∀ (vs : Nat → Value) (w : World), Below w0.heap.size w0 w → (vs 57 = .bool false) → Q .normal { tmps := [23, 24, 25, 26, 27, 28, 29, 30, 31, 32, 33, 34, 35, 36, 37, 38, 39, 40, 41, 42, 43, 44, 45, 46, 47, 48, 49, 50, 51, 52, 53, 54, 55, 56, 57].foldl (fun y d => y.setIfInBounds d (vs d)) t0, defers := df } w) :
    (Code.region 7 dk7_ops true).wpIn Fc nC Try.prog Q { tmps := t0, defers := df } w0 := by
  refine wpIn_region_tail 35 (by decide) (by kernel_rfl) (fun a b => Below a.heap.size a b) (dkA_val gR oR m cR gB oB n cA i l h cB P pB) t0 df w0 (by rw [ht]; kernel_rfl) (by kernel_rfl) (by kernel_rfl) (by kernel_rfl) ((Below.refl _ _).drew) (fun _ _ _ h k => h.trans (k.mono h.size)) (dkA_below gR oR m cR gB oB n cA i l h cB P pB) ?_ ?_
  · intro j o ho hj x w hB hdef hsz hs hdeps
    have hs' : ∀ s, ¬ dk7_mem s → x.tmps.getD s undef = t0.getD s undef := fun s hn => hs s (fun j hj e => hn (by rw [e]; exact dk7_slots j hj))
    have u1 := (hs' 1 (by decide)).trans hs1
    have u5 := (hs' 5 (by decide)).trans hs5
    have u6 := (hs' 6 (by decide)).trans hs6
    have H : dkA_H Fc gR oR m cR gB oB n cA i l h cB P pB df w0 x w := ⟨hF, hk, x0, x1, y0, y1, cs, hB, hdef, u1, u5, u6⟩
    match j, ho, hj with
    | 0, ho, _ =>
      have e : o = dk7_o0 := (Option.some.inj ho).symm
      subst e
      exact dkA_s0 gR oR m cR gB oB n cA i l h cB P pB Q df w0 x w H 
    | 1, ho, _ =>
      have e : o = dk7_o1 := (Option.some.inj ho).symm
      subst e
      exact dkA_s1 gR oR m cR gB oB n cA i l h cB P pB Q df w0 x w H 
    | 2, ho, _ =>
      have e : o = dk7_o2 := (Option.some.inj ho).symm
      subst e
      exact dkA_s2 gR oR m cR gB oB n cA i l h cB P pB Q df w0 x w H (hdeps { on := 1, ground := Ground.data } (by simp) rfl)
    | 3, ho, _ =>
      have e : o = dk7_o3 := (Option.some.inj ho).symm
      subst e
      exact dkA_s3 gR oR m cR gB oB n cA i l h cB P pB Q df w0 x w H (hdeps { on := 0, ground := Ground.data } (by simp) rfl) (hdeps { on := 2, ground := Ground.data } (by simp) rfl)
    | 4, ho, _ =>
      have e : o = dk7_o4 := (Option.some.inj ho).symm
      subst e
      exact dkA_s4 gR oR m cR gB oB n cA i l h cB P pB Q df w0 x w H (hdeps { on := 3, ground := Ground.data } (by simp) rfl)
    | 5, ho, _ =>
      have e : o = dk7_o5 := (Option.some.inj ho).symm
      subst e
      exact dkA_s5 gR oR m cR gB oB n cA i l h cB P pB Q df w0 x w H (hdeps { on := 4, ground := Ground.guard } (by simp) rfl)
    | 6, ho, _ =>
      have e : o = dk7_o6 := (Option.some.inj ho).symm
      subst e
      exact dkA_s6 gR oR m cR gB oB n cA i l h cB P pB Q df w0 x w H (hdeps { on := 4, ground := Ground.guard } (by simp) rfl)
    | 7, ho, _ =>
      have e : o = dk7_o7 := (Option.some.inj ho).symm
      subst e
      exact dkA_s7 gR oR m cR gB oB n cA i l h cB P pB Q df w0 x w H (hdeps { on := 5, ground := Ground.data } (by simp) rfl) (hdeps { on := 6, ground := Ground.data } (by simp) rfl) (hdeps { on := 4, ground := Ground.guard } (by simp) rfl)
    | 8, ho, _ =>
      have e : o = dk7_o8 := (Option.some.inj ho).symm
      subst e
      exact dkA_s8 gR oR m cR gB oB n cA i l h cB P pB Q df w0 x w H (hdeps { on := 7, ground := Ground.data } (by simp) rfl) (hdeps { on := 4, ground := Ground.guard } (by simp) rfl)
    | 9, ho, _ =>
      have e : o = dk7_o9 := (Option.some.inj ho).symm
      subst e
      exact dkA_s9 gR oR m cR gB oB n cA i l h cB P pB Q df w0 x w H (hdeps { on := 4, ground := Ground.guard } (by simp) rfl)
    | 10, ho, _ =>
      have e : o = dk7_o10 := (Option.some.inj ho).symm
      subst e
      exact dkA_s10 gR oR m cR gB oB n cA i l h cB P pB Q df w0 x w H (hdeps { on := 4, ground := Ground.guard } (by simp) rfl)
    | 11, ho, _ =>
      have e : o = dk7_o11 := (Option.some.inj ho).symm
      subst e
      exact dkA_s11 gR oR m cR gB oB n cA i l h cB P pB Q df w0 x w H (hdeps { on := 9, ground := Ground.data } (by simp) rfl) (hdeps { on := 10, ground := Ground.data } (by simp) rfl) (hdeps { on := 4, ground := Ground.guard } (by simp) rfl)
    | 12, ho, _ =>
      have e : o = dk7_o12 := (Option.some.inj ho).symm
      subst e
      exact dkA_s12 gR oR m cR gB oB n cA i l h cB P pB Q df w0 x w H (hdeps { on := 11, ground := Ground.data } (by simp) rfl) (hdeps { on := 4, ground := Ground.guard } (by simp) rfl)
    | 13, ho, _ =>
      have e : o = dk7_o13 := (Option.some.inj ho).symm
      subst e
      exact dkA_s13 gR oR m cR gB oB n cA i l h cB P pB Q df w0 x w H (hdeps { on := 8, ground := Ground.data } (by simp) rfl) (hdeps { on := 12, ground := Ground.data } (by simp) rfl) (hdeps { on := 4, ground := Ground.guard } (by simp) rfl)
    | 14, ho, _ =>
      have e : o = dk7_o14 := (Option.some.inj ho).symm
      subst e
      exact dkA_s14 gR oR m cR gB oB n cA i l h cB P pB Q df w0 x w H (hdeps { on := 13, ground := Ground.data } (by simp) rfl) (hdeps { on := 4, ground := Ground.guard } (by simp) rfl)
    | 15, ho, _ =>
      have e : o = dk7_o15 := (Option.some.inj ho).symm
      subst e
      exact dkA_s15 gR oR m cR gB oB n cA i l h cB P pB Q df w0 x w H (hdeps { on := 4, ground := Ground.data } (by simp) rfl) (hdeps { on := 14, ground := Ground.data } (by simp) rfl)
    | 16, ho, _ =>
      have e : o = dk7_o16 := (Option.some.inj ho).symm
      subst e
      exact dkA_s16 gR oR m cR gB oB n cA i l h cB P pB Q df w0 x w H (hdeps { on := 15, ground := Ground.data } (by simp) rfl)
    | 17, ho, _ =>
      have e : o = dk7_o17 := (Option.some.inj ho).symm
      subst e
      exact dkA_s17 gR oR m cR gB oB n cA i l h cB P pB Q df w0 x w H (hdeps { on := 16, ground := Ground.guard } (by simp) rfl)
    | 18, ho, _ =>
      have e : o = dk7_o18 := (Option.some.inj ho).symm
      subst e
      exact dkA_s18 gR oR m cR gB oB n cA i l h cB P pB Q df w0 x w H (hdeps { on := 16, ground := Ground.guard } (by simp) rfl)
    | 19, ho, _ =>
      have e : o = dk7_o19 := (Option.some.inj ho).symm
      subst e
      exact dkA_s19 gR oR m cR gB oB n cA i l h cB P pB Q df w0 x w H (hdeps { on := 18, ground := Ground.data } (by simp) rfl) (hdeps { on := 16, ground := Ground.guard } (by simp) rfl)
    | 20, ho, _ =>
      have e : o = dk7_o20 := (Option.some.inj ho).symm
      subst e
      exact dkA_s20 gR oR m cR gB oB n cA i l h cB P pB Q df w0 x w H (hdeps { on := 17, ground := Ground.data } (by simp) rfl) (hdeps { on := 19, ground := Ground.data } (by simp) rfl) (hdeps { on := 16, ground := Ground.guard } (by simp) rfl)
    | 21, ho, _ =>
      have e : o = dk7_o21 := (Option.some.inj ho).symm
      subst e
      exact dkA_s21 gR oR m cR gB oB n cA i l h cB P pB Q df w0 x w H (hdeps { on := 20, ground := Ground.data } (by simp) rfl) (hdeps { on := 16, ground := Ground.guard } (by simp) rfl)
    | 22, ho, _ =>
      have e : o = dk7_o22 := (Option.some.inj ho).symm
      subst e
      exact dkA_s22 gR oR m cR gB oB n cA i l h cB P pB Q df w0 x w H (hdeps { on := 21, ground := Ground.guard } (by simp) rfl)
    | 23, ho, _ =>
      have e : o = dk7_o23 := (Option.some.inj ho).symm
      subst e
      exact dkA_s23 gR oR m cR gB oB n cA i l h cB P pB Q df w0 x w H (hdeps { on := 21, ground := Ground.guard } (by simp) rfl)
    | 24, ho, _ =>
      have e : o = dk7_o24 := (Option.some.inj ho).symm
      subst e
      exact dkA_s24 gR oR m cR gB oB n cA i l h cB P pB Q df w0 x w H (hdeps { on := 22, ground := Ground.data } (by simp) rfl) (hdeps { on := 23, ground := Ground.data } (by simp) rfl) (hdeps { on := 21, ground := Ground.guard } (by simp) rfl)
    | 25, ho, _ =>
      have e : o = dk7_o25 := (Option.some.inj ho).symm
      subst e
      exact dkA_s25 gR oR m cR gB oB n cA i l h cB P pB Q df w0 x w H (hdeps { on := 24, ground := Ground.data } (by simp) rfl) (hdeps { on := 21, ground := Ground.guard } (by simp) rfl)
    | 26, ho, _ =>
      have e : o = dk7_o26 := (Option.some.inj ho).symm
      subst e
      exact dkA_s26 gR oR m cR gB oB n cA i l h cB P pB Q df w0 x w H (hdeps { on := 21, ground := Ground.guard } (by simp) rfl)
    | 27, ho, _ =>
      have e : o = dk7_o27 := (Option.some.inj ho).symm
      subst e
      exact dkA_s27 gR oR m cR gB oB n cA i l h cB P pB Q df w0 x w H (hdeps { on := 21, ground := Ground.guard } (by simp) rfl)
    | 28, ho, _ =>
      have e : o = dk7_o28 := (Option.some.inj ho).symm
      subst e
      exact dkA_s28 gR oR m cR gB oB n cA i l h cB P pB Q df w0 x w H (hdeps { on := 27, ground := Ground.data } (by simp) rfl) (hdeps { on := 21, ground := Ground.guard } (by simp) rfl)
    | 29, ho, _ =>
      have e : o = dk7_o29 := (Option.some.inj ho).symm
      subst e
      exact dkA_s29 gR oR m cR gB oB n cA i l h cB P pB Q df w0 x w H (hdeps { on := 26, ground := Ground.data } (by simp) rfl) (hdeps { on := 28, ground := Ground.data } (by simp) rfl) (hdeps { on := 21, ground := Ground.guard } (by simp) rfl)
    | 30, ho, _ =>
      have e : o = dk7_o30 := (Option.some.inj ho).symm
      subst e
      exact dkA_s30 gR oR m cR gB oB n cA i l h cB P pB Q df w0 x w H (hdeps { on := 29, ground := Ground.data } (by simp) rfl) (hdeps { on := 21, ground := Ground.guard } (by simp) rfl)
    | 31, ho, _ =>
      have e : o = dk7_o31 := (Option.some.inj ho).symm
      subst e
      exact dkA_s31 gR oR m cR gB oB n cA i l h cB P pB Q df w0 x w H (hdeps { on := 25, ground := Ground.data } (by simp) rfl) (hdeps { on := 30, ground := Ground.data } (by simp) rfl) (hdeps { on := 21, ground := Ground.guard } (by simp) rfl)
    | 32, ho, _ =>
      have e : o = dk7_o32 := (Option.some.inj ho).symm
      subst e
      exact dkA_s32 gR oR m cR gB oB n cA i l h cB P pB Q df w0 x w H (hdeps { on := 31, ground := Ground.data } (by simp) rfl) (hdeps { on := 21, ground := Ground.guard } (by simp) rfl)
    | 33, ho, _ =>
      have e : o = dk7_o33 := (Option.some.inj ho).symm
      subst e
      exact dkA_s33 gR oR m cR gB oB n cA i l h cB P pB Q df w0 x w H (hdeps { on := 21, ground := Ground.data } (by simp) rfl) (hdeps { on := 32, ground := Ground.data } (by simp) rfl) (hdeps { on := 16, ground := Ground.guard } (by simp) rfl)
    | 34, ho, _ =>
      have e : o = dk7_o34 := (Option.some.inj ho).symm
      subst e
      exact dkA_s34 gR oR m cR gB oB n cA i l h cB P pB Q df w0 x w H (hdeps { on := 16, ground := Ground.data } (by simp) rfl) (hdeps { on := 33, ground := Ground.data } (by simp) rfl)
    | k + 35, _, hj => omega
  · intro x w hB hdef hsz hs hv
    have hx := frame_sets x.tmps t0 hsz [23, 24, 25, 26, 27, 28, 29, 30, 31, 32, 33, 34, 35, 36, 37, 38, 39, 40, 41, 42, 43, 44, 45, 46, 47, 48, 49, 50, 51, 52, 53, 54, 55, 56, 57] (fun s hn => hs s (fun j hj e => hn (by rw [e]; exact dk7_slots j hj)))
    have hq := hQ (fun d => x.tmps.getD d undef) w hB (hv 34 (by decide))
    obtain ⟨T, Df⟩ := x
    dsimp only at hx hdef hq
    subst hdef
    rw [← hx] at hq
    exact hq
def dkB_val (gR oR m cR n cA i jm : Nat) (aB : Option Addr) : Nat → Value → World → Prop
  | 0, v, w => v = .int .i64 (i : Nat)
  | 1, v, w => v = .slice aB n cA
  | 2, v, w => v = .int .i64 (n : Nat)
  | 3, v, w => v = .bool false
  | 4, v, w => v = .bool false
  | 5, v, w => v = undef
  | 6, v, w => v = undef
  | 7, v, w => v = undef
  | 8, v, w => v = undef
  | 9, v, w => v = undef
  | 10, v, w => v = undef
  | 11, v, w => v = undef
  | 12, v, w => v = undef
  | 13, v, w => v = undef
  | 14, v, w => v = undef
  | 15, v, w => v = .bool false
  | 16, v, w => v = .bool false
  | 17, v, w => v = .int .i64 (i : Nat)
  | 18, v, w => v = .slice aB n cA
  | 19, v, w => v = .int .i64 (n : Nat)
  | 20, v, w => v = .bool true
  | 21, v, w => v = .bool true
  | 22, v, w => v = .slice (some ⟨gR, oR, none⟩) m cR
  | 23, v, w => v = .int .i64 (i : Nat)
  | 24, v, w => v = .pointer (some ⟨gR, oR + i * 2, none⟩)
  | 25, v, w => v = .agg #[by8 (markL 1 jm), .slice none 0 0]
  | 26, v, w => v = .int .i64 (i : Nat)
  | 27, v, w => v = .slice aB n cA
  | 28, v, w => v = .int .i64 (n : Nat)
  | 29, v, w => v = .int .i64 (jm : Nat)
  | 30, v, w => v = .agg #[by8 (markL 1 jm), .slice none 0 0]
  | 31, v, w => v = .bool true
  | 32, v, w => v = .bool false
  | 33, v, w => v = .bool false
  | 34, v, w => v = .bool false
  | _, _, _ => True
theorem dkB_below (gR oR m cR n cA i jm : Nat) (aB : Option Addr) (w w' : World) (hb : Below w.heap.size w w') : ∀ j v, dkB_val gR oR m cR n cA i jm aB j v w → dkB_val gR oR m cR n cA i jm aB j v w' := by
  intro j v h
  match j, h with
  | 0, h => exact h
  | 1, h => exact h
  | 2, h => exact h
  | 3, h => exact h
  | 4, h => exact h
  | 5, h => exact h
  | 6, h => exact h
  | 7, h => exact h
  | 8, h => exact h
  | 9, h => exact h
  | 10, h => exact h
  | 11, h => exact h
  | 12, h => exact h
  | 13, h => exact h
  | 14, h => exact h
  | 15, h => exact h
  | 16, h => exact h
  | 17, h => exact h
  | 18, h => exact h
  | 19, h => exact h
  | 20, h => exact h
  | 21, h => exact h
  | 22, h => exact h
  | 23, h => exact h
  | 24, h => exact h
  | 25, h => exact h
  | 26, h => exact h
  | 27, h => exact h
  | 28, h => exact h
  | 29, h => exact h
  | 30, h => exact h
  | 31, h => exact h
  | 32, h => exact h
  | 33, h => exact h
  | 34, h => exact h
  | _ + 35, h => exact h
def dkB_H (Fc : Fence) (gR oR m cR n cA i jm : Nat) (aB : Option Addr) (df : List Deferred) (w0 : World) (x : Act) (w : World) : Prop :=
  (Wide Fc) ∧ (Hid (i = n + jm ∧ i < m ∧ m ≤ 20000)) ∧ (w0.cell? ⟨gR, oR + i * 2, none⟩ = some (by8 (markL 1 jm))) ∧ (w0.cell? ⟨gR, oR + i * 2 + 1, none⟩ = some (.slice none 0 0)) ∧ (Below w0.heap.size w0 w) ∧ (x.defers = df) ∧ (x.tmps.getD 1 undef = .slice aB n cA) ∧ (x.tmps.getD 5 undef = .slice (some ⟨gR, oR, none⟩) m cR) ∧ (x.tmps.getD 6 undef = .int .i64 (i : Nat))
section
set_option maxRecDepth 100000
set_option maxHeartbeats 2000000
variable {Fc : Fence} {nC : Nat} (gR oR m cR n cA i jm : Nat) (aB : Option Addr) (Q : Exit → Act → World → Prop) (df : List Deferred) (w0 : World) (x : Act) (w : World)
theorem dkB_s0 (H : dkB_H Fc gR oR m cR n cA i jm aB df w0 x w)
    : Stp Fc nC Try.prog dk7_ops Q 0 23 (dkB_val gR oR m cR n cA i jm aB 0) x w := by
  obtain ⟨hF, hk, x0, x1, hB, hdef, u1, u5, u6⟩ := H
  have ho : dk7_ops[0]? = some dk7_o0 := rfl
  simp only [Array.getD_eq_getD_getElem?] at u1 u5 u6
  refine wpOpIn_plain ho rfl (oper_inK hF.fn (fun K hK => ?_))
  clear ho
  rw [Oper.semAt_plain Fc _ _ (by intro c h; cases h)]
  simp only [dk7_o0]
  go_simp
  exact hK _ _ ⟨_, act_putD x hdef _ _, rfl, Below.refl _ _⟩
theorem dkB_s1 (H : dkB_H Fc gR oR m cR n cA i jm aB df w0 x w)
    : Stp Fc nC Try.prog dk7_ops Q 1 24 (dkB_val gR oR m cR n cA i jm aB 1) x w := by
  obtain ⟨hF, hk, x0, x1, hB, hdef, u1, u5, u6⟩ := H
  have ho : dk7_ops[1]? = some dk7_o1 := rfl
  simp only [Array.getD_eq_getD_getElem?] at u1 u5 u6
  refine wpOpIn_plain ho rfl (oper_inK hF.fn (fun K hK => ?_))
  clear ho
  rw [Oper.semAt_plain Fc _ _ (by intro c h; cases h)]
  simp only [dk7_o1]
  go_simp
  exact hK _ _ ⟨_, act_putD x hdef _ _, rfl, Below.refl _ _⟩
theorem dkB_s2 (H : dkB_H Fc gR oR m cR n cA i jm aB df w0 x w)
    (p1 : dkB_val gR oR m cR n cA i jm aB 1 (x.tmps.getD 24 undef) w)
    : Stp Fc nC Try.prog dk7_ops Q 2 25 (dkB_val gR oR m cR n cA i jm aB 2) x w := by
  obtain ⟨hF, hk, x0, x1, hB, hdef, u1, u5, u6⟩ := H
  have ho : dk7_ops[2]? = some dk7_o2 := rfl
  simp only [Array.getD_eq_getD_getElem?] at u1 u5 u6
  have q1 : x.tmps.getD 24 undef = .slice aB n cA := p1
  simp only [Array.getD_eq_getD_getElem?] at q1
  refine wpOpIn_plain ho rfl (oper_inK hF.fn (fun K hK => ?_))
  clear ho
  rw [Oper.semAt_plain Fc _ _ (by intro c h; cases h)]
  simp only [dk7_o2]
  go_simp
  exact hK _ _ ⟨_, act_putD x hdef _ _, rfl, Below.refl _ _⟩
theorem dkB_s3 (H : dkB_H Fc gR oR m cR n cA i jm aB df w0 x w)
    (p0 : dkB_val gR oR m cR n cA i jm aB 0 (x.tmps.getD 23 undef) w)
    (p2 : dkB_val gR oR m cR n cA i jm aB 2 (x.tmps.getD 25 undef) w)
    : Stp Fc nC Try.prog dk7_ops Q 3 26 (dkB_val gR oR m cR n cA i jm aB 3) x w := by
  obtain ⟨hF, hk, x0, x1, hB, hdef, u1, u5, u6⟩ := H
  have ho : dk7_ops[3]? = some dk7_o3 := rfl
  simp only [Array.getD_eq_getD_getElem?] at u1 u5 u6
  have q0 : x.tmps.getD 23 undef = .int .i64 (i : Nat) := p0
  have q2 : x.tmps.getD 25 undef = .int .i64 (n : Nat) := p2
  simp only [Array.getD_eq_getD_getElem?] at q0 q2
  have r1 : ¬ ((i : Int) < (n : Int)) := by have := hk.out; omega
  refine wpOpIn_plain ho rfl (oper_inK hF.fn (fun K hK => ?_))
  clear ho
  rw [Oper.semAt_plain Fc _ _ (by intro c h; cases h)]
  simp only [dk7_o3]
  go_simp
  exact hK _ _ ⟨_, act_putD x hdef _ _, rfl, Below.refl _ _⟩
theorem dkB_s4 (H : dkB_H Fc gR oR m cR n cA i jm aB df w0 x w)
    (p3 : dkB_val gR oR m cR n cA i jm aB 3 (x.tmps.getD 26 undef) w)
    : Stp Fc nC Try.prog dk7_ops Q 4 27 (dkB_val gR oR m cR n cA i jm aB 4) x w := by
  obtain ⟨hF, hk, x0, x1, hB, hdef, u1, u5, u6⟩ := H
  have ho : dk7_ops[4]? = some dk7_o4 := rfl
  simp only [Array.getD_eq_getD_getElem?] at u1 u5 u6
  have q3 : x.tmps.getD 26 undef = .bool false := p3
  simp only [Array.getD_eq_getD_getElem?] at q3
  refine wpOpIn_plain ho rfl (oper_inK hF.fn (fun K hK => ?_))
  clear ho
  rw [Oper.semAt_plain Fc _ _ (by intro c h; cases h)]
  simp only [dk7_o4]
  go_simp
  exact hK _ _ ⟨_, act_putD x hdef _ _, rfl, Below.refl _ _⟩
theorem dkB_s5 (H : dkB_H Fc gR oR m cR n cA i jm aB df w0 x w)
    (p4 : dkB_val gR oR m cR n cA i jm aB 4 (x.tmps.getD 27 undef) w)
    : Stp Fc nC Try.prog dk7_ops Q 5 28 (dkB_val gR oR m cR n cA i jm aB 5) x w := by
  obtain ⟨hF, hk, x0, x1, hB, hdef, u1, u5, u6⟩ := H
  have ho : dk7_ops[5]? = some dk7_o5 := rfl
  simp only [Array.getD_eq_getD_getElem?] at u1 u5 u6
  have q4 : x.tmps.getD 27 undef = .bool false := p4
  simp only [Array.getD_eq_getD_getElem?] at q4
  have e4 : (dk7_ops[4]?.bind fun x => x.dst) = some 27 := rfl
  have g4 := get_someT q4 (fun h => by cases h)
  refine wpOpIn_stepT hF ho (fun K hK => ?_)
  clear ho
  rw [Oper.semAt_plain Fc _ _ (by intro c h; cases h)]
  simp only [dk7_o5]
  go_simp
  exact hK _ _ ⟨_, act_putD x hdef _ _, rfl, Below.refl _ _⟩
theorem dkB_s6 (H : dkB_H Fc gR oR m cR n cA i jm aB df w0 x w)
    (p4 : dkB_val gR oR m cR n cA i jm aB 4 (x.tmps.getD 27 undef) w)
    : Stp Fc nC Try.prog dk7_ops Q 6 29 (dkB_val gR oR m cR n cA i jm aB 6) x w := by
  obtain ⟨hF, hk, x0, x1, hB, hdef, u1, u5, u6⟩ := H
  have ho : dk7_ops[6]? = some dk7_o6 := rfl
  simp only [Array.getD_eq_getD_getElem?] at u1 u5 u6
  have q4 : x.tmps.getD 27 undef = .bool false := p4
  simp only [Array.getD_eq_getD_getElem?] at q4
  have e4 : (dk7_ops[4]?.bind fun x => x.dst) = some 27 := rfl
  have g4 := get_someT q4 (fun h => by cases h)
  refine wpOpIn_stepT hF ho (fun K hK => ?_)
  clear ho
  rw [Oper.semAt_plain Fc _ _ (by intro c h; cases h)]
  simp only [dk7_o6]
  go_simp
  exact hK _ _ ⟨_, act_putD x hdef _ _, rfl, Below.refl _ _⟩
theorem dkB_s7 (H : dkB_H Fc gR oR m cR n cA i jm aB df w0 x w)
    (p5 : dkB_val gR oR m cR n cA i jm aB 5 (x.tmps.getD 28 undef) w)
    (p6 : dkB_val gR oR m cR n cA i jm aB 6 (x.tmps.getD 29 undef) w)
    (p4 : dkB_val gR oR m cR n cA i jm aB 4 (x.tmps.getD 27 undef) w)
    : Stp Fc nC Try.prog dk7_ops Q 7 30 (dkB_val gR oR m cR n cA i jm aB 7) x w := by
  obtain ⟨hF, hk, x0, x1, hB, hdef, u1, u5, u6⟩ := H
  have ho : dk7_ops[7]? = some dk7_o7 := rfl
  simp only [Array.getD_eq_getD_getElem?] at u1 u5 u6
  have q5 : x.tmps.getD 28 undef = undef := p5
  have q6 : x.tmps.getD 29 undef = undef := p6
  have q4 : x.tmps.getD 27 undef = .bool false := p4
  simp only [Array.getD_eq_getD_getElem?] at q5 q6 q4
  have e4 : (dk7_ops[4]?.bind fun x => x.dst) = some 27 := rfl
  have g4 := get_someT q4 (fun h => by cases h)
  refine wpOpIn_stepT hF ho (fun K hK => ?_)
  clear ho
  rw [Oper.semAt_plain Fc _ _ (by intro c h; cases h)]
  simp only [dk7_o7]
  go_simp
  exact hK _ _ ⟨_, act_putD x hdef _ _, rfl, Below.refl _ _⟩
theorem dkB_s8 (H : dkB_H Fc gR oR m cR n cA i jm aB df w0 x w)
    (p7 : dkB_val gR oR m cR n cA i jm aB 7 (x.tmps.getD 30 undef) w)
    (p4 : dkB_val gR oR m cR n cA i jm aB 4 (x.tmps.getD 27 undef) w)
    : Stp Fc nC Try.prog dk7_ops Q 8 31 (dkB_val gR oR m cR n cA i jm aB 8) x w := by
  obtain ⟨hF, hk, x0, x1, hB, hdef, u1, u5, u6⟩ := H
  have ho : dk7_ops[8]? = some dk7_o8 := rfl
  simp only [Array.getD_eq_getD_getElem?] at u1 u5 u6
  have q7 : x.tmps.getD 30 undef = undef := p7
  have q4 : x.tmps.getD 27 undef = .bool false := p4
  simp only [Array.getD_eq_getD_getElem?] at q7 q4
  have e4 : (dk7_ops[4]?.bind fun x => x.dst) = some 27 := rfl
  have g4 := get_someT q4 (fun h => by cases h)
  refine wpOpIn_stepT hF ho (fun K hK => ?_)
  clear ho
  rw [Oper.semAt_plain Fc _ _ (by intro c h; cases h)]
  simp only [dk7_o8]
  go_simp
  exact hK _ _ ⟨_, act_putD x hdef _ _, rfl, Below.refl _ _⟩
theorem dkB_s9 (H : dkB_H Fc gR oR m cR n cA i jm aB df w0 x w)
    (p4 : dkB_val gR oR m cR n cA i jm aB 4 (x.tmps.getD 27 undef) w)
    : Stp Fc nC Try.prog dk7_ops Q 9 32 (dkB_val gR oR m cR n cA i jm aB 9) x w := by
  obtain ⟨hF, hk, x0, x1, hB, hdef, u1, u5, u6⟩ := H
  have ho : dk7_ops[9]? = some dk7_o9 := rfl
  simp only [Array.getD_eq_getD_getElem?] at u1 u5 u6
  have q4 : x.tmps.getD 27 undef = .bool false := p4
  simp only [Array.getD_eq_getD_getElem?] at q4
  have e4 : (dk7_ops[4]?.bind fun x => x.dst) = some 27 := rfl
  have g4 := get_someT q4 (fun h => by cases h)
  refine wpOpIn_stepT hF ho (fun K hK => ?_)
  clear ho
  rw [Oper.semAt_plain Fc _ _ (by intro c h; cases h)]
  simp only [dk7_o9]
  go_simp
  exact hK _ _ ⟨_, act_putD x hdef _ _, rfl, Below.refl _ _⟩
theorem dkB_s10 (H : dkB_H Fc gR oR m cR n cA i jm aB df w0 x w)
    (p4 : dkB_val gR oR m cR n cA i jm aB 4 (x.tmps.getD 27 undef) w)
    : Stp Fc nC Try.prog dk7_ops Q 10 33 (dkB_val gR oR m cR n cA i jm aB 10) x w := by
  obtain ⟨hF, hk, x0, x1, hB, hdef, u1, u5, u6⟩ := H
  have ho : dk7_ops[10]? = some dk7_o10 := rfl
  simp only [Array.getD_eq_getD_getElem?] at u1 u5 u6
  have q4 : x.tmps.getD 27 undef = .bool false := p4
  simp only [Array.getD_eq_getD_getElem?] at q4
  have e4 : (dk7_ops[4]?.bind fun x => x.dst) = some 27 := rfl
  have g4 := get_someT q4 (fun h => by cases h)
  refine wpOpIn_stepT hF ho (fun K hK => ?_)
  clear ho
  rw [Oper.semAt_plain Fc _ _ (by intro c h; cases h)]
  simp only [dk7_o10]
  go_simp
  exact hK _ _ ⟨_, act_putD x hdef _ _, rfl, Below.refl _ _⟩
theorem dkB_s11 (H : dkB_H Fc gR oR m cR n cA i jm aB df w0 x w)
    (p9 : dkB_val gR oR m cR n cA i jm aB 9 (x.tmps.getD 32 undef) w)
    (p10 : dkB_val gR oR m cR n cA i jm aB 10 (x.tmps.getD 33 undef) w)
    (p4 : dkB_val gR oR m cR n cA i jm aB 4 (x.tmps.getD 27 undef) w)
    : Stp Fc nC Try.prog dk7_ops Q 11 34 (dkB_val gR oR m cR n cA i jm aB 11) x w := by
  obtain ⟨hF, hk, x0, x1, hB, hdef, u1, u5, u6⟩ := H
  have ho : dk7_ops[11]? = some dk7_o11 := rfl
  simp only [Array.getD_eq_getD_getElem?] at u1 u5 u6
  have q9 : x.tmps.getD 32 undef = undef := p9
  have q10 : x.tmps.getD 33 undef = undef := p10
  have q4 : x.tmps.getD 27 undef = .bool false := p4
  simp only [Array.getD_eq_getD_getElem?] at q9 q10 q4
  have e4 : (dk7_ops[4]?.bind fun x => x.dst) = some 27 := rfl
  have g4 := get_someT q4 (fun h => by cases h)
  refine wpOpIn_stepT hF ho (fun K hK => ?_)
  clear ho
  rw [Oper.semAt_plain Fc _ _ (by intro c h; cases h)]
  simp only [dk7_o11]
  go_simp
  exact hK _ _ ⟨_, act_putD x hdef _ _, rfl, Below.refl _ _⟩
theorem dkB_s12 (H : dkB_H Fc gR oR m cR n cA i jm aB df w0 x w)
    (p11 : dkB_val gR oR m cR n cA i jm aB 11 (x.tmps.getD 34 undef) w)
    (p4 : dkB_val gR oR m cR n cA i jm aB 4 (x.tmps.getD 27 undef) w)
    : Stp Fc nC Try.prog dk7_ops Q 12 35 (dkB_val gR oR m cR n cA i jm aB 12) x w := by
  obtain ⟨hF, hk, x0, x1, hB, hdef, u1, u5, u6⟩ := H
  have ho : dk7_ops[12]? = some dk7_o12 := rfl
  simp only [Array.getD_eq_getD_getElem?] at u1 u5 u6
  have q11 : x.tmps.getD 34 undef = undef := p11
  have q4 : x.tmps.getD 27 undef = .bool false := p4
  simp only [Array.getD_eq_getD_getElem?] at q11 q4
  have e4 : (dk7_ops[4]?.bind fun x => x.dst) = some 27 := rfl
  have g4 := get_someT q4 (fun h => by cases h)
  refine wpOpIn_stepT hF ho (fun K hK => ?_)
  clear ho
  rw [Oper.semAt_plain Fc _ _ (by intro c h; cases h)]
  simp only [dk7_o12]
  go_simp
  exact hK _ _ ⟨_, act_putD x hdef _ _, rfl, Below.refl _ _⟩
theorem dkB_s13 (H : dkB_H Fc gR oR m cR n cA i jm aB df w0 x w)
    (p8 : dkB_val gR oR m cR n cA i jm aB 8 (x.tmps.getD 31 undef) w)
    (p12 : dkB_val gR oR m cR n cA i jm aB 12 (x.tmps.getD 35 undef) w)
    (p4 : dkB_val gR oR m cR n cA i jm aB 4 (x.tmps.getD 27 undef) w)
    : Stp Fc nC Try.prog dk7_ops Q 13 36 (dkB_val gR oR m cR n cA i jm aB 13) x w := by
  obtain ⟨hF, hk, x0, x1, hB, hdef, u1, u5, u6⟩ := H
  have ho : dk7_ops[13]? = some dk7_o13 := rfl
  simp only [Array.getD_eq_getD_getElem?] at u1 u5 u6
  have q8 : x.tmps.getD 31 undef = undef := p8
  have q12 : x.tmps.getD 35 undef = undef := p12
  have q4 : x.tmps.getD 27 undef = .bool false := p4
  simp only [Array.getD_eq_getD_getElem?] at q8 q12 q4
  have e4 : (dk7_ops[4]?.bind fun x => x.dst) = some 27 := rfl
  have g4 := get_someT q4 (fun h => by cases h)
  refine wpOpIn_stepT hF ho (fun K hK => ?_)
  clear ho
  rw [Oper.semAt_plain Fc _ _ (by intro c h; cases h)]
  simp only [dk7_o13]
  go_simp
  exact hK _ _ ⟨_, act_putD x hdef _ _, rfl, Below.refl _ _⟩
theorem dkB_s14 (H : dkB_H Fc gR oR m cR n cA i jm aB df w0 x w)
    (p13 : dkB_val gR oR m cR n cA i jm aB 13 (x.tmps.getD 36 undef) w)
    (p4 : dkB_val gR oR m cR n cA i jm aB 4 (x.tmps.getD 27 undef) w)
    : Stp Fc nC Try.prog dk7_ops Q 14 37 (dkB_val gR oR m cR n cA i jm aB 14) x w := by
  obtain ⟨hF, hk, x0, x1, hB, hdef, u1, u5, u6⟩ := H
  have ho : dk7_ops[14]? = some dk7_o14 := rfl
  simp only [Array.getD_eq_getD_getElem?] at u1 u5 u6
  have q13 : x.tmps.getD 36 undef = undef := p13
  have q4 : x.tmps.getD 27 undef = .bool false := p4
  simp only [Array.getD_eq_getD_getElem?] at q13 q4
  have e4 : (dk7_ops[4]?.bind fun x => x.dst) = some 27 := rfl
  have g4 := get_someT q4 (fun h => by cases h)
  refine wpOpIn_stepT hF ho (fun K hK => ?_)
  clear ho
  rw [Oper.semAt_plain Fc _ _ (by intro c h; cases h)]
  simp only [dk7_o14]
  go_simp
  exact hK _ _ ⟨_, act_putD x hdef _ _, rfl, Below.refl _ _⟩
theorem dkB_s15 (H : dkB_H Fc gR oR m cR n cA i jm aB df w0 x w)
    (p4 : dkB_val gR oR m cR n cA i jm aB 4 (x.tmps.getD 27 undef) w)
    (p14 : dkB_val gR oR m cR n cA i jm aB 14 (x.tmps.getD 37 undef) w)
    : Stp Fc nC Try.prog dk7_ops Q 15 38 (dkB_val gR oR m cR n cA i jm aB 15) x w := by
  obtain ⟨hF, hk, x0, x1, hB, hdef, u1, u5, u6⟩ := H
  have ho : dk7_ops[15]? = some dk7_o15 := rfl
  simp only [Array.getD_eq_getD_getElem?] at u1 u5 u6
  have q4 : x.tmps.getD 27 undef = .bool false := p4
  have q14 : x.tmps.getD 37 undef = undef := p14
  simp only [Array.getD_eq_getD_getElem?] at q4 q14
  refine wpOpIn_plain ho rfl (oper_inK hF.fn (fun K hK => ?_))
  clear ho
  rw [Oper.semAt_plain Fc _ _ (by intro c h; cases h)]
  simp only [dk7_o15]
  go_simp
  exact hK _ _ ⟨_, act_putD x hdef _ _, rfl, Below.refl _ _⟩
theorem dkB_s16 (H : dkB_H Fc gR oR m cR n cA i jm aB df w0 x w)
    (p15 : dkB_val gR oR m cR n cA i jm aB 15 (x.tmps.getD 38 undef) w)
    : Stp Fc nC Try.prog dk7_ops Q 16 39 (dkB_val gR oR m cR n cA i jm aB 16) x w := by
  obtain ⟨hF, hk, x0, x1, hB, hdef, u1, u5, u6⟩ := H
  have ho : dk7_ops[16]? = some dk7_o16 := rfl
  simp only [Array.getD_eq_getD_getElem?] at u1 u5 u6
  have q15 : x.tmps.getD 38 undef = .bool false := p15
  simp only [Array.getD_eq_getD_getElem?] at q15
  refine wpOpIn_plain ho rfl (oper_inK hF.fn (fun K hK => ?_))
  clear ho
  rw [Oper.semAt_plain Fc _ _ (by intro c h; cases h)]
  simp only [dk7_o16]
  go_simp
  exact hK _ _ ⟨_, act_putD x hdef _ _, rfl, Below.refl _ _⟩
theorem dkB_s17 (H : dkB_H Fc gR oR m cR n cA i jm aB df w0 x w)
    (p16 : dkB_val gR oR m cR n cA i jm aB 16 (x.tmps.getD 39 undef) w)
    : Stp Fc nC Try.prog dk7_ops Q 17 40 (dkB_val gR oR m cR n cA i jm aB 17) x w := by
  obtain ⟨hF, hk, x0, x1, hB, hdef, u1, u5, u6⟩ := H
  have ho : dk7_ops[17]? = some dk7_o17 := rfl
  simp only [Array.getD_eq_getD_getElem?] at u1 u5 u6
  have q16 : x.tmps.getD 39 undef = .bool false := p16
  simp only [Array.getD_eq_getD_getElem?] at q16
  have e16 : (dk7_ops[16]?.bind fun x => x.dst) = some 39 := rfl
  have g16 := get_someT q16 (fun h => by cases h)
  refine wpOpIn_stepT hF ho (fun K hK => ?_)
  clear ho
  rw [Oper.semAt_plain Fc _ _ (by intro c h; cases h)]
  simp only [dk7_o17]
  go_simp
  exact hK _ _ ⟨_, act_putD x hdef _ _, rfl, Below.refl _ _⟩
theorem dkB_s18 (H : dkB_H Fc gR oR m cR n cA i jm aB df w0 x w)
    (p16 : dkB_val gR oR m cR n cA i jm aB 16 (x.tmps.getD 39 undef) w)
    : Stp Fc nC Try.prog dk7_ops Q 18 41 (dkB_val gR oR m cR n cA i jm aB 18) x w := by
  obtain ⟨hF, hk, x0, x1, hB, hdef, u1, u5, u6⟩ := H
  have ho : dk7_ops[18]? = some dk7_o18 := rfl
  simp only [Array.getD_eq_getD_getElem?] at u1 u5 u6
  have q16 : x.tmps.getD 39 undef = .bool false := p16
  simp only [Array.getD_eq_getD_getElem?] at q16
  have e16 : (dk7_ops[16]?.bind fun x => x.dst) = some 39 := rfl
  have g16 := get_someT q16 (fun h => by cases h)
  refine wpOpIn_stepT hF ho (fun K hK => ?_)
  clear ho
  rw [Oper.semAt_plain Fc _ _ (by intro c h; cases h)]
  simp only [dk7_o18]
  go_simp
  exact hK _ _ ⟨_, act_putD x hdef _ _, rfl, Below.refl _ _⟩
theorem dkB_s19 (H : dkB_H Fc gR oR m cR n cA i jm aB df w0 x w)
    (p18 : dkB_val gR oR m cR n cA i jm aB 18 (x.tmps.getD 41 undef) w)
    (p16 : dkB_val gR oR m cR n cA i jm aB 16 (x.tmps.getD 39 undef) w)
    : Stp Fc nC Try.prog dk7_ops Q 19 42 (dkB_val gR oR m cR n cA i jm aB 19) x w := by
  obtain ⟨hF, hk, x0, x1, hB, hdef, u1, u5, u6⟩ := H
  have ho : dk7_ops[19]? = some dk7_o19 := rfl
  simp only [Array.getD_eq_getD_getElem?] at u1 u5 u6
  have q18 : x.tmps.getD 41 undef = .slice aB n cA := p18
  have q16 : x.tmps.getD 39 undef = .bool false := p16
  simp only [Array.getD_eq_getD_getElem?] at q18 q16
  have e16 : (dk7_ops[16]?.bind fun x => x.dst) = some 39 := rfl
  have g16 := get_someT q16 (fun h => by cases h)
  refine wpOpIn_stepT hF ho (fun K hK => ?_)
  clear ho
  rw [Oper.semAt_plain Fc _ _ (by intro c h; cases h)]
  simp only [dk7_o19]
  go_simp
  exact hK _ _ ⟨_, act_putD x hdef _ _, rfl, Below.refl _ _⟩
theorem dkB_s20 (H : dkB_H Fc gR oR m cR n cA i jm aB df w0 x w)
    (p17 : dkB_val gR oR m cR n cA i jm aB 17 (x.tmps.getD 40 undef) w)
    (p19 : dkB_val gR oR m cR n cA i jm aB 19 (x.tmps.getD 42 undef) w)
    (p16 : dkB_val gR oR m cR n cA i jm aB 16 (x.tmps.getD 39 undef) w)
    : Stp Fc nC Try.prog dk7_ops Q 20 43 (dkB_val gR oR m cR n cA i jm aB 20) x w := by
  obtain ⟨hF, hk, x0, x1, hB, hdef, u1, u5, u6⟩ := H
  have ho : dk7_ops[20]? = some dk7_o20 := rfl
  simp only [Array.getD_eq_getD_getElem?] at u1 u5 u6
  have q17 : x.tmps.getD 40 undef = .int .i64 (i : Nat) := p17
  have q19 : x.tmps.getD 42 undef = .int .i64 (n : Nat) := p19
  have q16 : x.tmps.getD 39 undef = .bool false := p16
  simp only [Array.getD_eq_getD_getElem?] at q17 q19 q16
  have e16 : (dk7_ops[16]?.bind fun x => x.dst) = some 39 := rfl
  have g16 := get_someT q16 (fun h => by cases h)
  have r1 : (n : Int) ≤ (i : Int) := by have := hk.out; omega
  refine wpOpIn_stepT hF ho (fun K hK => ?_)
  clear ho
  rw [Oper.semAt_plain Fc _ _ (by intro c h; cases h)]
  simp only [dk7_o20]
  go_simp
  exact hK _ _ ⟨_, act_putD x hdef _ _, rfl, Below.refl _ _⟩
theorem dkB_s21 (H : dkB_H Fc gR oR m cR n cA i jm aB df w0 x w)
    (p20 : dkB_val gR oR m cR n cA i jm aB 20 (x.tmps.getD 43 undef) w)
    (p16 : dkB_val gR oR m cR n cA i jm aB 16 (x.tmps.getD 39 undef) w)
    : Stp Fc nC Try.prog dk7_ops Q 21 44 (dkB_val gR oR m cR n cA i jm aB 21) x w := by
  obtain ⟨hF, hk, x0, x1, hB, hdef, u1, u5, u6⟩ := H
  have ho : dk7_ops[21]? = some dk7_o21 := rfl
  simp only [Array.getD_eq_getD_getElem?] at u1 u5 u6
  have q20 : x.tmps.getD 43 undef = .bool true := p20
  have q16 : x.tmps.getD 39 undef = .bool false := p16
  simp only [Array.getD_eq_getD_getElem?] at q20 q16
  have e16 : (dk7_ops[16]?.bind fun x => x.dst) = some 39 := rfl
  have g16 := get_someT q16 (fun h => by cases h)
  refine wpOpIn_stepT hF ho (fun K hK => ?_)
  clear ho
  rw [Oper.semAt_plain Fc _ _ (by intro c h; cases h)]
  simp only [dk7_o21]
  go_simp
  exact hK _ _ ⟨_, act_putD x hdef _ _, rfl, Below.refl _ _⟩
theorem dkB_s22 (H : dkB_H Fc gR oR m cR n cA i jm aB df w0 x w)
    (p21 : dkB_val gR oR m cR n cA i jm aB 21 (x.tmps.getD 44 undef) w)
    : Stp Fc nC Try.prog dk7_ops Q 22 45 (dkB_val gR oR m cR n cA i jm aB 22) x w := by
  obtain ⟨hF, hk, x0, x1, hB, hdef, u1, u5, u6⟩ := H
  have ho : dk7_ops[22]? = some dk7_o22 := rfl
  simp only [Array.getD_eq_getD_getElem?] at u1 u5 u6
  have q21 : x.tmps.getD 44 undef = .bool true := p21
  simp only [Array.getD_eq_getD_getElem?] at q21
  have e21 : (dk7_ops[21]?.bind fun x => x.dst) = some 44 := rfl
  have g21 := get_someT q21 (fun h => by cases h)
  refine wpOpIn_stepT hF ho (fun K hK => ?_)
  clear ho
  rw [Oper.semAt_plain Fc _ _ (by intro c h; cases h)]
  simp only [dk7_o22]
  go_simp
  exact hK _ _ ⟨_, act_putD x hdef _ _, rfl, Below.refl _ _⟩
theorem dkB_s23 (H : dkB_H Fc gR oR m cR n cA i jm aB df w0 x w)
    (p21 : dkB_val gR oR m cR n cA i jm aB 21 (x.tmps.getD 44 undef) w)
    : Stp Fc nC Try.prog dk7_ops Q 23 46 (dkB_val gR oR m cR n cA i jm aB 23) x w := by
  obtain ⟨hF, hk, x0, x1, hB, hdef, u1, u5, u6⟩ := H
  have ho : dk7_ops[23]? = some dk7_o23 := rfl
  simp only [Array.getD_eq_getD_getElem?] at u1 u5 u6
  have q21 : x.tmps.getD 44 undef = .bool true := p21
  simp only [Array.getD_eq_getD_getElem?] at q21
  have e21 : (dk7_ops[21]?.bind fun x => x.dst) = some 44 := rfl
  have g21 := get_someT q21 (fun h => by cases h)
  refine wpOpIn_stepT hF ho (fun K hK => ?_)
  clear ho
  rw [Oper.semAt_plain Fc _ _ (by intro c h; cases h)]
  simp only [dk7_o23]
  go_simp
  exact hK _ _ ⟨_, act_putD x hdef _ _, rfl, Below.refl _ _⟩
theorem dkB_s24 (H : dkB_H Fc gR oR m cR n cA i jm aB df w0 x w)
    (p22 : dkB_val gR oR m cR n cA i jm aB 22 (x.tmps.getD 45 undef) w)
    (p23 : dkB_val gR oR m cR n cA i jm aB 23 (x.tmps.getD 46 undef) w)
    (p21 : dkB_val gR oR m cR n cA i jm aB 21 (x.tmps.getD 44 undef) w)
    : Stp Fc nC Try.prog dk7_ops Q 24 47 (dkB_val gR oR m cR n cA i jm aB 24) x w := by
  obtain ⟨hF, hk, x0, x1, hB, hdef, u1, u5, u6⟩ := H
  have ho : dk7_ops[24]? = some dk7_o24 := rfl
  simp only [Array.getD_eq_getD_getElem?] at u1 u5 u6
  have q22 : x.tmps.getD 45 undef = .slice (some ⟨gR, oR, none⟩) m cR := p22
  have q23 : x.tmps.getD 46 undef = .int .i64 (i : Nat) := p23
  have q21 : x.tmps.getD 44 undef = .bool true := p21
  simp only [Array.getD_eq_getD_getElem?] at q22 q23 q21
  have e21 : (dk7_ops[21]?.bind fun x => x.dst) = some 44 := rfl
  have g21 := get_someT q21 (fun h => by cases h)
  have r0 : (0 : Int) ≤ (i : Int) := by have := hk.out; omega
  have r1 : (i : Int) < (m : Int) := by have := hk.out; omega
  refine wpOpIn_stepT hF ho (fun K hK => ?_)
  clear ho
  rw [Oper.semAt_plain Fc _ _ (by intro c h; cases h)]
  simp only [dk7_o24]
  go_simp
  exact hK _ _ ⟨_, act_putD x hdef _ _, rfl, Below.refl _ _⟩
theorem dkB_s25 (H : dkB_H Fc gR oR m cR n cA i jm aB df w0 x w)
    (p24 : dkB_val gR oR m cR n cA i jm aB 24 (x.tmps.getD 47 undef) w)
    (p21 : dkB_val gR oR m cR n cA i jm aB 21 (x.tmps.getD 44 undef) w)
    : Stp Fc nC Try.prog dk7_ops Q 25 48 (dkB_val gR oR m cR n cA i jm aB 25) x w := by
  obtain ⟨hF, hk, x0, x1, hB, hdef, u1, u5, u6⟩ := H
  have ho : dk7_ops[25]? = some dk7_o25 := rfl
  simp only [Array.getD_eq_getD_getElem?] at u1 u5 u6
  have q24 : x.tmps.getD 47 undef = .pointer (some ⟨gR, oR + i * 2, none⟩) := p24
  have q21 : x.tmps.getD 44 undef = .bool true := p21
  simp only [Array.getD_eq_getD_getElem?] at q24 q21
  have e21 : (dk7_ops[21]?.bind fun x => x.dst) = some 44 := rfl
  have g21 := get_someT q21 (fun h => by cases h)
  have m0 := cell_thru x0 hB
  have m1 := cell_thru x1 hB
  unfold by8 at *
  refine wpOpIn_stepT hF ho (fun K hK => ?_)
  clear ho
  rw [Oper.semAt_plain Fc _ _ (by intro c h; cases h)]
  simp only [dk7_o25]
  go_simp
  exact hK _ _ ⟨_, act_putD x hdef _ _, rfl, Below.refl _ _⟩
theorem dkB_s26 (H : dkB_H Fc gR oR m cR n cA i jm aB df w0 x w)
    (p21 : dkB_val gR oR m cR n cA i jm aB 21 (x.tmps.getD 44 undef) w)
    : Stp Fc nC Try.prog dk7_ops Q 26 49 (dkB_val gR oR m cR n cA i jm aB 26) x w := by
  obtain ⟨hF, hk, x0, x1, hB, hdef, u1, u5, u6⟩ := H
  have ho : dk7_ops[26]? = some dk7_o26 := rfl
  simp only [Array.getD_eq_getD_getElem?] at u1 u5 u6
  have q21 : x.tmps.getD 44 undef = .bool true := p21
  simp only [Array.getD_eq_getD_getElem?] at q21
  have e21 : (dk7_ops[21]?.bind fun x => x.dst) = some 44 := rfl
  have g21 := get_someT q21 (fun h => by cases h)
  refine wpOpIn_stepT hF ho (fun K hK => ?_)
  clear ho
  rw [Oper.semAt_plain Fc _ _ (by intro c h; cases h)]
  simp only [dk7_o26]
  go_simp
  exact hK _ _ ⟨_, act_putD x hdef _ _, rfl, Below.refl _ _⟩
theorem dkB_s27 (H : dkB_H Fc gR oR m cR n cA i jm aB df w0 x w)
    (p21 : dkB_val gR oR m cR n cA i jm aB 21 (x.tmps.getD 44 undef) w)
    : Stp Fc nC Try.prog dk7_ops Q 27 50 (dkB_val gR oR m cR n cA i jm aB 27) x w := by
  obtain ⟨hF, hk, x0, x1, hB, hdef, u1, u5, u6⟩ := H
  have ho : dk7_ops[27]? = some dk7_o27 := rfl
  simp only [Array.getD_eq_getD_getElem?] at u1 u5 u6
  have q21 : x.tmps.getD 44 undef = .bool true := p21
  simp only [Array.getD_eq_getD_getElem?] at q21
  have e21 : (dk7_ops[21]?.bind fun x => x.dst) = some 44 := rfl
  have g21 := get_someT q21 (fun h => by cases h)
  refine wpOpIn_stepT hF ho (fun K hK => ?_)
  clear ho
  rw [Oper.semAt_plain Fc _ _ (by intro c h; cases h)]
  simp only [dk7_o27]
  go_simp
  exact hK _ _ ⟨_, act_putD x hdef _ _, rfl, Below.refl _ _⟩
theorem dkB_s28 (H : dkB_H Fc gR oR m cR n cA i jm aB df w0 x w)
    (p27 : dkB_val gR oR m cR n cA i jm aB 27 (x.tmps.getD 50 undef) w)
    (p21 : dkB_val gR oR m cR n cA i jm aB 21 (x.tmps.getD 44 undef) w)
    : Stp Fc nC Try.prog dk7_ops Q 28 51 (dkB_val gR oR m cR n cA i jm aB 28) x w := by
  obtain ⟨hF, hk, x0, x1, hB, hdef, u1, u5, u6⟩ := H
  have ho : dk7_ops[28]? = some dk7_o28 := rfl
  simp only [Array.getD_eq_getD_getElem?] at u1 u5 u6
  have q27 : x.tmps.getD 50 undef = .slice aB n cA := p27
  have q21 : x.tmps.getD 44 undef = .bool true := p21
  simp only [Array.getD_eq_getD_getElem?] at q27 q21
  have e21 : (dk7_ops[21]?.bind fun x => x.dst) = some 44 := rfl
  have g21 := get_someT q21 (fun h => by cases h)
  refine wpOpIn_stepT hF ho (fun K hK => ?_)
  clear ho
  rw [Oper.semAt_plain Fc _ _ (by intro c h; cases h)]
  simp only [dk7_o28]
  go_simp
  exact hK _ _ ⟨_, act_putD x hdef _ _, rfl, Below.refl _ _⟩
theorem dkB_s29 (H : dkB_H Fc gR oR m cR n cA i jm aB df w0 x w)
    (p26 : dkB_val gR oR m cR n cA i jm aB 26 (x.tmps.getD 49 undef) w)
    (p28 : dkB_val gR oR m cR n cA i jm aB 28 (x.tmps.getD 51 undef) w)
    (p21 : dkB_val gR oR m cR n cA i jm aB 21 (x.tmps.getD 44 undef) w)
    : Stp Fc nC Try.prog dk7_ops Q 29 52 (dkB_val gR oR m cR n cA i jm aB 29) x w := by
  obtain ⟨hF, hk, x0, x1, hB, hdef, u1, u5, u6⟩ := H
  have ho : dk7_ops[29]? = some dk7_o29 := rfl
  simp only [Array.getD_eq_getD_getElem?] at u1 u5 u6
  have q26 : x.tmps.getD 49 undef = .int .i64 (i : Nat) := p26
  have q28 : x.tmps.getD 51 undef = .int .i64 (n : Nat) := p28
  have q21 : x.tmps.getD 44 undef = .bool true := p21
  simp only [Array.getD_eq_getD_getElem?] at q26 q28 q21
  have e21 : (dk7_ops[21]?.bind fun x => x.dst) = some 44 := rfl
  have g21 := get_someT q21 (fun h => by cases h)
  have ks := IntWalk.i64_in (jm : Int) (by have := hk.out; omega)
  have ks2 : (i : Int) - (n : Int) = (jm : Int) := by have := hk.out; omega
  refine wpOpIn_stepT hF ho (fun K hK => ?_)
  clear ho
  rw [Oper.semAt_plain Fc _ _ (by intro c h; cases h)]
  simp only [dk7_o29]
  go_simp
  exact hK _ _ ⟨_, act_putD x hdef _ _, rfl, Below.refl _ _⟩
theorem dkB_s30 (H : dkB_H Fc gR oR m cR n cA i jm aB df w0 x w)
    (p29 : dkB_val gR oR m cR n cA i jm aB 29 (x.tmps.getD 52 undef) w)
    (p21 : dkB_val gR oR m cR n cA i jm aB 21 (x.tmps.getD 44 undef) w)
    : Stp Fc nC Try.prog dk7_ops Q 30 53 (dkB_val gR oR m cR n cA i jm aB 30) x w := by
  obtain ⟨hF, hk, x0, x1, hB, hdef, u1, u5, u6⟩ := H
  have ho : dk7_ops[30]? = some dk7_o30 := rfl
  simp only [Array.getD_eq_getD_getElem?] at u1 u5 u6
  have q29 : x.tmps.getD 52 undef = .int .i64 (jm : Nat) := p29
  have q21 : x.tmps.getD 44 undef = .bool true := p21
  simp only [Array.getD_eq_getD_getElem?] at q29 q21
  have e21 : (dk7_ops[21]?.bind fun x => x.dst) = some 44 := rfl
  have g21 := get_someT q21 (fun h => by cases h)
  refine wpOpIn_stepT hF ho (fun K hK => ?_)
  clear ho
  rw [Oper.semAt_plain Fc _ _ (by intro c h; cases h)]
  simp only [dk7_o30]
  go_simp
  refine ⟨hF.deep, (hF.call (FileFlat.mark_any 1 jm w (by omega) (by have := hk.out; omega))).mono ?_⟩
  rintro e w' ⟨γ, rfl, _, hb⟩
  exact hK _ _ ⟨_, act_putD x hdef _ _, rfl, hb⟩
theorem dkB_s31 (H : dkB_H Fc gR oR m cR n cA i jm aB df w0 x w)
    (p25 : dkB_val gR oR m cR n cA i jm aB 25 (x.tmps.getD 48 undef) w)
    (p30 : dkB_val gR oR m cR n cA i jm aB 30 (x.tmps.getD 53 undef) w)
    (p21 : dkB_val gR oR m cR n cA i jm aB 21 (x.tmps.getD 44 undef) w)
    : Stp Fc nC Try.prog dk7_ops Q 31 54 (dkB_val gR oR m cR n cA i jm aB 31) x w := by
  obtain ⟨hF, hk, x0, x1, hB, hdef, u1, u5, u6⟩ := H
  have ho : dk7_ops[31]? = some dk7_o31 := rfl
  simp only [Array.getD_eq_getD_getElem?] at u1 u5 u6
  have q25 : x.tmps.getD 48 undef = .agg #[by8 (markL 1 jm), .slice none 0 0] := p25
  have q30 : x.tmps.getD 53 undef = .agg #[by8 (markL 1 jm), .slice none 0 0] := p30
  have q21 : x.tmps.getD 44 undef = .bool true := p21
  simp only [Array.getD_eq_getD_getElem?] at q25 q30 q21
  have e21 : (dk7_ops[21]?.bind fun x => x.dst) = some 44 := rfl
  have g21 := get_someT q21 (fun h => by cases h)
  refine wpOpIn_stepT hF ho (fun K hK => ?_)
  clear ho
  rw [Oper.semAt_plain Fc _ _ (by intro c h; cases h)]
  simp only [dk7_o31]
  go_simp
  refine ⟨hF.deep, (hF.call (FileFlat.same_any 1 jm w (by omega) (by have := hk.out; omega))).mono ?_⟩
  rintro e w' ⟨rfl, hb⟩
  exact hK _ _ ⟨_, act_putD x hdef _ _, rfl, hb⟩
theorem dkB_s32 (H : dkB_H Fc gR oR m cR n cA i jm aB df w0 x w)
    (p31 : dkB_val gR oR m cR n cA i jm aB 31 (x.tmps.getD 54 undef) w)
    (p21 : dkB_val gR oR m cR n cA i jm aB 21 (x.tmps.getD 44 undef) w)
    : Stp Fc nC Try.prog dk7_ops Q 32 55 (dkB_val gR oR m cR n cA i jm aB 32) x w := by
  obtain ⟨hF, hk, x0, x1, hB, hdef, u1, u5, u6⟩ := H
  have ho : dk7_ops[32]? = some dk7_o32 := rfl
  simp only [Array.getD_eq_getD_getElem?] at u1 u5 u6
  have q31 : x.tmps.getD 54 undef = .bool true := p31
  have q21 : x.tmps.getD 44 undef = .bool true := p21
  simp only [Array.getD_eq_getD_getElem?] at q31 q21
  have e21 : (dk7_ops[21]?.bind fun x => x.dst) = some 44 := rfl
  have g21 := get_someT q21 (fun h => by cases h)
  refine wpOpIn_stepT hF ho (fun K hK => ?_)
  clear ho
  rw [Oper.semAt_plain Fc _ _ (by intro c h; cases h)]
  simp only [dk7_o32]
  go_simp
  exact hK _ _ ⟨_, act_putD x hdef _ _, rfl, Below.refl _ _⟩
theorem dkB_s33 (H : dkB_H Fc gR oR m cR n cA i jm aB df w0 x w)
    (p21 : dkB_val gR oR m cR n cA i jm aB 21 (x.tmps.getD 44 undef) w)
    (p32 : dkB_val gR oR m cR n cA i jm aB 32 (x.tmps.getD 55 undef) w)
    (p16 : dkB_val gR oR m cR n cA i jm aB 16 (x.tmps.getD 39 undef) w)
    : Stp Fc nC Try.prog dk7_ops Q 33 56 (dkB_val gR oR m cR n cA i jm aB 33) x w := by
  obtain ⟨hF, hk, x0, x1, hB, hdef, u1, u5, u6⟩ := H
  have ho : dk7_ops[33]? = some dk7_o33 := rfl
  simp only [Array.getD_eq_getD_getElem?] at u1 u5 u6
  have q21 : x.tmps.getD 44 undef = .bool true := p21
  have q32 : x.tmps.getD 55 undef = .bool false := p32
  have q16 : x.tmps.getD 39 undef = .bool false := p16
  simp only [Array.getD_eq_getD_getElem?] at q21 q32 q16
  have e16 : (dk7_ops[16]?.bind fun x => x.dst) = some 39 := rfl
  have g16 := get_someT q16 (fun h => by cases h)
  refine wpOpIn_stepT hF ho (fun K hK => ?_)
  clear ho
  rw [Oper.semAt_plain Fc _ _ (by intro c h; cases h)]
  simp only [dk7_o33]
  go_simp
  exact hK _ _ ⟨_, act_putD x hdef _ _, rfl, Below.refl _ _⟩
theorem dkB_s34 (H : dkB_H Fc gR oR m cR n cA i jm aB df w0 x w)
    (p16 : dkB_val gR oR m cR n cA i jm aB 16 (x.tmps.getD 39 undef) w)
    (p33 : dkB_val gR oR m cR n cA i jm aB 33 (x.tmps.getD 56 undef) w)
    : Stp Fc nC Try.prog dk7_ops Q 34 57 (dkB_val gR oR m cR n cA i jm aB 34) x w := by
  obtain ⟨hF, hk, x0, x1, hB, hdef, u1, u5, u6⟩ := H
  have ho : dk7_ops[34]? = some dk7_o34 := rfl
  simp only [Array.getD_eq_getD_getElem?] at u1 u5 u6
  have q16 : x.tmps.getD 39 undef = .bool false := p16
  have q33 : x.tmps.getD 56 undef = .bool false := p33
  simp only [Array.getD_eq_getD_getElem?] at q16 q33
  refine wpOpIn_plain ho rfl (oper_inK hF.fn (fun K hK => ?_))
  clear ho
  rw [Oper.semAt_plain Fc _ _ (by intro c h; cases h)]
  simp only [dk7_o34]
  go_simp
  exact hK _ _ ⟨_, act_putD x hdef _ _, rfl, Below.refl _ _⟩
end

set_option maxRecDepth 100000 in
set_option maxHeartbeats 4000000 in
theorem dkB {Fc : Fence} (hF : Wide Fc) {nC : Nat} (gR oR m cR n cA i jm : Nat) (aB : Option Addr) (Q : Exit → Act → World → Prop) (t0 : Array Value) (df : List Deferred) (w0 : World) (ht : t0.size = 58)
    (hs1 : t0.getD 1 undef = .slice aB n cA) (hs5 : t0.getD 5 undef = .slice (some ⟨gR, oR, none⟩) m cR) (hs6 : t0.getD 6 undef = .int .i64 (i : Nat))
    (hk : Hid (i = n + jm ∧ i < m ∧ m ≤ 20000)) (x0 : w0.cell? ⟨gR, oR + i * 2, none⟩ = some (by8 (markL 1 jm))) (x1 : w0.cell? ⟨gR, oR + i * 2 + 1, none⟩ = some (.slice none 0 0))
    (hQ : ∀ (vs : Nat → Value) (w : World), Below w0.heap.size w0 w → (vs 57 = .bool false) → Q .normal { tmps := [23, 24, 25, 26, 27, 28, 29, 30, 31, 32, 33, 34, 35, 36, 37, 38, 39, 40, 41, 42, 43, 44, 45, 46, 47, 48, 49, 50, 51, 52, 53, 54, 55, 56, 57].foldl (fun y d => y.setIfInBounds d (vs d)) t0, defers := df } w) :
    (Code.region 7 dk7_ops true).wpIn Fc nC Try.prog Q { tmps := t0, defers := df } w0 := by
  refine wpIn_region_tail 35 (by decide) (by kernel_rfl) (fun a b => Below a.heap.size a b) (dkB_val gR oR m cR n cA i jm aB) t0 df w0 (by rw [ht]; kernel_rfl) (by kernel_rfl) (by kernel_rfl) (by kernel_rfl) ((Below.refl _ _).drew) (fun _ _ _ h k => h.trans (k.mono h.size)) (dkB_below gR oR m cR n cA i jm aB) ?_ ?_
  · intro j o ho hj x w hB hdef hsz hs hdeps
    have hs' : ∀ s, ¬ dk7_mem s → x.tmps.getD s undef = t0.getD s undef := fun s hn => hs s (fun j hj e => hn (by rw [e]; exact dk7_slots j hj))
    have u1 := (hs' 1 (by decide)).trans hs1
    have u5 := (hs' 5 (by decide)).trans hs5
    have u6 := (hs' 6 (by decide)).trans hs6
    have H : dkB_H Fc gR oR m cR n cA i jm aB df w0 x w := ⟨hF, hk, x0, x1, hB, hdef, u1, u5, u6⟩
    match j, ho, hj with
    | 0, ho, _ =>
      have e : o = dk7_o0 := (Option.some.inj ho).symm
      subst e
      exact dkB_s0 gR oR m cR n cA i jm aB Q df w0 x w H 
    | 1, ho, _ =>
      have e : o = dk7_o1 := (Option.some.inj ho).symm
      subst e
      exact dkB_s1 gR oR m cR n cA i jm aB Q df w0 x w H 
    | 2, ho, _ =>
      have e : o = dk7_o2 := (Option.some.inj ho).symm
      subst e
      exact dkB_s2 gR oR m cR n cA i jm aB Q df w0 x w H (hdeps { on := 1, ground := Ground.data } (by simp) rfl)
    | 3, ho, _ =>
      have e : o = dk7_o3 := (Option.some.inj ho).symm
      subst e
      exact dkB_s3 gR oR m cR n cA i jm aB Q df w0 x w H (hdeps { on := 0, ground := Ground.data } (by simp) rfl) (hdeps { on := 2, ground := Ground.data } (by simp) rfl)
    | 4, ho, _ =>
      have e : o = dk7_o4 := (Option.some.inj ho).symm
      subst e
      exact dkB_s4 gR oR m cR n cA i jm aB Q df w0 x w H (hdeps { on := 3, ground := Ground.data } (by simp) rfl)
    | 5, ho, _ =>
      have e : o = dk7_o5 := (Option.some.inj ho).symm
      subst e
      exact dkB_s5 gR oR m cR n cA i jm aB Q df w0 x w H (hdeps { on := 4, ground := Ground.guard } (by simp) rfl)
    | 6, ho, _ =>
      have e : o = dk7_o6 := (Option.some.inj ho).symm
      subst e
      exact dkB_s6 gR oR m cR n cA i jm aB Q df w0 x w H (hdeps { on := 4, ground := Ground.guard } (by simp) rfl)
    | 7, ho, _ =>
      have e : o = dk7_o7 := (Option.some.inj ho).symm
      subst e
      exact dkB_s7 gR oR m cR n cA i jm aB Q df w0 x w H (hdeps { on := 5, ground := Ground.data } (by simp) rfl) (hdeps { on := 6, ground := Ground.data } (by simp) rfl) (hdeps { on := 4, ground := Ground.guard } (by simp) rfl)
    | 8, ho, _ =>
      have e : o = dk7_o8 := (Option.some.inj ho).symm
      subst e
      exact dkB_s8 gR oR m cR n cA i jm aB Q df w0 x w H (hdeps { on := 7, ground := Ground.data } (by simp) rfl) (hdeps { on := 4, ground := Ground.guard } (by simp) rfl)
    | 9, ho, _ =>
      have e : o = dk7_o9 := (Option.some.inj ho).symm
      subst e
      exact dkB_s9 gR oR m cR n cA i jm aB Q df w0 x w H (hdeps { on := 4, ground := Ground.guard } (by simp) rfl)
    | 10, ho, _ =>
      have e : o = dk7_o10 := (Option.some.inj ho).symm
      subst e
      exact dkB_s10 gR oR m cR n cA i jm aB Q df w0 x w H (hdeps { on := 4, ground := Ground.guard } (by simp) rfl)
    | 11, ho, _ =>
      have e : o = dk7_o11 := (Option.some.inj ho).symm
      subst e
      exact dkB_s11 gR oR m cR n cA i jm aB Q df w0 x w H (hdeps { on := 9, ground := Ground.data } (by simp) rfl) (hdeps { on := 10, ground := Ground.data } (by simp) rfl) (hdeps { on := 4, ground := Ground.guard } (by simp) rfl)
    | 12, ho, _ =>
      have e : o = dk7_o12 := (Option.some.inj ho).symm
      subst e
      exact dkB_s12 gR oR m cR n cA i jm aB Q df w0 x w H (hdeps { on := 11, ground := Ground.data } (by simp) rfl) (hdeps { on := 4, ground := Ground.guard } (by simp) rfl)
    | 13, ho, _ =>
      have e : o = dk7_o13 := (Option.some.inj ho).symm
      subst e
      exact dkB_s13 gR oR m cR n cA i jm aB Q df w0 x w H (hdeps { on := 8, ground := Ground.data } (by simp) rfl) (hdeps { on := 12, ground := Ground.data } (by simp) rfl) (hdeps { on := 4, ground := Ground.guard } (by simp) rfl)
    | 14, ho, _ =>
      have e : o = dk7_o14 := (Option.some.inj ho).symm
      subst e
      exact dkB_s14 gR oR m cR n cA i jm aB Q df w0 x w H (hdeps { on := 13, ground := Ground.data } (by simp) rfl) (hdeps { on := 4, ground := Ground.guard } (by simp) rfl)
    | 15, ho, _ =>
      have e : o = dk7_o15 := (Option.some.inj ho).symm
      subst e
      exact dkB_s15 gR oR m cR n cA i jm aB Q df w0 x w H (hdeps { on := 4, ground := Ground.data } (by simp) rfl) (hdeps { on := 14, ground := Ground.data } (by simp) rfl)
    | 16, ho, _ =>
      have e : o = dk7_o16 := (Option.some.inj ho).symm
      subst e
      exact dkB_s16 gR oR m cR n cA i jm aB Q df w0 x w H (hdeps { on := 15, ground := Ground.data } (by simp) rfl)
    | 17, ho, _ =>
      have e : o = dk7_o17 := (Option.some.inj ho).symm
      subst e
      exact dkB_s17 gR oR m cR n cA i jm aB Q df w0 x w H (hdeps { on := 16, ground := Ground.guard } (by simp) rfl)
    | 18, ho, _ =>
      have e : o = dk7_o18 := (Option.some.inj ho).symm
      subst e
      exact dkB_s18 gR oR m cR n cA i jm aB Q df w0 x w H (hdeps { on := 16, ground := Ground.guard } (by simp) rfl)
    | 19, ho, _ =>
      have e : o = dk7_o19 := (Option.some.inj ho).symm
      subst e
      exact dkB_s19 gR oR m cR n cA i jm aB Q df w0 x w H (hdeps { on := 18, ground := Ground.data } (by simp) rfl) (hdeps { on := 16, ground := Ground.guard } (by simp) rfl)
    | 20, ho, _ =>
      have e : o = dk7_o20 := (Option.some.inj ho).symm
      subst e
      exact dkB_s20 gR oR m cR n cA i jm aB Q df w0 x w H (hdeps { on := 17, ground := Ground.data } (by simp) rfl) (hdeps { on := 19, ground := Ground.data } (by simp) rfl) (hdeps { on := 16, ground := Ground.guard } (by simp) rfl)
    | 21, ho, _ =>
      have e : o = dk7_o21 := (Option.some.inj ho).symm
      subst e
      exact dkB_s21 gR oR m cR n cA i jm aB Q df w0 x w H (hdeps { on := 20, ground := Ground.data } (by simp) rfl) (hdeps { on := 16, ground := Ground.guard } (by simp) rfl)
    | 22, ho, _ =>
      have e : o = dk7_o22 := (Option.some.inj ho).symm
      subst e
      exact dkB_s22 gR oR m cR n cA i jm aB Q df w0 x w H (hdeps { on := 21, ground := Ground.guard } (by simp) rfl)
    | 23, ho, _ =>
      have e : o = dk7_o23 := (Option.some.inj ho).symm
      subst e
      exact dkB_s23 gR oR m cR n cA i jm aB Q df w0 x w H (hdeps { on := 21, ground := Ground.guard } (by simp) rfl)
    | 24, ho, _ =>
      have e : o = dk7_o24 := (Option.some.inj ho).symm
      subst e
      exact dkB_s24 gR oR m cR n cA i jm aB Q df w0 x w H (hdeps { on := 22, ground := Ground.data } (by simp) rfl) (hdeps { on := 23, ground := Ground.data } (by simp) rfl) (hdeps { on := 21, ground := Ground.guard } (by simp) rfl)
    | 25, ho, _ =>
      have e : o = dk7_o25 := (Option.some.inj ho).symm
      subst e
      exact dkB_s25 gR oR m cR n cA i jm aB Q df w0 x w H (hdeps { on := 24, ground := Ground.data } (by simp) rfl) (hdeps { on := 21, ground := Ground.guard } (by simp) rfl)
    | 26, ho, _ =>
      have e : o = dk7_o26 := (Option.some.inj ho).symm
      subst e
      exact dkB_s26 gR oR m cR n cA i jm aB Q df w0 x w H (hdeps { on := 21, ground := Ground.guard } (by simp) rfl)
    | 27, ho, _ =>
      have e : o = dk7_o27 := (Option.some.inj ho).symm
      subst e
      exact dkB_s27 gR oR m cR n cA i jm aB Q df w0 x w H (hdeps { on := 21, ground := Ground.guard } (by simp) rfl)
    | 28, ho, _ =>
      have e : o = dk7_o28 := (Option.some.inj ho).symm
      subst e
      exact dkB_s28 gR oR m cR n cA i jm aB Q df w0 x w H (hdeps { on := 27, ground := Ground.data } (by simp) rfl) (hdeps { on := 21, ground := Ground.guard } (by simp) rfl)
    | 29, ho, _ =>
      have e : o = dk7_o29 := (Option.some.inj ho).symm
      subst e
      exact dkB_s29 gR oR m cR n cA i jm aB Q df w0 x w H (hdeps { on := 26, ground := Ground.data } (by simp) rfl) (hdeps { on := 28, ground := Ground.data } (by simp) rfl) (hdeps { on := 21, ground := Ground.guard } (by simp) rfl)
    | 30, ho, _ =>
      have e : o = dk7_o30 := (Option.some.inj ho).symm
      subst e
      exact dkB_s30 gR oR m cR n cA i jm aB Q df w0 x w H (hdeps { on := 29, ground := Ground.data } (by simp) rfl) (hdeps { on := 21, ground := Ground.guard } (by simp) rfl)
    | 31, ho, _ =>
      have e : o = dk7_o31 := (Option.some.inj ho).symm
      subst e
      exact dkB_s31 gR oR m cR n cA i jm aB Q df w0 x w H (hdeps { on := 25, ground := Ground.data } (by simp) rfl) (hdeps { on := 30, ground := Ground.data } (by simp) rfl) (hdeps { on := 21, ground := Ground.guard } (by simp) rfl)
    | 32, ho, _ =>
      have e : o = dk7_o32 := (Option.some.inj ho).symm
      subst e
      exact dkB_s32 gR oR m cR n cA i jm aB Q df w0 x w H (hdeps { on := 31, ground := Ground.data } (by simp) rfl) (hdeps { on := 21, ground := Ground.guard } (by simp) rfl)
    | 33, ho, _ =>
      have e : o = dk7_o33 := (Option.some.inj ho).symm
      subst e
      exact dkB_s33 gR oR m cR n cA i jm aB Q df w0 x w H (hdeps { on := 21, ground := Ground.data } (by simp) rfl) (hdeps { on := 32, ground := Ground.data } (by simp) rfl) (hdeps { on := 16, ground := Ground.guard } (by simp) rfl)
    | 34, ho, _ =>
      have e : o = dk7_o34 := (Option.some.inj ho).symm
      subst e
      exact dkB_s34 gR oR m cR n cA i jm aB Q df w0 x w H (hdeps { on := 16, ground := Ground.data } (by simp) rfl) (hdeps { on := 33, ground := Ground.data } (by simp) rfl)
    | k + 35, _, hj => omega
  · intro x w hB hdef hsz hs hv
    have hx := frame_sets x.tmps t0 hsz [23, 24, 25, 26, 27, 28, 29, 30, 31, 32, 33, 34, 35, 36, 37, 38, 39, 40, 41, 42, 43, 44, 45, 46, 47, 48, 49, 50, 51, 52, 53, 54, 55, 56, 57] (fun s hn => hs s (fun j hj e => hn (by rw [e]; exact dk7_slots j hj)))
    have hq := hQ (fun d => x.tmps.getD d undef) w hB (hv 34 (by decide))
    obtain ⟨T, Df⟩ := x
    dsimp only at hx hdef hq
    subst hdef
    rw [← hx] at hq
    exact hq
end Go.Proofs.Ytpmldopbjlnknaa

/-
  The kit's KeptFile, KeptFiles.
-/
namespace Go.Proofs.Ytpmldopbjlnknaa
open Go.RowKit Go.Shelf

set_option maxRecDepth 100000 in
set_option maxHeartbeats 1000000 in
theorem sameFile_any (T : List UInt8) (l : Nat) (L : List Nat) (pa pb : Option Addr) (ca cb : Nat) (w : World) (hl : L.length = l) (hL : l ≤ 9223372036854775807) (ha : BL w pa L) (hb : BL w pb L) :
    Calls Try.prog 35 #[.agg #[by8 T, .slice pa l ca], .agg #[by8 T, .slice pb l cb]] w fun e w' => e = .returned (.bool true) ∧ Below w.heap.size w w' := by
  have hs := fun (W : World) (hW : Below w.heap.size w W) => sameBytes_any pa pb l ca cb L W hl hL (ha.below hW) (hb.below hW)
  unfold by8
  obtain ⟨W1, hW1⟩ : ∃ W1, w.alloc (.cells #[.string ⟨T.toArray⟩, .slice pa l ca] 46) = W1 := ⟨_, rfl⟩
  have hB1 : Below w.heap.size w W1 := by rw [← hW1]; exact below_alloc _ _
  have hs1 : W1.heap.size = w.heap.size + 1 := by rw [← hW1]; simp
  have h1 : W1.heap[w.heap.size]? = some (.cells #[.string ⟨T.toArray⟩, .slice pa l ca] 46 (0, 0)) := by rw [← hW1]; exact heap_alloc_new _ _
  obtain ⟨W2, hW2⟩ : ∃ W2, W1.alloc (.cells #[.string ⟨T.toArray⟩, .slice pb l cb] 46) = W2 := ⟨_, rfl⟩
  have hB2 : Below W1.heap.size W1 W2 := by rw [← hW2]; exact below_alloc _ _
  have h2 : W2.heap[W1.heap.size]? = some (.cells #[.string ⟨T.toArray⟩, .slice pb l cb] 46 (0, 0)) := by rw [← hW2]; exact heap_alloc_new _ _
  have h12 := (hB2.block _ (block_lt h1)).trans h1
  obtain ⟨e0, e1, _, _⟩ := cells2f h12
  obtain ⟨e2, e3, _, _⟩ := cells2f h2
  have hB : Below w.heap.size w W2 := hB1.trans (hB2.mono hB1.size)
  have hs2 := hs W2 hB
  have HS1 := hide hs1
  have mP : (T == T) = true := beq_self_eq_true _
  clear ha hb hs h1 h2 h12 hs1 hL
  go_enter Try.func35, Try.ntmps35
  go_wp2_with fail
  refine hs2.mono ?_
  rintro e w' ⟨rfl, hb⟩
  go_wp2_with fail
  go_ret
  exact ⟨rfl, hB.trans (hb.mono hB.size)⟩
set_option maxRecDepth 100000 in
set_option maxHeartbeats 1000000 in
theorem keptFile_any (T : List UInt8) (l h pc : Nat) (L : List Nat) (pp : Option Addr) (w : World) (hl : L.length = l) (hL : l ≤ 20000) (hb : Blk w h (l + 12) (lent (fun i => L.getD i 0) l)) (hp : BL w pp L) :
    Calls Try.prog 34 #[.agg #[by8 T, .slice (some ⟨h, 0, none⟩) l (l + 12)], .agg #[by8 T, .slice pp l pc]] w fun e w' => e = .returned (.bool true) ∧ Below w.heap.size w w' := by
  have hsame := fun (W : World) (h1 : BL W (some ⟨h, 0, none⟩) L) (h2 : BL W pp L) => sameFile_any T l L (some ⟨h, 0, none⟩) pp (l + 12) pc W hl (by omega) h1 h2
  unfold by8 at hsame ⊢
  generalize (⟨T.toArray⟩ : ByteArray) = TT at hsame ⊢
  obtain ⟨W1, hW1⟩ : ∃ W1, w.alloc (.cells #[.string TT, .slice (some ⟨h, 0, none⟩) l (l + 12)] 46) = W1 := ⟨_, rfl⟩
  have hB1 : Below w.heap.size w W1 := by rw [← hW1]; exact below_alloc _ _
  have hs1 : W1.heap.size = w.heap.size + 1 := by rw [← hW1]; simp
  have h1 : W1.heap[w.heap.size]? = some (.cells #[.string TT, .slice (some ⟨h, 0, none⟩) l (l + 12)] 46 (0, 0)) := by rw [← hW1]; exact heap_alloc_new _ _
  obtain ⟨W2, hW2⟩ : ∃ W2, W1.alloc (.cells #[.string TT, .slice pp l pc] 46) = W2 := ⟨_, rfl⟩
  have hB2 : Below W1.heap.size W1 W2 := by rw [← hW2]; exact below_alloc _ _
  have h2 : W2.heap[W1.heap.size]? = some (.cells #[.string TT, .slice pp l pc] 46 (0, 0)) := by rw [← hW2]; exact heap_alloc_new _ _
  have h12 := (hB2.block _ (block_lt h1)).trans h1
  have hB : Below w.heap.size w W2 := hB1.trans (hB2.mono hB1.size)
  obtain ⟨c0, c1, _, _⟩ := cells2f h12
  obtain ⟨d0, d1, _, _⟩ := cells2f h2
  have hz : Byt w pp l (fun i => L.getD i 0) := by have := hp; unfold BL at this; rw [hl] at this; exact this
  have hbl : BL w (some ⟨h, 0, none⟩) L := by
    refine BL.mk hp.lt (.inr ⟨h, 0, rfl, fun i hi => ?_⟩)
    have := hb.cell (i := i) (by omega)
    unfold lent at this
    rw [if_pos (by omega)] at this
    rw [Nat.zero_add]
    exact this
  have hsm := hsame W2 (hbl.below hB) (hp.below hB)
  have hkb := fun W hW => keptBytes_any h pp l pc (fun i => L.getD i 0) W (by omega) (hb.below (w' := W) hW) (hz.below hW)
  have H := hide (And.intro h12 (And.intro h2 hB))
  clear hsame hb hp hz hbl h1 h2 h12 hs1 hB1 hB2 hB
  go_enter Try.func34, Try.ntmps34
  go_wp2_with fail
  refine hsm.mono ?_
  rintro e w3 ⟨rfl, hB3⟩
  have hB23 := H.out.2.2.trans (hB3.mono H.out.2.2.size)
  have hk := hkb w3 hB23
  obtain ⟨c0, c1, _, _⟩ := cells2f ((hB3.block _ (block_lt H.out.1)).trans H.out.1)
  obtain ⟨d0, d1, _, _⟩ := cells2f ((hB3.block _ (block_lt H.out.2.1)).trans H.out.2.1)
  have H3 := hide hB23
  clear hkb hsm hB3 hB23
  go_wp2_with fail
  refine hk.mono ?_
  rintro e w4 ⟨rfl, hB4⟩
  go_wp2_with fail
  go_ret
  exact ⟨rfl, H3.out.trans (hB4.mono H3.out.size)⟩

set_option maxRecDepth 100000 in
set_option maxHeartbeats 1000000 in
theorem keptFiles_any (R : Nat) (a : Option Addr) (n ca : Nat) (P : Nat → Fil) (Qs : List Fil) (w : World) (hn : n ≤ 10000) (hl : ∀ i, i < n → (P i).B.length ≤ 10000) (ha : Fils w a n P) (hQ : LentF w R n P Qs) :
    Calls Try.prog 14 #[.slice (some ⟨R, 0, none⟩) n (n + 12), .slice a n ca] w fun e w' => e = .returned (.bool true) ∧ Below w.heap.size w w' := by
  have hn0 : (0 : Int) ≤ (n : Int) := by omega
  have hn1 : (n : Int) ≤ 10000 := by omega
  have HA := hide ha
  have HQ := hide hQ
  have HL := hide hl
  clear ha hQ hl
  go_enter Try.func14, Try.ntmps14
  go_wp2
  go_loopg [6] (n + 12) (fun q s6 wr => ∃ k : Nat, k + q = n + 12 ∧ s6 = .int .i64 k ∧ Below w.heap.size w wr)
  case atStart => exact ⟨0, by omega, rfl, Below.refl _ _⟩
  case round =>
    obtain ⟨k, hkq, rfl, hbr⟩ := hrel
    have hk0 : (0 : Int) ≤ (k : Int) := by omega
    have HBR := hide hbr
    clear hbr
    cases gk with
    | zero =>
      have hkz : ¬ ((k : Int) < (n : Int) + 12) := by omega
      go_wp2
      go_ret
      exact ⟨rfl, HBR.out⟩
    | succ q =>
      have hkz : (k : Int) < (n : Int) + 12 := by omega
      have hQr := HQ.out.below HBR.out
      obtain ⟨e0, e1⟩ := rcF_get Qs k (by have := HQ.out.1; omega)
      have hc := hQr.2.1.cells (g := R) rfl
      have x0 := hc _ _ e0
      have x1 := hc _ _ e1
      rw [add_none' _ rfl] at x0 x1
      by_cases hkn : k < n
      · obtain ⟨b, off, rfl, ⟨y0, y1⟩, ok⟩ := (HA.out.below HBR.out).cells k hkn
        obtain ⟨hQT, hQB, h, _, hpB, hcB, hblk⟩ := hQr.2.2.1 k hkn
        have hll := HL.out k hkn
        rw [hQT] at x0
        rw [hpB, hQB, hcB] at x1
        have cs := fun W hW => keptFile_any (P k).P (P k).B.length h (P k).cB (P k).B (P k).pB W rfl (by omega) (hblk.below (w' := W) hW) (ok.bB.below hW)
        have HK : Hid (k < n ∧ k < n + 12 ∧ n + 12 ≤ 20000) := ⟨hkn, by omega, by omega⟩
        have HX := hide (And.intro x0 (And.intro x1 (And.intro y0 (And.intro y1 cs))))
        clear hQr hc e0 e1 ok hQT hQB hpB hcB hblk hll hkn x0 x1 y0 y1 cs
        go_wp2
        refine (wpIn_wide (n := 0)).1 (dkA wide_plain R 0 (n + 12) (n + 12) b off n ca k (P k).B.length h (P k).cB (P k).P (P k).pB _ _ _ _ rfl rfl rfl rfl HK HX.out.1 HX.out.2.1 HX.out.2.2.1 HX.out.2.2.2.1 HX.out.2.2.2.2 ?_)
        intro vs w2 hB2 h57
        simp only [List.foldl_cons, List.foldl_nil, List.setIfInBounds_toArray, List.set_cons_succ, List.set_cons_zero]
        rw [h57]
        have HB := hide (HBR.out.trans (hB2.mono HBR.out.size))
        clear HX hB2 h57
        go_wp2_with fail
        go_roundg q
        case measure => omega
        case rel => exact ⟨k + 1, by omega, by go_num, HB.out⟩
      · obtain ⟨j, hj⟩ : ∃ j, k = n + j := ⟨k - n, by omega⟩
        have hm := hQr.2.2.2 j (by omega)
        rw [← hj] at hm
        rw [hm] at x0 x1
        have HK : Hid (k = n + j ∧ k < n + 12 ∧ n + 12 ≤ 20000) := ⟨hj, by omega, by omega⟩
        have HX := hide (And.intro x0 x1)
        clear hQr hc e0 e1 hm hkn hj x0 x1
        go_wp2
        refine (wpIn_wide (n := 0)).1 (dkB wide_plain R 0 (n + 12) (n + 12) n ca k j a _ _ _ _ rfl rfl rfl rfl HK HX.out.1 HX.out.2 ?_)
        intro vs w2 hB2 h57
        simp only [List.foldl_cons, List.foldl_nil, List.setIfInBounds_toArray, List.set_cons_succ, List.set_cons_zero]
        rw [h57]
        have HB := hide (HBR.out.trans (hB2.mono HBR.out.size))
        clear HX hB2 h57
        go_wp2_with fail
        go_roundg q
        case measure => omega
        case rel => exact ⟨k + 1, by omega, by go_num, HB.out⟩
end Go.Proofs.Ytpmldopbjlnknaa

/-
  DocFiles's walk.
-/
namespace Go.Proofs.Ytpmldopbjlnknaa
open Go.RowKit Go.Shelf

theorem filesL_congr {f g : Nat → Fil} : ∀ n, (∀ i, i < n → (f i).P = (g i).P ∧ (f i).B = (g i).B) → filesL f n = filesL g n
  | 0, _ => rfl
  | n + 1, h => by
    rw [filesL_succ, filesL_succ, filesL_congr n (fun i hi => h i (by omega)), (h n (by omega)).1, (h n (by omega)).2]
set_option maxRecDepth 100000 in
set_option maxHeartbeats 8000000 in
theorem docFiles_any (a : Option Addr) (n ca : Nat) (f : Nat → Fil) (w : World) (hn : n ≤ 140737488351232) (hfl : Fils w a n f) (hl : ∀ i, i < n → (f i).P.length ≤ 140737488351232 ∧ (f i).B.length ≤ 140737488351232) :
    Calls Try.prog 3 #[.slice a n ca] w fun e w' => e = .returned (.bool true) ∧ Below w.heap.size w w' := by
  have hcn := filesOf_any a n ca f w hn hfl hl
  have HF := hide (And.intro hfl hl)
  clear hfl hl
  go_enter Try.func3, Try.ntmps3
  go_wp2_with fail
  refine hcn.mono ?_
  rintro e w2 ⟨⟨r, rfl, hr⟩, hb2⟩
  have HB2 := hide hb2
  clear hcn hb2
  by_cases hbig : 4000 < r
  · have hz : (4000 : Int) < (r : Int) := by omega
    clear hr
    go_wp2_with fail
    refine (awake22_any w2).mono ?_
    rintro e w3 ⟨rfl, hb3⟩
    have HB3 := hide (HB2.out.trans (hb3.mono HB2.out.size))
    clear hb3
    go_wp2_with fail
    go_ret
    exact ⟨rfl, HB3.out⟩
  have hc := hr (by omega)
  have hz : (r : Int) ≤ 4000 := by omega
  clear hr
  obtain ⟨hcl, hci⟩ := cntF_le f n
  have hP : ∀ i, i < n → (f i).P.length ≤ 1000000 ∧ (f i).B.length ≤ 10000 := fun i hi => by have := hci i hi; omega
  have hn4 : n ≤ 4000 := by omega
  have HP := hide hP
  clear hcl hci hc hP
  have hln := lentFiles_any a n ca f w2 (HF.out.1.below HB2.out) (by omega) (fun i hi => (HP.out i hi).2)
  go_wp2_with fail
  refine hln.mono ?_
  rintro e w3 ⟨rfl, ⟨Qs, hQ⟩, hb3⟩
  obtain ⟨R, hR⟩ : ∃ R, w2.heap.size = R := ⟨_, rfl⟩
  rw [hR] at hQ ⊢
  have HB3 := hide (HB2.out.trans (hb3.mono HB2.out.size))
  have hfq : Fils w3 (some ⟨R, 0, none⟩) n (fun i => Qs.getD i dftF) := hQ.fils (fun i hi => ⟨by have := (HP.out i hi).2; omega, by
    obtain ⟨_, _, _, _, hok⟩ := HF.out.1.cells i hi
    exact hok.bB.lt⟩)
  have heq : filesL (fun i => Qs.getD i dftF) n = filesL f n := filesL_congr n (fun i hi => ⟨(hQ.2.2.1 i hi).1, (hQ.2.2.1 i hi).2.1⟩)
  have hPq : ∀ i, i < n → (Qs.getD i dftF).P.length ≤ 1000000 := fun i hi => by rw [(hQ.2.2.1 i hi).1]; exact (HP.out i hi).1
  have HQ := hide (And.intro hQ (And.intro hfq (And.intro heq hPq)))
  clear hln hb3 hQ hfq heq hPq hR
  cases hrf : rightF (filesL f n) with
  | false =>
    have hof := docOf_bad (some ⟨R, 0, none⟩) n (n + 12) (fun i => Qs.getD i dftF) w3 (by omega) HQ.out.2.1 HQ.out.2.2.2 (by rw [HQ.out.2.2.1]; exact hrf)
    have HR := hide hrf
    clear hrf
    go_wp2_with fail
    refine hof.mono ?_
    rintro e w4 ⟨rfl, hb4⟩
    have HB4 := hide (And.intro (HB3.out.trans (hb4.mono HB3.out.size)) hb4)
    have hrof := refDocOf_bad a n ca f w4 hn (HF.out.1.below HB4.out.1) (fun i hi => (HP.out i hi).1) HR.out
    clear hof hb4
    go_wp2_with fail
    refine hrof.mono ?_
    rintro e w5 ⟨rfl, hb5⟩
    have HB5 := hide (And.intro (HB4.out.1.trans (hb5.mono HB4.out.1.size)) (HB4.out.2.trans (hb5.mono HB4.out.2.size)))
    have hfi := rightFiles_l (some ⟨R, 0, none⟩) n (n + 12) (fun i => Qs.getD i dftF) w5 (by omega) (HQ.out.2.1.below HB5.out.2) HQ.out.2.2.2
    rw [HQ.out.2.2.1, HR.out] at hfi
    clear hrof hb5
    go_wp2_with fail
    refine hfi.mono ?_
    rintro e w6 ⟨rfl, hb6⟩
    have HB6 := hide (And.intro (HB5.out.1.trans (hb6.mono HB5.out.1.size)) (HB5.out.2.trans (hb6.mono HB5.out.2.size)))
    have hrfi := refFiles_any a n ca f w6 hn (HF.out.1.below HB6.out.1).row (fun i hi => (HP.out i hi).1)
    rw [HR.out] at hrfi
    clear hfi hb6
    go_wp2_with fail
    refine hrfi.mono ?_
    rintro e w7 ⟨rfl, hb7⟩
    have HB7 := hide (And.intro (HB6.out.1.trans (hb7.mono HB6.out.1.size)) (HB6.out.2.trans (hb7.mono HB6.out.2.size)))
    have hsd := sameDocs_any none none 0 0 [] w7 (by simp) (.inl rfl) (.inl rfl)
    clear hrfi hb7
    go_wp2_with fail
    refine hsd.mono ?_
    rintro e w8 ⟨rfl, hb8⟩
    have HB8 := hide (And.intro (HB7.out.1.trans (hb8.mono HB7.out.1.size)) (HB7.out.2.trans (hb8.mono HB7.out.2.size)))
    have hk := keptFiles_any R a n ca f Qs w8 (by omega) (fun i hi => (HP.out i hi).2) (HF.out.1.below HB8.out.1) (HQ.out.1.below HB8.out.2)
    clear hsd hb8
    go_wp2_with fail
    refine hk.mono ?_
    rintro e w9 ⟨rfl, hb9⟩
    have HB9 := hide (HB8.out.1.trans (hb9.mono HB8.out.1.size))
    clear hk hb9
    go_wp2_with fail
    refine (awake22_any w9).mono ?_
    rintro e w10 ⟨rfl, hb10⟩
    have HB10 := hide (HB9.out.trans (hb10.mono HB9.out.size))
    clear hb10
    go_wp2_with fail
    go_ret
    exact ⟨rfl, HB10.out⟩
  | true =>
    have hof := docOf_ok (some ⟨R, 0, none⟩) n (n + 12) (fun i => Qs.getD i dftF) w3 (by omega) HQ.out.2.1 HQ.out.2.2.2 (by rw [HQ.out.2.2.1]; exact hrf)
    rw [HQ.out.2.2.1] at hof
    obtain ⟨ds, hds⟩ : ∃ ds, (filesL f n).map docF = ds := ⟨_, rfl⟩
    rw [hds] at hof
    have hdl : ds.length = n := by rw [← hds, List.length_map, filesL_length]
    have HR := hide (And.intro hrf (And.intro hds hdl))
    clear hrf hds
    go_wp2_with fail
    refine hof.mono ?_
    rintro e w4 ⟨⟨v4, rfl, ho4⟩, hb4⟩
    obtain ⟨A4, C4, rfl, hd4, _, _, _⟩ := ho4.docs
    have HB4 := hide (And.intro (HB3.out.trans (hb4.mono HB3.out.size)) hb4)
    have HD4 := hide hd4
    have hrof := refDocOf_ok a n ca f w4 hn (HF.out.1.below HB4.out.1) (fun i hi => (HP.out i hi).1) HR.out.1
    rw [HR.out.2.1] at hrof
    rw [HR.out.2.2]
    clear hof hb4 ho4 hd4 hdl
    go_wp2_with fail
    refine hrof.mono ?_
    rintro e w5 ⟨⟨v5, rfl, ho5⟩, hb5⟩
    obtain ⟨A5, C5, rfl, hd5, _, _, _⟩ := ho5.docs
    rw [HR.out.2.2]
    have HB5 := hide (And.intro (HB4.out.1.trans (hb5.mono HB4.out.1.size)) (HB4.out.2.trans (hb5.mono HB4.out.2.size)))
    have HD5 := hide (And.intro hd5 (HD4.out.below hb5))
    have hfi := rightFiles_l (some ⟨R, 0, none⟩) n (n + 12) (fun i => Qs.getD i dftF) w5 (by omega) (HQ.out.2.1.below HB5.out.2) HQ.out.2.2.2
    rw [HQ.out.2.2.1, HR.out.1] at hfi
    clear hrof hb5 ho5 hd5
    go_wp2_with fail
    refine hfi.mono ?_
    rintro e w6 ⟨rfl, hb6⟩
    have HB6 := hide (And.intro (HB5.out.1.trans (hb6.mono HB5.out.1.size)) (And.intro (HB5.out.2.trans (hb6.mono HB5.out.2.size)) hb6))
    have hrfi := refFiles_any a n ca f w6 hn (HF.out.1.below HB6.out.1).row (fun i hi => (HP.out i hi).1)
    rw [HR.out.1] at hrfi
    clear hfi hb6
    go_wp2_with fail
    refine hrfi.mono ?_
    rintro e w7 ⟨rfl, hb7⟩
    have HB7 := hide (And.intro (HB6.out.1.trans (hb7.mono HB6.out.1.size)) (HB6.out.2.1.trans (hb7.mono HB6.out.2.1.size)))
    have hsd := sameDocs_any A4 A5 C4 C5 ds w7 (by rw [HR.out.2.2]; omega) ((HD5.out.2.below HB6.out.2.2).below hb7) ((HD5.out.1.below HB6.out.2.2).below hb7)
    rw [HR.out.2.2] at hsd
    clear hrfi hb7
    go_wp2_with fail
    refine hsd.mono ?_
    rintro e w8 ⟨rfl, hb8⟩
    have HB8 := hide (And.intro (HB7.out.1.trans (hb8.mono HB7.out.1.size)) (HB7.out.2.trans (hb8.mono HB7.out.2.size)))
    have hk := keptFiles_any R a n ca f Qs w8 (by omega) (fun i hi => (HP.out i hi).2) (HF.out.1.below HB8.out.1) (HQ.out.1.below HB8.out.2)
    clear hsd hb8
    go_wp2_with fail
    refine hk.mono ?_
    rintro e w9 ⟨rfl, hb9⟩
    have HB9 := hide (HB8.out.1.trans (hb9.mono HB8.out.1.size))
    clear hk hb9
    go_wp2_with fail
    refine (awake22_any w9).mono ?_
    rintro e w10 ⟨rfl, hb10⟩
    have HB10 := hide (HB9.out.trans (hb10.mono HB9.out.size))
    clear hb10
    go_wp2_with fail
    go_ret
    exact ⟨rfl, HB10.out⟩
end Go.Proofs.Ytpmldopbjlnknaa
