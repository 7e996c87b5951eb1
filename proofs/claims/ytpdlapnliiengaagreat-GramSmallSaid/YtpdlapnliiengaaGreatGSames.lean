/-
  SamePostings' drawn region (written by tools/gen-gsame.py).
-/
import Derived.Test.YtpdlapnliiengaaGreatGRefM
import Derived.Test.YtpdlapnliiengaaGreatRegT
import Derived.Deep.QuietTactic
import Derived.BigQuiet
namespace Go.Proofs.YtpdlapnliiengaaGreat
open Go.RowKit Go.Shelf
set_option linter.unusedVariables false
set_option linter.unusedSimpArgs false

abbrev gsameR_o0 : Oper := { dst := some 17, op := Op.move (Operand.tmp 0), type := 27, pos := "same.go:300", after := #[], guard := none }
abbrev gsameR_o1 : Oper := { dst := some 18, op := Op.move (Operand.tmp 5), type := 3, pos := "same.go:300", after := #[], guard := none }
abbrev gsameR_o2 : Oper := { dst := some 19, op := Op.indexAddr 27 (Operand.tmp 17) (Operand.tmp 18), type := 0, pos := "same.go:300", after := #[{ on := 0, ground := Ground.data }, { on := 1, ground := Ground.data }], guard := none }
abbrev gsameR_o3 : Oper := { dst := some 20, op := Op.load 42 (Operand.tmp 19), type := 42, pos := "same.go:300", after := #[{ on := 2, ground := Ground.data }], guard := none }
abbrev gsameR_o4 : Oper := { dst := some 21, op := Op.move (Operand.tmp 1), type := 27, pos := "same.go:300", after := #[], guard := none }
abbrev gsameR_o5 : Oper := { dst := some 22, op := Op.move (Operand.tmp 5), type := 3, pos := "same.go:300", after := #[], guard := none }
abbrev gsameR_o6 : Oper := { dst := some 23, op := Op.indexAddr 27 (Operand.tmp 21) (Operand.tmp 22), type := 0, pos := "same.go:300", after := #[{ on := 4, ground := Ground.data }, { on := 5, ground := Ground.data }], guard := none }
abbrev gsameR_o7 : Oper := { dst := some 24, op := Op.load 42 (Operand.tmp 23), type := 42, pos := "same.go:300", after := #[{ on := 6, ground := Ground.data }], guard := none }
abbrev gsameR_o8 : Oper := { dst := some 25, op := Op.call { callee := Callee.value (Operand.func 25), args := #[Operand.tmp 20, Operand.tmp 24], argTypes := #[42, 42] }, type := 4, pos := "same.go:300", after := #[{ on := 3, ground := Ground.data }, { on := 7, ground := Ground.data }], guard := none }
abbrev gsameR_o9 : Oper := { dst := some 26, op := Op.unOp UnOp.not 4 (Operand.tmp 25), type := 4, pos := "same.go:300", after := #[{ on := 8, ground := Ground.data }], guard := none }
def gsameR_ops : Array Oper := #[gsameR_o0, gsameR_o1, gsameR_o2, gsameR_o3, gsameR_o4, gsameR_o5, gsameR_o6, gsameR_o7, gsameR_o8, gsameR_o9]
abbrev gsameR_mem (s : Nat) : Prop := s ∈ [17, 18, 19, 20, 21, 22, 23, 24, 25, 26]
set_option maxRecDepth 100000 in
theorem gsameR_slots : ∀ j, j < 10 → gsameR_mem (slotOf gsameR_ops j) := by
  intro j hj
  match j, hj with
  | 0, _ => exact (by decide : gsameR_mem 17)
  | 1, _ => exact (by decide : gsameR_mem 18)
  | 2, _ => exact (by decide : gsameR_mem 19)
  | 3, _ => exact (by decide : gsameR_mem 20)
  | 4, _ => exact (by decide : gsameR_mem 21)
  | 5, _ => exact (by decide : gsameR_mem 22)
  | 6, _ => exact (by decide : gsameR_mem 23)
  | 7, _ => exact (by decide : gsameR_mem 24)
  | 8, _ => exact (by decide : gsameR_mem 25)
  | 9, _ => exact (by decide : gsameR_mem 26)
  | k + 10, hj => omega
def gsameR_val (g1 g2 N C1 C2 i n1 c1 c2 : Nat) (T : ByteArray) (a1 a2 : Option Addr) : Nat → Value → World → Prop
  | 0, v, w => v = .slice (some ⟨g1, 0, none⟩) N C1
  | 1, v, w => v = .int .i64 (i : Nat)
  | 2, v, w => v = .pointer (some ⟨g1, i * 2, none⟩)
  | 3, v, w => v = .agg #[.string T, .slice a1 n1 c1]
  | 4, v, w => v = .slice (some ⟨g2, 0, none⟩) N C2
  | 5, v, w => v = .int .i64 (i : Nat)
  | 6, v, w => v = .pointer (some ⟨g2, i * 2, none⟩)
  | 7, v, w => v = .agg #[.string T, .slice a2 n1 c2]
  | 8, v, w => v = .bool true
  | 9, v, w => v = .bool false
  | _, _, _ => True
theorem gsameR_below (g1 g2 N C1 C2 i n1 c1 c2 : Nat) (T : ByteArray) (a1 a2 : Option Addr) (w w' : World) (hb : Below w.heap.size w w') : ∀ j v, gsameR_val g1 g2 N C1 C2 i n1 c1 c2 T a1 a2 j v w → gsameR_val g1 g2 N C1 C2 i n1 c1 c2 T a1 a2 j v w' := by
  intro j v h
  match j, h with
  | 0, h => exact h
  | 1, h => exact h
  | 2, h => exact h
  | 3, h => exact h
  | 4, h => exact h
  | 5, h => exact h
  | 6, h => exact h
  | 7, h => exact h
  | 8, h => exact h
  | 9, h => exact h
  | _ + 10, h => exact h
set_option maxRecDepth 100000 in
set_option maxHeartbeats 2000000 in
theorem gsameR_s0 {Fc : Fence} (hF : Wide Fc) {nC : Nat} (g1 g2 N C1 C2 i n1 c1 c2 : Nat) (T : ByteArray) (a1 a2 : Option Addr) (Q : Exit → Act → World → Prop) (df : List Deferred) (w0 : World)
    (hi : i < N) (h0 : w0.cell? ⟨g1, i * 2, none⟩ = some (.string T)) (h1 : w0.cell? ⟨g1, i * 2 + 1, none⟩ = some (.slice a1 n1 c1)) (h2 : w0.cell? ⟨g2, i * 2, none⟩ = some (.string T)) (h3 : w0.cell? ⟨g2, i * 2 + 1, none⟩ = some (.slice a2 n1 c2)) (hS : ∀ W, Below w0.heap.size w0 W → Calls Tryz.prog 25 #[.agg #[.string T, .slice a1 n1 c1], .agg #[.string T, .slice a2 n1 c2]] W fun e w' => e = .returned (.bool true) ∧ Below W.heap.size W w')
    (x : Act) (w : World) (hB : Below w0.heap.size w0 w) (hdef : x.defers = df) (u0 : x.tmps.getD 0 undef = .slice (some ⟨g1, 0, none⟩) N C1) (u1 : x.tmps.getD 1 undef = .slice (some ⟨g2, 0, none⟩) N C2) (u5 : x.tmps.getD 5 undef = .int .i64 (i : Nat))
    : wpOpIn Fc nC Tryz.prog gsameR_ops Q 0 (fun a' w' => ∃ v, a' = x.put (some 17) v ∧ (v = .slice (some ⟨g1, 0, none⟩) N C1) ∧ Below w.heap.size w w') x w := by
  have ho : gsameR_ops[0]? = some gsameR_o0 := rfl
  simp only [Array.getD_eq_getD_getElem?] at u0 u1 u5
  refine wpOpIn_plain ho rfl (oper_inK hF.fn (fun K hK => ?_))
  clear ho
  rw [Oper.semAt_plain Fc _ _ (by intro c h; cases h)]
  simp only [gsameR_o0]
  go_simp
  exact hK _ _ ⟨_, act_putD x hdef _ _, rfl, Below.refl _ _⟩
set_option maxRecDepth 100000 in
set_option maxHeartbeats 2000000 in
theorem gsameR_s1 {Fc : Fence} (hF : Wide Fc) {nC : Nat} (g1 g2 N C1 C2 i n1 c1 c2 : Nat) (T : ByteArray) (a1 a2 : Option Addr) (Q : Exit → Act → World → Prop) (df : List Deferred) (w0 : World)
    (hi : i < N) (h0 : w0.cell? ⟨g1, i * 2, none⟩ = some (.string T)) (h1 : w0.cell? ⟨g1, i * 2 + 1, none⟩ = some (.slice a1 n1 c1)) (h2 : w0.cell? ⟨g2, i * 2, none⟩ = some (.string T)) (h3 : w0.cell? ⟨g2, i * 2 + 1, none⟩ = some (.slice a2 n1 c2)) (hS : ∀ W, Below w0.heap.size w0 W → Calls Tryz.prog 25 #[.agg #[.string T, .slice a1 n1 c1], .agg #[.string T, .slice a2 n1 c2]] W fun e w' => e = .returned (.bool true) ∧ Below W.heap.size W w')
    (x : Act) (w : World) (hB : Below w0.heap.size w0 w) (hdef : x.defers = df) (u0 : x.tmps.getD 0 undef = .slice (some ⟨g1, 0, none⟩) N C1) (u1 : x.tmps.getD 1 undef = .slice (some ⟨g2, 0, none⟩) N C2) (u5 : x.tmps.getD 5 undef = .int .i64 (i : Nat))
    : wpOpIn Fc nC Tryz.prog gsameR_ops Q 1 (fun a' w' => ∃ v, a' = x.put (some 18) v ∧ (v = .int .i64 (i : Nat)) ∧ Below w.heap.size w w') x w := by
  have ho : gsameR_ops[1]? = some gsameR_o1 := rfl
  simp only [Array.getD_eq_getD_getElem?] at u0 u1 u5
  refine wpOpIn_plain ho rfl (oper_inK hF.fn (fun K hK => ?_))
  clear ho
  rw [Oper.semAt_plain Fc _ _ (by intro c h; cases h)]
  simp only [gsameR_o1]
  go_simp
  exact hK _ _ ⟨_, act_putD x hdef _ _, rfl, Below.refl _ _⟩
set_option maxRecDepth 100000 in
set_option maxHeartbeats 2000000 in
theorem gsameR_s2 {Fc : Fence} (hF : Wide Fc) {nC : Nat} (g1 g2 N C1 C2 i n1 c1 c2 : Nat) (T : ByteArray) (a1 a2 : Option Addr) (Q : Exit → Act → World → Prop) (df : List Deferred) (w0 : World)
    (hi : i < N) (h0 : w0.cell? ⟨g1, i * 2, none⟩ = some (.string T)) (h1 : w0.cell? ⟨g1, i * 2 + 1, none⟩ = some (.slice a1 n1 c1)) (h2 : w0.cell? ⟨g2, i * 2, none⟩ = some (.string T)) (h3 : w0.cell? ⟨g2, i * 2 + 1, none⟩ = some (.slice a2 n1 c2)) (hS : ∀ W, Below w0.heap.size w0 W → Calls Tryz.prog 25 #[.agg #[.string T, .slice a1 n1 c1], .agg #[.string T, .slice a2 n1 c2]] W fun e w' => e = .returned (.bool true) ∧ Below W.heap.size W w')
    (x : Act) (w : World) (hB : Below w0.heap.size w0 w) (hdef : x.defers = df) (u0 : x.tmps.getD 0 undef = .slice (some ⟨g1, 0, none⟩) N C1) (u1 : x.tmps.getD 1 undef = .slice (some ⟨g2, 0, none⟩) N C2) (u5 : x.tmps.getD 5 undef = .int .i64 (i : Nat))
    (p0 : gsameR_val g1 g2 N C1 C2 i n1 c1 c2 T a1 a2 0 (x.tmps.getD 17 undef) w)
    (p1 : gsameR_val g1 g2 N C1 C2 i n1 c1 c2 T a1 a2 1 (x.tmps.getD 18 undef) w)
    : wpOpIn Fc nC Tryz.prog gsameR_ops Q 2 (fun a' w' => ∃ v, a' = x.put (some 19) v ∧ (v = .pointer (some ⟨g1, i * 2, none⟩)) ∧ Below w.heap.size w w') x w := by
  have ho : gsameR_ops[2]? = some gsameR_o2 := rfl
  simp only [Array.getD_eq_getD_getElem?] at u0 u1 u5
  have q0 : x.tmps.getD 17 undef = .slice (some ⟨g1, 0, none⟩) N C1 := p0
  have q1 : x.tmps.getD 18 undef = .int .i64 (i : Nat) := p1
  simp only [Array.getD_eq_getD_getElem?] at q0 q1
  have i0 : (0 : Int) ≤ (i : Int) := by omega
  have i1 : (i : Int) < (N : Int) := by omega
  refine wpOpIn_plain ho rfl (oper_inK hF.fn (fun K hK => ?_))
  clear ho
  rw [Oper.semAt_plain Fc _ _ (by intro c h; cases h)]
  simp only [gsameR_o2]
  go_simp
  exact hK _ _ ⟨_, act_putD x hdef _ _, rfl, Below.refl _ _⟩
set_option maxRecDepth 100000 in
set_option maxHeartbeats 2000000 in
theorem gsameR_s3 {Fc : Fence} (hF : Wide Fc) {nC : Nat} (g1 g2 N C1 C2 i n1 c1 c2 : Nat) (T : ByteArray) (a1 a2 : Option Addr) (Q : Exit → Act → World → Prop) (df : List Deferred) (w0 : World)
    (hi : i < N) (h0 : w0.cell? ⟨g1, i * 2, none⟩ = some (.string T)) (h1 : w0.cell? ⟨g1, i * 2 + 1, none⟩ = some (.slice a1 n1 c1)) (h2 : w0.cell? ⟨g2, i * 2, none⟩ = some (.string T)) (h3 : w0.cell? ⟨g2, i * 2 + 1, none⟩ = some (.slice a2 n1 c2)) (hS : ∀ W, Below w0.heap.size w0 W → Calls Tryz.prog 25 #[.agg #[.string T, .slice a1 n1 c1], .agg #[.string T, .slice a2 n1 c2]] W fun e w' => e = .returned (.bool true) ∧ Below W.heap.size W w')
    (x : Act) (w : World) (hB : Below w0.heap.size w0 w) (hdef : x.defers = df) (u0 : x.tmps.getD 0 undef = .slice (some ⟨g1, 0, none⟩) N C1) (u1 : x.tmps.getD 1 undef = .slice (some ⟨g2, 0, none⟩) N C2) (u5 : x.tmps.getD 5 undef = .int .i64 (i : Nat))
    (p2 : gsameR_val g1 g2 N C1 C2 i n1 c1 c2 T a1 a2 2 (x.tmps.getD 19 undef) w)
    : wpOpIn Fc nC Tryz.prog gsameR_ops Q 3 (fun a' w' => ∃ v, a' = x.put (some 20) v ∧ (v = .agg #[.string T, .slice a1 n1 c1]) ∧ Below w.heap.size w w') x w := by
  have ho : gsameR_ops[3]? = some gsameR_o3 := rfl
  simp only [Array.getD_eq_getD_getElem?] at u0 u1 u5
  have q2 : x.tmps.getD 19 undef = .pointer (some ⟨g1, i * 2, none⟩) := p2
  simp only [Array.getD_eq_getD_getElem?] at q2
  have u := cell_thru h0 hB
  have v := cell_thru h1 hB
  refine wpOpIn_plain ho rfl (oper_inK hF.fn (fun K hK => ?_))
  clear ho
  rw [Oper.semAt_plain Fc _ _ (by intro c h; cases h)]
  simp only [gsameR_o3]
  go_simp
  exact hK _ _ ⟨_, act_putD x hdef _ _, rfl, Below.refl _ _⟩
set_option maxRecDepth 100000 in
set_option maxHeartbeats 2000000 in
theorem gsameR_s4 {Fc : Fence} (hF : Wide Fc) {nC : Nat} (g1 g2 N C1 C2 i n1 c1 c2 : Nat) (T : ByteArray) (a1 a2 : Option Addr) (Q : Exit → Act → World → Prop) (df : List Deferred) (w0 : World)
    (hi : i < N) (h0 : w0.cell? ⟨g1, i * 2, none⟩ = some (.string T)) (h1 : w0.cell? ⟨g1, i * 2 + 1, none⟩ = some (.slice a1 n1 c1)) (h2 : w0.cell? ⟨g2, i * 2, none⟩ = some (.string T)) (h3 : w0.cell? ⟨g2, i * 2 + 1, none⟩ = some (.slice a2 n1 c2)) (hS : ∀ W, Below w0.heap.size w0 W → Calls Tryz.prog 25 #[.agg #[.string T, .slice a1 n1 c1], .agg #[.string T, .slice a2 n1 c2]] W fun e w' => e = .returned (.bool true) ∧ Below W.heap.size W w')
    (x : Act) (w : World) (hB : Below w0.heap.size w0 w) (hdef : x.defers = df) (u0 : x.tmps.getD 0 undef = .slice (some ⟨g1, 0, none⟩) N C1) (u1 : x.tmps.getD 1 undef = .slice (some ⟨g2, 0, none⟩) N C2) (u5 : x.tmps.getD 5 undef = .int .i64 (i : Nat))
    : wpOpIn Fc nC Tryz.prog gsameR_ops Q 4 (fun a' w' => ∃ v, a' = x.put (some 21) v ∧ (v = .slice (some ⟨g2, 0, none⟩) N C2) ∧ Below w.heap.size w w') x w := by
  have ho : gsameR_ops[4]? = some gsameR_o4 := rfl
  simp only [Array.getD_eq_getD_getElem?] at u0 u1 u5
  refine wpOpIn_plain ho rfl (oper_inK hF.fn (fun K hK => ?_))
  clear ho
  rw [Oper.semAt_plain Fc _ _ (by intro c h; cases h)]
  simp only [gsameR_o4]
  go_simp
  exact hK _ _ ⟨_, act_putD x hdef _ _, rfl, Below.refl _ _⟩
set_option maxRecDepth 100000 in
set_option maxHeartbeats 2000000 in
theorem gsameR_s5 {Fc : Fence} (hF : Wide Fc) {nC : Nat} (g1 g2 N C1 C2 i n1 c1 c2 : Nat) (T : ByteArray) (a1 a2 : Option Addr) (Q : Exit → Act → World → Prop) (df : List Deferred) (w0 : World)
    (hi : i < N) (h0 : w0.cell? ⟨g1, i * 2, none⟩ = some (.string T)) (h1 : w0.cell? ⟨g1, i * 2 + 1, none⟩ = some (.slice a1 n1 c1)) (h2 : w0.cell? ⟨g2, i * 2, none⟩ = some (.string T)) (h3 : w0.cell? ⟨g2, i * 2 + 1, none⟩ = some (.slice a2 n1 c2)) (hS : ∀ W, Below w0.heap.size w0 W → Calls Tryz.prog 25 #[.agg #[.string T, .slice a1 n1 c1], .agg #[.string T, .slice a2 n1 c2]] W fun e w' => e = .returned (.bool true) ∧ Below W.heap.size W w')
    (x : Act) (w : World) (hB : Below w0.heap.size w0 w) (hdef : x.defers = df) (u0 : x.tmps.getD 0 undef = .slice (some ⟨g1, 0, none⟩) N C1) (u1 : x.tmps.getD 1 undef = .slice (some ⟨g2, 0, none⟩) N C2) (u5 : x.tmps.getD 5 undef = .int .i64 (i : Nat))
    : wpOpIn Fc nC Tryz.prog gsameR_ops Q 5 (fun a' w' => ∃ v, a' = x.put (some 22) v ∧ (v = .int .i64 (i : Nat)) ∧ Below w.heap.size w w') x w := by
  have ho : gsameR_ops[5]? = some gsameR_o5 := rfl
  simp only [Array.getD_eq_getD_getElem?] at u0 u1 u5
  refine wpOpIn_plain ho rfl (oper_inK hF.fn (fun K hK => ?_))
  clear ho
  rw [Oper.semAt_plain Fc _ _ (by intro c h; cases h)]
  simp only [gsameR_o5]
  go_simp
  exact hK _ _ ⟨_, act_putD x hdef _ _, rfl, Below.refl _ _⟩
set_option maxRecDepth 100000 in
set_option maxHeartbeats 2000000 in
theorem gsameR_s6 {Fc : Fence} (hF : Wide Fc) {nC : Nat} (g1 g2 N C1 C2 i n1 c1 c2 : Nat) (T : ByteArray) (a1 a2 : Option Addr) (Q : Exit → Act → World → Prop) (df : List Deferred) (w0 : World)
    (hi : i < N) (h0 : w0.cell? ⟨g1, i * 2, none⟩ = some (.string T)) (h1 : w0.cell? ⟨g1, i * 2 + 1, none⟩ = some (.slice a1 n1 c1)) (h2 : w0.cell? ⟨g2, i * 2, none⟩ = some (.string T)) (h3 : w0.cell? ⟨g2, i * 2 + 1, none⟩ = some (.slice a2 n1 c2)) (hS : ∀ W, Below w0.heap.size w0 W → Calls Tryz.prog 25 #[.agg #[.string T, .slice a1 n1 c1], .agg #[.string T, .slice a2 n1 c2]] W fun e w' => e = .returned (.bool true) ∧ Below W.heap.size W w')
    (x : Act) (w : World) (hB : Below w0.heap.size w0 w) (hdef : x.defers = df) (u0 : x.tmps.getD 0 undef = .slice (some ⟨g1, 0, none⟩) N C1) (u1 : x.tmps.getD 1 undef = .slice (some ⟨g2, 0, none⟩) N C2) (u5 : x.tmps.getD 5 undef = .int .i64 (i : Nat))
    (p4 : gsameR_val g1 g2 N C1 C2 i n1 c1 c2 T a1 a2 4 (x.tmps.getD 21 undef) w)
    (p5 : gsameR_val g1 g2 N C1 C2 i n1 c1 c2 T a1 a2 5 (x.tmps.getD 22 undef) w)
    : wpOpIn Fc nC Tryz.prog gsameR_ops Q 6 (fun a' w' => ∃ v, a' = x.put (some 23) v ∧ (v = .pointer (some ⟨g2, i * 2, none⟩)) ∧ Below w.heap.size w w') x w := by
  have ho : gsameR_ops[6]? = some gsameR_o6 := rfl
  simp only [Array.getD_eq_getD_getElem?] at u0 u1 u5
  have q4 : x.tmps.getD 21 undef = .slice (some ⟨g2, 0, none⟩) N C2 := p4
  have q5 : x.tmps.getD 22 undef = .int .i64 (i : Nat) := p5
  simp only [Array.getD_eq_getD_getElem?] at q4 q5
  have i0 : (0 : Int) ≤ (i : Int) := by omega
  have i1 : (i : Int) < (N : Int) := by omega
  refine wpOpIn_plain ho rfl (oper_inK hF.fn (fun K hK => ?_))
  clear ho
  rw [Oper.semAt_plain Fc _ _ (by intro c h; cases h)]
  simp only [gsameR_o6]
  go_simp
  exact hK _ _ ⟨_, act_putD x hdef _ _, rfl, Below.refl _ _⟩
set_option maxRecDepth 100000 in
set_option maxHeartbeats 2000000 in
theorem gsameR_s7 {Fc : Fence} (hF : Wide Fc) {nC : Nat} (g1 g2 N C1 C2 i n1 c1 c2 : Nat) (T : ByteArray) (a1 a2 : Option Addr) (Q : Exit → Act → World → Prop) (df : List Deferred) (w0 : World)
    (hi : i < N) (h0 : w0.cell? ⟨g1, i * 2, none⟩ = some (.string T)) (h1 : w0.cell? ⟨g1, i * 2 + 1, none⟩ = some (.slice a1 n1 c1)) (h2 : w0.cell? ⟨g2, i * 2, none⟩ = some (.string T)) (h3 : w0.cell? ⟨g2, i * 2 + 1, none⟩ = some (.slice a2 n1 c2)) (hS : ∀ W, Below w0.heap.size w0 W → Calls Tryz.prog 25 #[.agg #[.string T, .slice a1 n1 c1], .agg #[.string T, .slice a2 n1 c2]] W fun e w' => e = .returned (.bool true) ∧ Below W.heap.size W w')
    (x : Act) (w : World) (hB : Below w0.heap.size w0 w) (hdef : x.defers = df) (u0 : x.tmps.getD 0 undef = .slice (some ⟨g1, 0, none⟩) N C1) (u1 : x.tmps.getD 1 undef = .slice (some ⟨g2, 0, none⟩) N C2) (u5 : x.tmps.getD 5 undef = .int .i64 (i : Nat))
    (p6 : gsameR_val g1 g2 N C1 C2 i n1 c1 c2 T a1 a2 6 (x.tmps.getD 23 undef) w)
    : wpOpIn Fc nC Tryz.prog gsameR_ops Q 7 (fun a' w' => ∃ v, a' = x.put (some 24) v ∧ (v = .agg #[.string T, .slice a2 n1 c2]) ∧ Below w.heap.size w w') x w := by
  have ho : gsameR_ops[7]? = some gsameR_o7 := rfl
  simp only [Array.getD_eq_getD_getElem?] at u0 u1 u5
  have q6 : x.tmps.getD 23 undef = .pointer (some ⟨g2, i * 2, none⟩) := p6
  simp only [Array.getD_eq_getD_getElem?] at q6
  have u := cell_thru h2 hB
  have v := cell_thru h3 hB
  refine wpOpIn_plain ho rfl (oper_inK hF.fn (fun K hK => ?_))
  clear ho
  rw [Oper.semAt_plain Fc _ _ (by intro c h; cases h)]
  simp only [gsameR_o7]
  go_simp
  exact hK _ _ ⟨_, act_putD x hdef _ _, rfl, Below.refl _ _⟩
set_option maxRecDepth 100000 in
set_option maxHeartbeats 2000000 in
theorem gsameR_s8 {Fc : Fence} (hF : Wide Fc) {nC : Nat} (g1 g2 N C1 C2 i n1 c1 c2 : Nat) (T : ByteArray) (a1 a2 : Option Addr) (Q : Exit → Act → World → Prop) (df : List Deferred) (w0 : World)
    (hi : i < N) (h0 : w0.cell? ⟨g1, i * 2, none⟩ = some (.string T)) (h1 : w0.cell? ⟨g1, i * 2 + 1, none⟩ = some (.slice a1 n1 c1)) (h2 : w0.cell? ⟨g2, i * 2, none⟩ = some (.string T)) (h3 : w0.cell? ⟨g2, i * 2 + 1, none⟩ = some (.slice a2 n1 c2)) (hS : ∀ W, Below w0.heap.size w0 W → Calls Tryz.prog 25 #[.agg #[.string T, .slice a1 n1 c1], .agg #[.string T, .slice a2 n1 c2]] W fun e w' => e = .returned (.bool true) ∧ Below W.heap.size W w')
    (x : Act) (w : World) (hB : Below w0.heap.size w0 w) (hdef : x.defers = df) (u0 : x.tmps.getD 0 undef = .slice (some ⟨g1, 0, none⟩) N C1) (u1 : x.tmps.getD 1 undef = .slice (some ⟨g2, 0, none⟩) N C2) (u5 : x.tmps.getD 5 undef = .int .i64 (i : Nat))
    (p3 : gsameR_val g1 g2 N C1 C2 i n1 c1 c2 T a1 a2 3 (x.tmps.getD 20 undef) w)
    (p7 : gsameR_val g1 g2 N C1 C2 i n1 c1 c2 T a1 a2 7 (x.tmps.getD 24 undef) w)
    : wpOpIn Fc nC Tryz.prog gsameR_ops Q 8 (fun a' w' => ∃ v, a' = x.put (some 25) v ∧ (v = .bool true) ∧ Below w.heap.size w w') x w := by
  have ho : gsameR_ops[8]? = some gsameR_o8 := rfl
  simp only [Array.getD_eq_getD_getElem?] at u0 u1 u5
  have q3 : x.tmps.getD 20 undef = .agg #[.string T, .slice a1 n1 c1] := p3
  have q7 : x.tmps.getD 24 undef = .agg #[.string T, .slice a2 n1 c2] := p7
  simp only [Array.getD_eq_getD_getElem?] at q3 q7
  refine wpOpIn_plain ho rfl (oper_inK hF.fn (fun K hK => ?_))
  clear ho
  rw [Oper.semAt_plain Fc _ _ (by intro c h; cases h)]
  simp only [gsameR_o8]
  go_simp
  refine ⟨hF.deep, (hF.call (hS w hB)).mono ?_⟩
  rintro e w' ⟨rfl, hb⟩
  exact hK _ _ ⟨_, act_putD x hdef _ _, rfl, hb⟩
set_option maxRecDepth 100000 in
set_option maxHeartbeats 2000000 in
theorem gsameR_s9 {Fc : Fence} (hF : Wide Fc) {nC : Nat} (g1 g2 N C1 C2 i n1 c1 c2 : Nat) (T : ByteArray) (a1 a2 : Option Addr) (Q : Exit → Act → World → Prop) (df : List Deferred) (w0 : World)
    (hi : i < N) (h0 : w0.cell? ⟨g1, i * 2, none⟩ = some (.string T)) (h1 : w0.cell? ⟨g1, i * 2 + 1, none⟩ = some (.slice a1 n1 c1)) (h2 : w0.cell? ⟨g2, i * 2, none⟩ = some (.string T)) (h3 : w0.cell? ⟨g2, i * 2 + 1, none⟩ = some (.slice a2 n1 c2)) (hS : ∀ W, Below w0.heap.size w0 W → Calls Tryz.prog 25 #[.agg #[.string T, .slice a1 n1 c1], .agg #[.string T, .slice a2 n1 c2]] W fun e w' => e = .returned (.bool true) ∧ Below W.heap.size W w')
    (x : Act) (w : World) (hB : Below w0.heap.size w0 w) (hdef : x.defers = df) (u0 : x.tmps.getD 0 undef = .slice (some ⟨g1, 0, none⟩) N C1) (u1 : x.tmps.getD 1 undef = .slice (some ⟨g2, 0, none⟩) N C2) (u5 : x.tmps.getD 5 undef = .int .i64 (i : Nat))
    (p8 : gsameR_val g1 g2 N C1 C2 i n1 c1 c2 T a1 a2 8 (x.tmps.getD 25 undef) w)
    : wpOpIn Fc nC Tryz.prog gsameR_ops Q 9 (fun a' w' => ∃ v, a' = x.put (some 26) v ∧ (v = .bool false) ∧ Below w.heap.size w w') x w := by
  have ho : gsameR_ops[9]? = some gsameR_o9 := rfl
  simp only [Array.getD_eq_getD_getElem?] at u0 u1 u5
  have q8 : x.tmps.getD 25 undef = .bool true := p8
  simp only [Array.getD_eq_getD_getElem?] at q8
  refine wpOpIn_plain ho rfl (oper_inK hF.fn (fun K hK => ?_))
  clear ho
  rw [Oper.semAt_plain Fc _ _ (by intro c h; cases h)]
  simp only [gsameR_o9]
  go_simp
  exact hK _ _ ⟨_, act_putD x hdef _ _, rfl, Below.refl _ _⟩

set_option maxRecDepth 100000 in
set_option maxHeartbeats 4000000 in
theorem gsameR {Fc : Fence} (hF : Wide Fc) {nC : Nat} (g1 g2 N C1 C2 i n1 c1 c2 : Nat) (T : ByteArray) (a1 a2 : Option Addr) (Q : Exit → Act → World → Prop) (t0 : Array Value) (df : List Deferred) (w0 : World) (ht : t0.size = 27)
    (hs0 : t0.getD 0 undef = .slice (some ⟨g1, 0, none⟩) N C1) (hs1 : t0.getD 1 undef = .slice (some ⟨g2, 0, none⟩) N C2) (hs5 : t0.getD 5 undef = .int .i64 (i : Nat))
    (hi : i < N) (h0 : w0.cell? ⟨g1, i * 2, none⟩ = some (.string T)) (h1 : w0.cell? ⟨g1, i * 2 + 1, none⟩ = some (.slice a1 n1 c1)) (h2 : w0.cell? ⟨g2, i * 2, none⟩ = some (.string T)) (h3 : w0.cell? ⟨g2, i * 2 + 1, none⟩ = some (.slice a2 n1 c2)) (hS : ∀ W, Below w0.heap.size w0 W → Calls Tryz.prog 25 #[.agg #[.string T, .slice a1 n1 c1], .agg #[.string T, .slice a2 n1 c2]] W fun e w' => e = .returned (.bool true) ∧ Below W.heap.size W w')
    (hQ : ∀ (vs : Nat → Value) (w : World), Below w0.heap.size w0 w → (vs 26 = .bool false) → Q .normal { tmps := [17, 18, 19, 20, 21, 22, 23, 24, 25, 26].foldl (fun y d => y.setIfInBounds d (vs d)) t0, defers := df } w) :
    (Code.region 6 gsameR_ops true).wpIn Fc nC Tryz.prog Q { tmps := t0, defers := df } w0 := by
  refine wpIn_region_tail 10 (by decide) (by kernel_rfl) (fun a b => Below a.heap.size a b) (gsameR_val g1 g2 N C1 C2 i n1 c1 c2 T a1 a2) t0 df w0 (by rw [ht]; kernel_rfl) (by kernel_rfl) (by kernel_rfl) (by kernel_rfl) ((Below.refl _ _).drew) (fun _ _ _ h k => h.trans (k.mono h.size)) (gsameR_below g1 g2 N C1 C2 i n1 c1 c2 T a1 a2) ?_ ?_
  · intro j o ho hj x w hB hdef hsz hs hdeps
    have hs' : ∀ s, ¬ gsameR_mem s → x.tmps.getD s undef = t0.getD s undef := fun s hn => hs s (fun j hj e => hn (by rw [e]; exact gsameR_slots j hj))
    have u0 := (hs' 0 (by decide)).trans hs0
    have u1 := (hs' 1 (by decide)).trans hs1
    have u5 := (hs' 5 (by decide)).trans hs5
    match j, ho, hj with
    | 0, ho, _ =>
      have e : o = gsameR_o0 := (Option.some.inj ho).symm
      subst e
      exact gsameR_s0 hF g1 g2 N C1 C2 i n1 c1 c2 T a1 a2 Q df w0 hi h0 h1 h2 h3 hS x w hB hdef u0 u1 u5 
    | 1, ho, _ =>
      have e : o = gsameR_o1 := (Option.some.inj ho).symm
      subst e
      exact gsameR_s1 hF g1 g2 N C1 C2 i n1 c1 c2 T a1 a2 Q df w0 hi h0 h1 h2 h3 hS x w hB hdef u0 u1 u5 
    | 2, ho, _ =>
      have e : o = gsameR_o2 := (Option.some.inj ho).symm
      subst e
      exact gsameR_s2 hF g1 g2 N C1 C2 i n1 c1 c2 T a1 a2 Q df w0 hi h0 h1 h2 h3 hS x w hB hdef u0 u1 u5 (hdeps { on := 0, ground := Ground.data } (by simp) rfl) (hdeps { on := 1, ground := Ground.data } (by simp) rfl)
    | 3, ho, _ =>
      have e : o = gsameR_o3 := (Option.some.inj ho).symm
      subst e
      exact gsameR_s3 hF g1 g2 N C1 C2 i n1 c1 c2 T a1 a2 Q df w0 hi h0 h1 h2 h3 hS x w hB hdef u0 u1 u5 (hdeps { on := 2, ground := Ground.data } (by simp) rfl)
    | 4, ho, _ =>
      have e : o = gsameR_o4 := (Option.some.inj ho).symm
      subst e
      exact gsameR_s4 hF g1 g2 N C1 C2 i n1 c1 c2 T a1 a2 Q df w0 hi h0 h1 h2 h3 hS x w hB hdef u0 u1 u5 
    | 5, ho, _ =>
      have e : o = gsameR_o5 := (Option.some.inj ho).symm
      subst e
      exact gsameR_s5 hF g1 g2 N C1 C2 i n1 c1 c2 T a1 a2 Q df w0 hi h0 h1 h2 h3 hS x w hB hdef u0 u1 u5 
    | 6, ho, _ =>
      have e : o = gsameR_o6 := (Option.some.inj ho).symm
      subst e
      exact gsameR_s6 hF g1 g2 N C1 C2 i n1 c1 c2 T a1 a2 Q df w0 hi h0 h1 h2 h3 hS x w hB hdef u0 u1 u5 (hdeps { on := 4, ground := Ground.data } (by simp) rfl) (hdeps { on := 5, ground := Ground.data } (by simp) rfl)
    | 7, ho, _ =>
      have e : o = gsameR_o7 := (Option.some.inj ho).symm
      subst e
      exact gsameR_s7 hF g1 g2 N C1 C2 i n1 c1 c2 T a1 a2 Q df w0 hi h0 h1 h2 h3 hS x w hB hdef u0 u1 u5 (hdeps { on := 6, ground := Ground.data } (by simp) rfl)
    | 8, ho, _ =>
      have e : o = gsameR_o8 := (Option.some.inj ho).symm
      subst e
      exact gsameR_s8 hF g1 g2 N C1 C2 i n1 c1 c2 T a1 a2 Q df w0 hi h0 h1 h2 h3 hS x w hB hdef u0 u1 u5 (hdeps { on := 3, ground := Ground.data } (by simp) rfl) (hdeps { on := 7, ground := Ground.data } (by simp) rfl)
    | 9, ho, _ =>
      have e : o = gsameR_o9 := (Option.some.inj ho).symm
      subst e
      exact gsameR_s9 hF g1 g2 N C1 C2 i n1 c1 c2 T a1 a2 Q df w0 hi h0 h1 h2 h3 hS x w hB hdef u0 u1 u5 (hdeps { on := 8, ground := Ground.data } (by simp) rfl)
    | k + 10, _, hj => omega
  · intro x w hB hdef hsz hs hv
    have hx := frame_sets x.tmps t0 hsz [17, 18, 19, 20, 21, 22, 23, 24, 25, 26] (fun s hn => hs s (fun j hj e => hn (by rw [e]; exact gsameR_slots j hj)))
    have hq := hQ (fun d => x.tmps.getD d undef) w hB (hv 9 (by decide))
    obtain ⟨T, Df⟩ := x
    dsimp only at hx hdef hq
    subst hdef
    rw [← hx] at hq
    exact hq
end Go.Proofs.YtpdlapnliiengaaGreat

/-
  SamePlaces, SamePosting, SamePostings.
-/
namespace Go.Proofs.YtpdlapnliiengaaGreat
open Go.RowKit Go.Shelf

set_option maxHeartbeats 1000000 in
theorem samePlaces_any (v1 v2 : Value) (n B1 B2 : Nat) (l : List Nat) (w : World) (hn : n ≤ 1000000) (h1 : w.ownsRow B1 44 2 v1 n (pcl l)) (h2 : w.ownsRow B2 44 2 v2 n (pcl l)) (hl : l.length = n) :
    Calls Tryz.prog 37 #[v1, v2] w fun e w' => e = .returned (.bool true) ∧ Below w.heap.size w w' := by
  obtain ⟨a1, c1, rfl⟩ := owns_slice h1
  obtain ⟨a2, c2, rfl⟩ := owns_slice h2
  have HH := hide (And.intro h1 h2)
  clear h1 h2
  go_enter Tryz.func37, Tryz.ntmps37
  go_wp2
  go_loopg [5] n (fun q s5 wr => ∃ k : Nat, k + q = n ∧ s5 = .int .i64 k ∧ Below w.heap.size w wr)
  case atStart => exact ⟨0, by omega, rfl, Below.refl _ _⟩
  case round =>
    obtain ⟨k, hkq, rfl, hbr⟩ := hrel
    cases gk with
    | zero =>
      obtain rfl : k = n := by omega
      go_wp2
      go_ret
      exact ⟨rfl, hbr⟩
    | succ q =>
      have hkz : (k : Int) < (n : Int) := by omega
      have hk0 : (0 : Int) ≤ (k : Int) := by omega
      obtain ⟨h1, h2⟩ := HH.out
      obtain ⟨g1, rfl, _, _, _, _⟩ := owns_addr h1 (by omega)
      obtain ⟨g2, rfl, _, _, _, _⟩ := owns_addr h2 (by omega)
      obtain ⟨e0, e1⟩ := pcl_get l k (by omega)
      have d0 := cell_thru (owns_at h1 e0).1 hbr
      have d1 := cell_thru (owns_at h1 e1).1 hbr
      have f0 := cell_thru (owns_at h2 e0).1 hbr
      have f1 := cell_thru (owns_at h2 e1).1 hbr
      obtain ⟨x, hx⟩ : ∃ x, l.getD k 0 = x := ⟨_, rfl⟩
      rw [hx] at d1 f1
      clear h1 h2 e0 e1 hx
      go_upto_region 6 with fail
      go_cut [25] (fun s wx => s = .bool false ∧ Below w.heap.size w wx)
      case first =>
        go_quiet (fail)
        all_goals
          go_wp2_with fail
          go_meet
          exact ⟨rfl, below_drewN hbr _⟩
      case rest =>
        obtain ⟨rfl, hbc⟩ := hcut
        go_wp2_with fail
        go_roundg q
        case measure => omega
        case rel => exact ⟨k + 1, by omega, by go_num, hbc⟩
set_option maxHeartbeats 1000000 in
theorem samePosting_any (T : ByteArray) (v1 v2 : Value) (n B1 B2 : Nat) (l : List Nat) (w : World) (hn : n ≤ 1000000) (h1 : w.ownsRow B1 44 2 v1 n (pcl l)) (h2 : w.ownsRow B2 44 2 v2 n (pcl l)) (hl : l.length = n) :
    Calls Tryz.prog 25 #[.agg #[.string T, v1], .agg #[.string T, v2]] w fun e w' => e = .returned (.bool true) ∧ Below w.heap.size w w' := by
  obtain ⟨a1, c1, rfl⟩ := owns_slice h1
  obtain ⟨a2, c2, rfl⟩ := owns_slice h2
  obtain ⟨W1, hW1⟩ : ∃ W1, w.alloc (.cells #[.string T, .slice a1 n c1] 42) = W1 := ⟨_, rfl⟩
  have hb1 : Below w.heap.size w W1 := by rw [← hW1]; exact below_alloc _ _
  have hs1 : W1.heap.size = w.heap.size + 1 := by rw [← hW1]; simp
  have c0 : W1.cell? ⟨w.heap.size, 0, none⟩ = some (.string T) := by rw [← hW1]; exact cell_at20 rfl
  have c1' : W1.cell? ⟨w.heap.size, 1, none⟩ = some (.slice a1 n c1) := by rw [← hW1]; exact cell_at21 rfl
  obtain ⟨W2, hW2⟩ : ∃ W2, W1.alloc (.cells #[.string T, .slice a2 n c2] 42) = W2 := ⟨_, rfl⟩
  have hb2 : Below W1.heap.size W1 W2 := by rw [← hW2]; exact below_alloc _ _
  have d0 := cell_thru c0 hb2
  have d1 := cell_thru c1' hb2
  have e0 : W2.cell? ⟨W1.heap.size, 0, none⟩ = some (.string T) := by rw [← hW2]; exact cell_at20 rfl
  have e1 : W2.cell? ⟨W1.heap.size, 1, none⟩ = some (.slice a2 n c2) := by rw [← hW2]; exact cell_at21 rfl
  rw [hs1] at e0 e1
  have hb12 : Below w.heap.size w W2 := hb1.trans (hb2.mono hb1.size)
  have hsp := samePlaces_any (.slice a1 n c1) (.slice a2 n c2) n B1 B2 l W2 hn (owns_thruS h1 hb12) (owns_thruS h2 hb12) hl
  have htt : (T.toList == T.toList) = true := beq_self_eq_true _
  have HB := hide hb12
  clear h1 h2 hb1 hb2 hb12 c0 c1'
  go_enter Tryz.func25, Tryz.ntmps25
  go_wp2_with fail
  refine hsp.mono ?_
  rintro e w3 ⟨rfl, hb3⟩
  go_wp2_with fail
  go_ret
  exact ⟨rfl, HB.out.trans (hb3.mono HB.out.size)⟩
set_option maxHeartbeats 1000000 in
theorem samePostings_any (v1 v2 : Value) (B1 B2 m : Nat) (z : Nat → Nat) (ks : List Nat) (vf1 vf2 : Nat → Value) (w : World) (hn : ks.length ≤ 1000000) (hm : m ≤ 1000000) (h1 : PostM w B1 z m ks v1 vf1) (h2 : PostM w B2 z m ks v2 vf2) :
    Calls Tryz.prog 12 #[v1, v2] w fun e w' => e = .returned (.bool true) ∧ Below w.heap.size w w' := by
  obtain ⟨a1, c1, rfl⟩ := owns_slice h1.row
  obtain ⟨a2, c2, rfl⟩ := owns_slice h2.row
  obtain ⟨N, hN⟩ : ∃ N, ks.length = N := ⟨_, rfl⟩
  have HH := hide (And.intro h1 h2)
  rw [hN] at hn
  have HN := hide hN
  rw [hN]
  clear h1 h2 hN
  go_enter Tryz.func12, Tryz.ntmps12
  go_wp2
  go_loopg [5] N (fun q s5 wr => ∃ k : Nat, k + q = N ∧ s5 = .int .i64 k ∧ Below w.heap.size w wr)
  case atStart => exact ⟨0, by omega, rfl, Below.refl _ _⟩
  case round =>
    obtain ⟨k, hkq, rfl, hbr⟩ := hrel
    cases gk with
    | zero =>
      obtain rfl : k = N := by omega
      go_wp2
      go_ret
      exact ⟨rfl, hbr⟩
    | succ q =>
      have hkN : k < N := by omega
      have hkz : (k : Int) < (N : Int) := by omega
      have hk0 : (0 : Int) ≤ (k : Int) := by omega
      obtain ⟨h1, h2⟩ := HH.out
      have hkl : k < ks.length := by have := HN.out; omega
      obtain ⟨g1, rfl, _, _, _, _⟩ := owns_addr h1.row (by omega)
      obtain ⟨g2, rfl, _, _, _, _⟩ := owns_addr h2.row (by omega)
      have hxm : ks.getD k 0 ∈ ks := by
        rw [List.getD_eq_getElem?_getD, List.getElem?_eq_getElem hkl]
        exact List.getElem_mem hkl
      obtain ⟨e0, e1⟩ := pocl_get ks vf1 k hkl
      obtain ⟨e2, e3⟩ := pocl_get ks vf2 k hkl
      have d0 := cell_thru (owns_at h1.row e0).1 hbr
      have d1 := cell_thru (owns_at h1.row e1).1 hbr
      have d2 := cell_thru (owns_at h2.row e2).1 hbr
      have d3 := cell_thru (owns_at h2.row e3).1 hbr
      have q1 := owns_thruS (h1.places _ hxm) hbr
      have q2 := owns_thruS (h2.places _ hxm) hbr
      have hpl : (plL z (List.range m) (ks.getD k 0)).length ≤ 1000000 := by
        have := List.length_filter_le (fun j => gN z j == ks.getD k 0) (List.range m)
        rw [List.length_range] at this
        exact Nat.le_trans this hm
      obtain ⟨b1, f1, hv1⟩ := owns_slice q1
      obtain ⟨b2, f2, hv2⟩ := owns_slice q2
      rw [hv1] at d1 q1
      rw [hv2] at d3 q2
      obtain ⟨P, hP⟩ : ∃ P, plL z (List.range m) (ks.getD k 0) = P := ⟨_, rfl⟩
      obtain ⟨T, hT⟩ : ∃ T, gts (ks.getD k 0) = T := ⟨_, rfl⟩
      rw [hP] at d1 d3 q1 q2 hpl
      rw [hT] at d0 d2
      have hsp := fun (W : World) (hW : Below wr.heap.size wr W) => samePosting_any T _ _ P.length B1 B2 P W hpl (owns_thruS q1 hW) (owns_thruS q2 hW) rfl
      have hsz := hbr.size
      clear h1 h2 e0 e1 e2 e3 q1 q2 hv1 hv2 hP hT hxm hpl hkl
      go_upto_region 6 with fail
      refine (wpIn_wide (n := 0)).1 (gsameR wide_plain g1 g2 N c1 c2 k P.length f1 f2 T b1 b2 _ _ _ wr rfl rfl rfl rfl hkN d0 d1 d2 d3 hsp ?_)
      intro vs W hb h26
      simp only [List.foldl_cons, List.foldl_nil, List.setIfInBounds_toArray, List.set_cons_succ, List.set_cons_zero]
      rw [h26]
      generalize vs 17 = z17
      generalize vs 18 = z18
      generalize vs 19 = z19
      generalize vs 20 = z20
      generalize vs 21 = z21
      generalize vs 22 = z22
      generalize vs 23 = z23
      generalize vs 24 = z24
      generalize vs 25 = z25
      clear vs d0 d1 d2 d3 hsp h26
      go_wp2_with fail
      go_roundg q
      case measure => omega
      case rel => exact ⟨k + 1, by omega, by go_num, hbr.trans (hb.mono hsz)⟩
end Go.Proofs.YtpdlapnliiengaaGreat
