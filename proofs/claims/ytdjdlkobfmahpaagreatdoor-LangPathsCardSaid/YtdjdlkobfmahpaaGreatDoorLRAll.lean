/-
  The reference's All: its drawn region (written by tools/gen-lrall.py).
-/
import Derived.Test.YtdjdlkobfmahpaaGreatDoorLRefs
import Derived.Test.YtdjdlkobfmahpaaGreatDoorLAllM
import Derived.Test.YtdjdlkobfmahpaaGreatDoorRegT
import Derived.Test.YtdjdlkobfmahpaaGreatDoorBagT
namespace Go.Proofs.YtdjdlkobfmahpaaGreatDoor
open Go.RowKit Go.Shelf
set_option linter.unusedVariables false
set_option linter.unusedSimpArgs false

abbrev lra6_o0 : Oper := { dst := some 11, op := Op.move (Operand.tmp 1), type := 24, pos := "ref.go:70", after := #[], guard := none }
abbrev lra6_o1 : Oper := { dst := some 12, op := Op.call { callee := Callee.builtin Builtin.len, args := #[Operand.tmp 11], argTypes := #[24] }, type := 3, pos := "ref.go:70", after := #[{ on := 0, ground := Ground.data }], guard := none }
abbrev lra6_o2 : Oper := { dst := some 13, op := Op.binOp BinOp.eql 3 (Operand.tmp 12) (Operand.const (Value.int IntKind.i64 0)) 3, type := 4, pos := "ref.go:70", after := #[{ on := 1, ground := Ground.data }], guard := none }
abbrev lra6_o3 : Oper := { dst := some 14, op := Op.move (Operand.tmp 13), type := 4, pos := "ref.go:70", after := #[{ on := 2, ground := Ground.data }], guard := none }
abbrev lra6_o4 : Oper := { dst := some 15, op := Op.move (Operand.tmp 1), type := 24, pos := "ref.go:70", after := #[{ on := 3, ground := Ground.guard }], guard := some (3, false) }
abbrev lra6_o5 : Oper := { dst := some 16, op := Op.move (Operand.tmp 1), type := 24, pos := "ref.go:70", after := #[{ on := 3, ground := Ground.guard }], guard := some (3, false) }
abbrev lra6_o6 : Oper := { dst := some 17, op := Op.call { callee := Callee.builtin Builtin.len, args := #[Operand.tmp 16], argTypes := #[24] }, type := 3, pos := "ref.go:70", after := #[{ on := 5, ground := Ground.data }, { on := 3, ground := Ground.guard }], guard := some (3, false) }
abbrev lra6_o7 : Oper := { dst := some 18, op := Op.binOp BinOp.sub 3 (Operand.tmp 17) (Operand.const (Value.int IntKind.i64 1)) 3, type := 3, pos := "ref.go:70", after := #[{ on := 6, ground := Ground.data }, { on := 3, ground := Ground.guard }], guard := some (3, false) }
abbrev lra6_o8 : Oper := { dst := some 19, op := Op.indexAddr 24 (Operand.tmp 15) (Operand.tmp 18), type := 0, pos := "ref.go:70", after := #[{ on := 4, ground := Ground.data }, { on := 7, ground := Ground.data }, { on := 3, ground := Ground.guard }], guard := some (3, false) }
abbrev lra6_o9 : Oper := { dst := some 20, op := Op.load 9 (Operand.tmp 19), type := 9, pos := "ref.go:70", after := #[{ on := 8, ground := Ground.data }, { on := 3, ground := Ground.guard }], guard := some (3, false) }
abbrev lra6_o10 : Oper := { dst := some 21, op := Op.move (Operand.tmp 2), type := 57, pos := "ref.go:70", after := #[{ on := 3, ground := Ground.guard }], guard := some (3, false) }
abbrev lra6_o11 : Oper := { dst := some 22, op := Op.move (Operand.tmp 3), type := 3, pos := "ref.go:70", after := #[{ on := 3, ground := Ground.guard }], guard := some (3, false) }
abbrev lra6_o12 : Oper := { dst := some 23, op := Op.indexAddr 57 (Operand.tmp 21) (Operand.tmp 22), type := 0, pos := "ref.go:70", after := #[{ on := 10, ground := Ground.data }, { on := 11, ground := Ground.data }, { on := 3, ground := Ground.guard }], guard := some (3, false) }
abbrev lra6_o13 : Oper := { dst := some 24, op := Op.fieldAddr 60 (Operand.tmp 23) 1, type := 0, pos := "ref.go:70", after := #[{ on := 12, ground := Ground.data }, { on := 3, ground := Ground.guard }], guard := some (3, false) }
abbrev lra6_o14 : Oper := { dst := some 25, op := Op.load 9 (Operand.tmp 24), type := 9, pos := "ref.go:70", after := #[{ on := 13, ground := Ground.data }, { on := 3, ground := Ground.guard }], guard := some (3, false) }
abbrev lra6_o15 : Oper := { dst := some 26, op := Op.binOp BinOp.neq 9 (Operand.tmp 20) (Operand.tmp 25) 9, type := 4, pos := "ref.go:70", after := #[{ on := 9, ground := Ground.data }, { on := 14, ground := Ground.data }, { on := 3, ground := Ground.guard }], guard := some (3, false) }
abbrev lra6_o16 : Oper := { dst := some 27, op := Op.pick (Operand.tmp 14) (Operand.const (Value.bool true)) (Operand.tmp 26), type := 4, pos := "ref.go:70", after := #[{ on := 3, ground := Ground.data }, { on := 15, ground := Ground.data }], guard := none }
def lra6_ops : Array Oper := #[lra6_o0, lra6_o1, lra6_o2, lra6_o3, lra6_o4, lra6_o5, lra6_o6, lra6_o7, lra6_o8, lra6_o9, lra6_o10, lra6_o11, lra6_o12, lra6_o13, lra6_o14, lra6_o15, lra6_o16]
abbrev lra6_mem (s : Nat) : Prop := s ∈ [11, 12, 13, 14, 15, 16, 17, 18, 19, 20, 21, 22, 23, 24, 25, 26, 27]
set_option maxRecDepth 100000 in
theorem lra6_slots : ∀ j, j < 17 → lra6_mem (slotOf lra6_ops j) := by
  intro j hj
  match j, hj with
  | 0, _ => exact (by decide : lra6_mem 11)
  | 1, _ => exact (by decide : lra6_mem 12)
  | 2, _ => exact (by decide : lra6_mem 13)
  | 3, _ => exact (by decide : lra6_mem 14)
  | 4, _ => exact (by decide : lra6_mem 15)
  | 5, _ => exact (by decide : lra6_mem 16)
  | 6, _ => exact (by decide : lra6_mem 17)
  | 7, _ => exact (by decide : lra6_mem 18)
  | 8, _ => exact (by decide : lra6_mem 19)
  | 9, _ => exact (by decide : lra6_mem 20)
  | 10, _ => exact (by decide : lra6_mem 21)
  | 11, _ => exact (by decide : lra6_mem 22)
  | 12, _ => exact (by decide : lra6_mem 23)
  | 13, _ => exact (by decide : lra6_mem 24)
  | 14, _ => exact (by decide : lra6_mem 25)
  | 15, _ => exact (by decide : lra6_mem 26)
  | 16, _ => exact (by decide : lra6_mem 27)
  | k + 17, hj => omega
def lraE_val (gT i : Nat) : Nat → Value → World → Prop
  | 0, v, w => v = .slice none 0 0
  | 1, v, w => v = .int .i64 (0 : Nat)
  | 2, v, w => v = .bool true
  | 3, v, w => v = .bool true
  | 4, v, w => v = undef
  | 5, v, w => v = undef
  | 6, v, w => v = undef
  | 7, v, w => v = undef
  | 8, v, w => v = undef
  | 9, v, w => v = undef
  | 10, v, w => v = undef
  | 11, v, w => v = undef
  | 12, v, w => v = undef
  | 13, v, w => v = undef
  | 14, v, w => v = undef
  | 15, v, w => v = undef
  | 16, v, w => v = .bool true
  | _, _, _ => True
theorem lraE_below (gT i : Nat) (w w' : World) (hb : Below w.heap.size w w') : ∀ j v, lraE_val gT i j v w → lraE_val gT i j v w' := by
  intro j v h
  match j, h with
  | 0, h => exact h
  | 1, h => exact h
  | 2, h => exact h
  | 3, h => exact h
  | 4, h => exact h
  | 5, h => exact h
  | 6, h => exact h
  | 7, h => exact h
  | 8, h => exact h
  | 9, h => exact h
  | 10, h => exact h
  | 11, h => exact h
  | 12, h => exact h
  | 13, h => exact h
  | 14, h => exact h
  | 15, h => exact h
  | 16, h => exact h
  | _ + 17, h => exact h
set_option maxRecDepth 100000 in
set_option maxHeartbeats 2000000 in
theorem lraE_s0 {Fc : Fence} (hF : Wide Fc) {nC : Nat} (gT i : Nat) (Q : Exit → Act → World → Prop) (df : List Deferred) (w0 : World)
    (hi : i < 22)
    (x : Act) (w : World) (hB : Below w0.heap.size w0 w) (hdef : x.defers = df) (u1 : x.tmps.getD 1 undef = .slice none 0 0) (u2 : x.tmps.getD 2 undef = .slice (some ⟨gT, 0, none⟩) 22 22) (u3 : x.tmps.getD 3 undef = .int .i64 (i : Nat))
    : wpOpIn Fc nC Tryz.prog lra6_ops Q 0 (fun a' w' => ∃ v, a' = x.put (some 11) v ∧ (v = .slice none 0 0) ∧ Below w.heap.size w w') x w := by
  have ho : lra6_ops[0]? = some lra6_o0 := rfl
  simp only [Array.getD_eq_getD_getElem?] at u1 u2 u3
  refine wpOpIn_plain ho rfl (oper_inK hF.fn (fun K hK => ?_))
  clear ho
  rw [Oper.semAt_plain Fc _ _ (by intro c h; cases h)]
  simp only [lra6_o0]
  go_simp
  exact hK _ _ ⟨_, act_putD x hdef _ _, rfl, Below.refl _ _⟩
set_option maxRecDepth 100000 in
set_option maxHeartbeats 2000000 in
theorem lraE_s1 {Fc : Fence} (hF : Wide Fc) {nC : Nat} (gT i : Nat) (Q : Exit → Act → World → Prop) (df : List Deferred) (w0 : World)
    (hi : i < 22)
    (x : Act) (w : World) (hB : Below w0.heap.size w0 w) (hdef : x.defers = df) (u1 : x.tmps.getD 1 undef = .slice none 0 0) (u2 : x.tmps.getD 2 undef = .slice (some ⟨gT, 0, none⟩) 22 22) (u3 : x.tmps.getD 3 undef = .int .i64 (i : Nat))
    (p0 : lraE_val gT i 0 (x.tmps.getD 11 undef) w)
    : wpOpIn Fc nC Tryz.prog lra6_ops Q 1 (fun a' w' => ∃ v, a' = x.put (some 12) v ∧ (v = .int .i64 (0 : Nat)) ∧ Below w.heap.size w w') x w := by
  have ho : lra6_ops[1]? = some lra6_o1 := rfl
  simp only [Array.getD_eq_getD_getElem?] at u1 u2 u3
  have q0 : x.tmps.getD 11 undef = .slice none 0 0 := p0
  simp only [Array.getD_eq_getD_getElem?] at q0
  refine wpOpIn_plain ho rfl (oper_inK hF.fn (fun K hK => ?_))
  clear ho
  rw [Oper.semAt_plain Fc _ _ (by intro c h; cases h)]
  simp only [lra6_o1]
  go_simp
  exact hK _ _ ⟨_, act_putD x hdef _ _, rfl, Below.refl _ _⟩
set_option maxRecDepth 100000 in
set_option maxHeartbeats 2000000 in
theorem lraE_s2 {Fc : Fence} (hF : Wide Fc) {nC : Nat} (gT i : Nat) (Q : Exit → Act → World → Prop) (df : List Deferred) (w0 : World)
    (hi : i < 22)
    (x : Act) (w : World) (hB : Below w0.heap.size w0 w) (hdef : x.defers = df) (u1 : x.tmps.getD 1 undef = .slice none 0 0) (u2 : x.tmps.getD 2 undef = .slice (some ⟨gT, 0, none⟩) 22 22) (u3 : x.tmps.getD 3 undef = .int .i64 (i : Nat))
    (p1 : lraE_val gT i 1 (x.tmps.getD 12 undef) w)
    : wpOpIn Fc nC Tryz.prog lra6_ops Q 2 (fun a' w' => ∃ v, a' = x.put (some 13) v ∧ (v = .bool true) ∧ Below w.heap.size w w') x w := by
  have ho : lra6_ops[2]? = some lra6_o2 := rfl
  simp only [Array.getD_eq_getD_getElem?] at u1 u2 u3
  have q1 : x.tmps.getD 12 undef = .int .i64 (0 : Nat) := p1
  simp only [Array.getD_eq_getD_getElem?] at q1
  refine wpOpIn_plain ho rfl (oper_inK hF.fn (fun K hK => ?_))
  clear ho
  rw [Oper.semAt_plain Fc _ _ (by intro c h; cases h)]
  simp only [lra6_o2]
  go_simp
  exact hK _ _ ⟨_, act_putD x hdef _ _, rfl, Below.refl _ _⟩
set_option maxRecDepth 100000 in
set_option maxHeartbeats 2000000 in
theorem lraE_s3 {Fc : Fence} (hF : Wide Fc) {nC : Nat} (gT i : Nat) (Q : Exit → Act → World → Prop) (df : List Deferred) (w0 : World)
    (hi : i < 22)
    (x : Act) (w : World) (hB : Below w0.heap.size w0 w) (hdef : x.defers = df) (u1 : x.tmps.getD 1 undef = .slice none 0 0) (u2 : x.tmps.getD 2 undef = .slice (some ⟨gT, 0, none⟩) 22 22) (u3 : x.tmps.getD 3 undef = .int .i64 (i : Nat))
    (p2 : lraE_val gT i 2 (x.tmps.getD 13 undef) w)
    : wpOpIn Fc nC Tryz.prog lra6_ops Q 3 (fun a' w' => ∃ v, a' = x.put (some 14) v ∧ (v = .bool true) ∧ Below w.heap.size w w') x w := by
  have ho : lra6_ops[3]? = some lra6_o3 := rfl
  simp only [Array.getD_eq_getD_getElem?] at u1 u2 u3
  have q2 : x.tmps.getD 13 undef = .bool true := p2
  simp only [Array.getD_eq_getD_getElem?] at q2
  refine wpOpIn_plain ho rfl (oper_inK hF.fn (fun K hK => ?_))
  clear ho
  rw [Oper.semAt_plain Fc _ _ (by intro c h; cases h)]
  simp only [lra6_o3]
  go_simp
  exact hK _ _ ⟨_, act_putD x hdef _ _, rfl, Below.refl _ _⟩
set_option maxRecDepth 100000 in
set_option maxHeartbeats 2000000 in
theorem lraE_s4 {Fc : Fence} (hF : Wide Fc) {nC : Nat} (gT i : Nat) (Q : Exit → Act → World → Prop) (df : List Deferred) (w0 : World)
    (hi : i < 22)
    (x : Act) (w : World) (hB : Below w0.heap.size w0 w) (hdef : x.defers = df) (u1 : x.tmps.getD 1 undef = .slice none 0 0) (u2 : x.tmps.getD 2 undef = .slice (some ⟨gT, 0, none⟩) 22 22) (u3 : x.tmps.getD 3 undef = .int .i64 (i : Nat))
    (p3 : lraE_val gT i 3 (x.tmps.getD 14 undef) w)
    : wpOpIn Fc nC Tryz.prog lra6_ops Q 4 (fun a' w' => ∃ v, a' = x.put (some 15) v ∧ (v = undef) ∧ Below w.heap.size w w') x w := by
  have ho : lra6_ops[4]? = some lra6_o4 := rfl
  simp only [Array.getD_eq_getD_getElem?] at u1 u2 u3
  have q3 : x.tmps.getD 14 undef = .bool true := p3
  simp only [Array.getD_eq_getD_getElem?] at q3
  have e3 : (lra6_ops[3]?.bind fun x => x.dst) = some 14 := rfl
  have g3 := get_someT q3 (fun h => by cases h)
  refine wpOpIn_stepT hF ho (fun K hK => ?_)
  clear ho
  rw [Oper.semAt_plain Fc _ _ (by intro c h; cases h)]
  simp only [lra6_o4]
  go_simp
  exact hK _ _ ⟨_, act_putD x hdef _ _, rfl, Below.refl _ _⟩
set_option maxRecDepth 100000 in
set_option maxHeartbeats 2000000 in
theorem lraE_s5 {Fc : Fence} (hF : Wide Fc) {nC : Nat} (gT i : Nat) (Q : Exit → Act → World → Prop) (df : List Deferred) (w0 : World)
    (hi : i < 22)
    (x : Act) (w : World) (hB : Below w0.heap.size w0 w) (hdef : x.defers = df) (u1 : x.tmps.getD 1 undef = .slice none 0 0) (u2 : x.tmps.getD 2 undef = .slice (some ⟨gT, 0, none⟩) 22 22) (u3 : x.tmps.getD 3 undef = .int .i64 (i : Nat))
    (p3 : lraE_val gT i 3 (x.tmps.getD 14 undef) w)
    : wpOpIn Fc nC Tryz.prog lra6_ops Q 5 (fun a' w' => ∃ v, a' = x.put (some 16) v ∧ (v = undef) ∧ Below w.heap.size w w') x w := by
  have ho : lra6_ops[5]? = some lra6_o5 := rfl
  simp only [Array.getD_eq_getD_getElem?] at u1 u2 u3
  have q3 : x.tmps.getD 14 undef = .bool true := p3
  simp only [Array.getD_eq_getD_getElem?] at q3
  have e3 : (lra6_ops[3]?.bind fun x => x.dst) = some 14 := rfl
  have g3 := get_someT q3 (fun h => by cases h)
  refine wpOpIn_stepT hF ho (fun K hK => ?_)
  clear ho
  rw [Oper.semAt_plain Fc _ _ (by intro c h; cases h)]
  simp only [lra6_o5]
  go_simp
  exact hK _ _ ⟨_, act_putD x hdef _ _, rfl, Below.refl _ _⟩
set_option maxRecDepth 100000 in
set_option maxHeartbeats 2000000 in
theorem lraE_s6 {Fc : Fence} (hF : Wide Fc) {nC : Nat} (gT i : Nat) (Q : Exit → Act → World → Prop) (df : List Deferred) (w0 : World)
    (hi : i < 22)
    (x : Act) (w : World) (hB : Below w0.heap.size w0 w) (hdef : x.defers = df) (u1 : x.tmps.getD 1 undef = .slice none 0 0) (u2 : x.tmps.getD 2 undef = .slice (some ⟨gT, 0, none⟩) 22 22) (u3 : x.tmps.getD 3 undef = .int .i64 (i : Nat))
    (p5 : lraE_val gT i 5 (x.tmps.getD 16 undef) w)
    (p3 : lraE_val gT i 3 (x.tmps.getD 14 undef) w)
    : wpOpIn Fc nC Tryz.prog lra6_ops Q 6 (fun a' w' => ∃ v, a' = x.put (some 17) v ∧ (v = undef) ∧ Below w.heap.size w w') x w := by
  have ho : lra6_ops[6]? = some lra6_o6 := rfl
  simp only [Array.getD_eq_getD_getElem?] at u1 u2 u3
  have q5 : x.tmps.getD 16 undef = undef := p5
  have q3 : x.tmps.getD 14 undef = .bool true := p3
  simp only [Array.getD_eq_getD_getElem?] at q5 q3
  have e3 : (lra6_ops[3]?.bind fun x => x.dst) = some 14 := rfl
  have g3 := get_someT q3 (fun h => by cases h)
  refine wpOpIn_stepT hF ho (fun K hK => ?_)
  clear ho
  rw [Oper.semAt_plain Fc _ _ (by intro c h; cases h)]
  simp only [lra6_o6]
  go_simp
  exact hK _ _ ⟨_, act_putD x hdef _ _, rfl, Below.refl _ _⟩
set_option maxRecDepth 100000 in
set_option maxHeartbeats 2000000 in
theorem lraE_s7 {Fc : Fence} (hF : Wide Fc) {nC : Nat} (gT i : Nat) (Q : Exit → Act → World → Prop) (df : List Deferred) (w0 : World)
    (hi : i < 22)
    (x : Act) (w : World) (hB : Below w0.heap.size w0 w) (hdef : x.defers = df) (u1 : x.tmps.getD 1 undef = .slice none 0 0) (u2 : x.tmps.getD 2 undef = .slice (some ⟨gT, 0, none⟩) 22 22) (u3 : x.tmps.getD 3 undef = .int .i64 (i : Nat))
    (p6 : lraE_val gT i 6 (x.tmps.getD 17 undef) w)
    (p3 : lraE_val gT i 3 (x.tmps.getD 14 undef) w)
    : wpOpIn Fc nC Tryz.prog lra6_ops Q 7 (fun a' w' => ∃ v, a' = x.put (some 18) v ∧ (v = undef) ∧ Below w.heap.size w w') x w := by
  have ho : lra6_ops[7]? = some lra6_o7 := rfl
  simp only [Array.getD_eq_getD_getElem?] at u1 u2 u3
  have q6 : x.tmps.getD 17 undef = undef := p6
  have q3 : x.tmps.getD 14 undef = .bool true := p3
  simp only [Array.getD_eq_getD_getElem?] at q6 q3
  have e3 : (lra6_ops[3]?.bind fun x => x.dst) = some 14 := rfl
  have g3 := get_someT q3 (fun h => by cases h)
  refine wpOpIn_stepT hF ho (fun K hK => ?_)
  clear ho
  rw [Oper.semAt_plain Fc _ _ (by intro c h; cases h)]
  simp only [lra6_o7]
  go_simp
  exact hK _ _ ⟨_, act_putD x hdef _ _, rfl, Below.refl _ _⟩
set_option maxRecDepth 100000 in
set_option maxHeartbeats 2000000 in
theorem lraE_s8 {Fc : Fence} (hF : Wide Fc) {nC : Nat} (gT i : Nat) (Q : Exit → Act → World → Prop) (df : List Deferred) (w0 : World)
    (hi : i < 22)
    (x : Act) (w : World) (hB : Below w0.heap.size w0 w) (hdef : x.defers = df) (u1 : x.tmps.getD 1 undef = .slice none 0 0) (u2 : x.tmps.getD 2 undef = .slice (some ⟨gT, 0, none⟩) 22 22) (u3 : x.tmps.getD 3 undef = .int .i64 (i : Nat))
    (p4 : lraE_val gT i 4 (x.tmps.getD 15 undef) w)
    (p7 : lraE_val gT i 7 (x.tmps.getD 18 undef) w)
    (p3 : lraE_val gT i 3 (x.tmps.getD 14 undef) w)
    : wpOpIn Fc nC Tryz.prog lra6_ops Q 8 (fun a' w' => ∃ v, a' = x.put (some 19) v ∧ (v = undef) ∧ Below w.heap.size w w') x w := by
  have ho : lra6_ops[8]? = some lra6_o8 := rfl
  simp only [Array.getD_eq_getD_getElem?] at u1 u2 u3
  have q4 : x.tmps.getD 15 undef = undef := p4
  have q7 : x.tmps.getD 18 undef = undef := p7
  have q3 : x.tmps.getD 14 undef = .bool true := p3
  simp only [Array.getD_eq_getD_getElem?] at q4 q7 q3
  have e3 : (lra6_ops[3]?.bind fun x => x.dst) = some 14 := rfl
  have g3 := get_someT q3 (fun h => by cases h)
  refine wpOpIn_stepT hF ho (fun K hK => ?_)
  clear ho
  rw [Oper.semAt_plain Fc _ _ (by intro c h; cases h)]
  simp only [lra6_o8]
  go_simp
  exact hK _ _ ⟨_, act_putD x hdef _ _, rfl, Below.refl _ _⟩
set_option maxRecDepth 100000 in
set_option maxHeartbeats 2000000 in
theorem lraE_s9 {Fc : Fence} (hF : Wide Fc) {nC : Nat} (gT i : Nat) (Q : Exit → Act → World → Prop) (df : List Deferred) (w0 : World)
    (hi : i < 22)
    (x : Act) (w : World) (hB : Below w0.heap.size w0 w) (hdef : x.defers = df) (u1 : x.tmps.getD 1 undef = .slice none 0 0) (u2 : x.tmps.getD 2 undef = .slice (some ⟨gT, 0, none⟩) 22 22) (u3 : x.tmps.getD 3 undef = .int .i64 (i : Nat))
    (p8 : lraE_val gT i 8 (x.tmps.getD 19 undef) w)
    (p3 : lraE_val gT i 3 (x.tmps.getD 14 undef) w)
    : wpOpIn Fc nC Tryz.prog lra6_ops Q 9 (fun a' w' => ∃ v, a' = x.put (some 20) v ∧ (v = undef) ∧ Below w.heap.size w w') x w := by
  have ho : lra6_ops[9]? = some lra6_o9 := rfl
  simp only [Array.getD_eq_getD_getElem?] at u1 u2 u3
  have q8 : x.tmps.getD 19 undef = undef := p8
  have q3 : x.tmps.getD 14 undef = .bool true := p3
  simp only [Array.getD_eq_getD_getElem?] at q8 q3
  have e3 : (lra6_ops[3]?.bind fun x => x.dst) = some 14 := rfl
  have g3 := get_someT q3 (fun h => by cases h)
  refine wpOpIn_stepT hF ho (fun K hK => ?_)
  clear ho
  rw [Oper.semAt_plain Fc _ _ (by intro c h; cases h)]
  simp only [lra6_o9]
  go_simp
  exact hK _ _ ⟨_, act_putD x hdef _ _, rfl, Below.refl _ _⟩
set_option maxRecDepth 100000 in
set_option maxHeartbeats 2000000 in
theorem lraE_s10 {Fc : Fence} (hF : Wide Fc) {nC : Nat} (gT i : Nat) (Q : Exit → Act → World → Prop) (df : List Deferred) (w0 : World)
    (hi : i < 22)
    (x : Act) (w : World) (hB : Below w0.heap.size w0 w) (hdef : x.defers = df) (u1 : x.tmps.getD 1 undef = .slice none 0 0) (u2 : x.tmps.getD 2 undef = .slice (some ⟨gT, 0, none⟩) 22 22) (u3 : x.tmps.getD 3 undef = .int .i64 (i : Nat))
    (p3 : lraE_val gT i 3 (x.tmps.getD 14 undef) w)
    : wpOpIn Fc nC Tryz.prog lra6_ops Q 10 (fun a' w' => ∃ v, a' = x.put (some 21) v ∧ (v = undef) ∧ Below w.heap.size w w') x w := by
  have ho : lra6_ops[10]? = some lra6_o10 := rfl
  simp only [Array.getD_eq_getD_getElem?] at u1 u2 u3
  have q3 : x.tmps.getD 14 undef = .bool true := p3
  simp only [Array.getD_eq_getD_getElem?] at q3
  have e3 : (lra6_ops[3]?.bind fun x => x.dst) = some 14 := rfl
  have g3 := get_someT q3 (fun h => by cases h)
  refine wpOpIn_stepT hF ho (fun K hK => ?_)
  clear ho
  rw [Oper.semAt_plain Fc _ _ (by intro c h; cases h)]
  simp only [lra6_o10]
  go_simp
  exact hK _ _ ⟨_, act_putD x hdef _ _, rfl, Below.refl _ _⟩
set_option maxRecDepth 100000 in
set_option maxHeartbeats 2000000 in
theorem lraE_s11 {Fc : Fence} (hF : Wide Fc) {nC : Nat} (gT i : Nat) (Q : Exit → Act → World → Prop) (df : List Deferred) (w0 : World)
    (hi : i < 22)
    (x : Act) (w : World) (hB : Below w0.heap.size w0 w) (hdef : x.defers = df) (u1 : x.tmps.getD 1 undef = .slice none 0 0) (u2 : x.tmps.getD 2 undef = .slice (some ⟨gT, 0, none⟩) 22 22) (u3 : x.tmps.getD 3 undef = .int .i64 (i : Nat))
    (p3 : lraE_val gT i 3 (x.tmps.getD 14 undef) w)
    : wpOpIn Fc nC Tryz.prog lra6_ops Q 11 (fun a' w' => ∃ v, a' = x.put (some 22) v ∧ (v = undef) ∧ Below w.heap.size w w') x w := by
  have ho : lra6_ops[11]? = some lra6_o11 := rfl
  simp only [Array.getD_eq_getD_getElem?] at u1 u2 u3
  have q3 : x.tmps.getD 14 undef = .bool true := p3
  simp only [Array.getD_eq_getD_getElem?] at q3
  have e3 : (lra6_ops[3]?.bind fun x => x.dst) = some 14 := rfl
  have g3 := get_someT q3 (fun h => by cases h)
  refine wpOpIn_stepT hF ho (fun K hK => ?_)
  clear ho
  rw [Oper.semAt_plain Fc _ _ (by intro c h; cases h)]
  simp only [lra6_o11]
  go_simp
  exact hK _ _ ⟨_, act_putD x hdef _ _, rfl, Below.refl _ _⟩
set_option maxRecDepth 100000 in
set_option maxHeartbeats 2000000 in
theorem lraE_s12 {Fc : Fence} (hF : Wide Fc) {nC : Nat} (gT i : Nat) (Q : Exit → Act → World → Prop) (df : List Deferred) (w0 : World)
    (hi : i < 22)
    (x : Act) (w : World) (hB : Below w0.heap.size w0 w) (hdef : x.defers = df) (u1 : x.tmps.getD 1 undef = .slice none 0 0) (u2 : x.tmps.getD 2 undef = .slice (some ⟨gT, 0, none⟩) 22 22) (u3 : x.tmps.getD 3 undef = .int .i64 (i : Nat))
    (p10 : lraE_val gT i 10 (x.tmps.getD 21 undef) w)
    (p11 : lraE_val gT i 11 (x.tmps.getD 22 undef) w)
    (p3 : lraE_val gT i 3 (x.tmps.getD 14 undef) w)
    : wpOpIn Fc nC Tryz.prog lra6_ops Q 12 (fun a' w' => ∃ v, a' = x.put (some 23) v ∧ (v = undef) ∧ Below w.heap.size w w') x w := by
  have ho : lra6_ops[12]? = some lra6_o12 := rfl
  simp only [Array.getD_eq_getD_getElem?] at u1 u2 u3
  have q10 : x.tmps.getD 21 undef = undef := p10
  have q11 : x.tmps.getD 22 undef = undef := p11
  have q3 : x.tmps.getD 14 undef = .bool true := p3
  simp only [Array.getD_eq_getD_getElem?] at q10 q11 q3
  have e3 : (lra6_ops[3]?.bind fun x => x.dst) = some 14 := rfl
  have g3 := get_someT q3 (fun h => by cases h)
  refine wpOpIn_stepT hF ho (fun K hK => ?_)
  clear ho
  rw [Oper.semAt_plain Fc _ _ (by intro c h; cases h)]
  simp only [lra6_o12]
  go_simp
  exact hK _ _ ⟨_, act_putD x hdef _ _, rfl, Below.refl _ _⟩
set_option maxRecDepth 100000 in
set_option maxHeartbeats 2000000 in
theorem lraE_s13 {Fc : Fence} (hF : Wide Fc) {nC : Nat} (gT i : Nat) (Q : Exit → Act → World → Prop) (df : List Deferred) (w0 : World)
    (hi : i < 22)
    (x : Act) (w : World) (hB : Below w0.heap.size w0 w) (hdef : x.defers = df) (u1 : x.tmps.getD 1 undef = .slice none 0 0) (u2 : x.tmps.getD 2 undef = .slice (some ⟨gT, 0, none⟩) 22 22) (u3 : x.tmps.getD 3 undef = .int .i64 (i : Nat))
    (p12 : lraE_val gT i 12 (x.tmps.getD 23 undef) w)
    (p3 : lraE_val gT i 3 (x.tmps.getD 14 undef) w)
    : wpOpIn Fc nC Tryz.prog lra6_ops Q 13 (fun a' w' => ∃ v, a' = x.put (some 24) v ∧ (v = undef) ∧ Below w.heap.size w w') x w := by
  have ho : lra6_ops[13]? = some lra6_o13 := rfl
  simp only [Array.getD_eq_getD_getElem?] at u1 u2 u3
  have q12 : x.tmps.getD 23 undef = undef := p12
  have q3 : x.tmps.getD 14 undef = .bool true := p3
  simp only [Array.getD_eq_getD_getElem?] at q12 q3
  have e3 : (lra6_ops[3]?.bind fun x => x.dst) = some 14 := rfl
  have g3 := get_someT q3 (fun h => by cases h)
  refine wpOpIn_stepT hF ho (fun K hK => ?_)
  clear ho
  rw [Oper.semAt_plain Fc _ _ (by intro c h; cases h)]
  simp only [lra6_o13]
  go_simp
  exact hK _ _ ⟨_, act_putD x hdef _ _, rfl, Below.refl _ _⟩
set_option maxRecDepth 100000 in
set_option maxHeartbeats 2000000 in
theorem lraE_s14 {Fc : Fence} (hF : Wide Fc) {nC : Nat} (gT i : Nat) (Q : Exit → Act → World → Prop) (df : List Deferred) (w0 : World)
    (hi : i < 22)
    (x : Act) (w : World) (hB : Below w0.heap.size w0 w) (hdef : x.defers = df) (u1 : x.tmps.getD 1 undef = .slice none 0 0) (u2 : x.tmps.getD 2 undef = .slice (some ⟨gT, 0, none⟩) 22 22) (u3 : x.tmps.getD 3 undef = .int .i64 (i : Nat))
    (p13 : lraE_val gT i 13 (x.tmps.getD 24 undef) w)
    (p3 : lraE_val gT i 3 (x.tmps.getD 14 undef) w)
    : wpOpIn Fc nC Tryz.prog lra6_ops Q 14 (fun a' w' => ∃ v, a' = x.put (some 25) v ∧ (v = undef) ∧ Below w.heap.size w w') x w := by
  have ho : lra6_ops[14]? = some lra6_o14 := rfl
  simp only [Array.getD_eq_getD_getElem?] at u1 u2 u3
  have q13 : x.tmps.getD 24 undef = undef := p13
  have q3 : x.tmps.getD 14 undef = .bool true := p3
  simp only [Array.getD_eq_getD_getElem?] at q13 q3
  have e3 : (lra6_ops[3]?.bind fun x => x.dst) = some 14 := rfl
  have g3 := get_someT q3 (fun h => by cases h)
  refine wpOpIn_stepT hF ho (fun K hK => ?_)
  clear ho
  rw [Oper.semAt_plain Fc _ _ (by intro c h; cases h)]
  simp only [lra6_o14]
  go_simp
  exact hK _ _ ⟨_, act_putD x hdef _ _, rfl, Below.refl _ _⟩
set_option maxRecDepth 100000 in
set_option maxHeartbeats 2000000 in
theorem lraE_s15 {Fc : Fence} (hF : Wide Fc) {nC : Nat} (gT i : Nat) (Q : Exit → Act → World → Prop) (df : List Deferred) (w0 : World)
    (hi : i < 22)
    (x : Act) (w : World) (hB : Below w0.heap.size w0 w) (hdef : x.defers = df) (u1 : x.tmps.getD 1 undef = .slice none 0 0) (u2 : x.tmps.getD 2 undef = .slice (some ⟨gT, 0, none⟩) 22 22) (u3 : x.tmps.getD 3 undef = .int .i64 (i : Nat))
    (p9 : lraE_val gT i 9 (x.tmps.getD 20 undef) w)
    (p14 : lraE_val gT i 14 (x.tmps.getD 25 undef) w)
    (p3 : lraE_val gT i 3 (x.tmps.getD 14 undef) w)
    : wpOpIn Fc nC Tryz.prog lra6_ops Q 15 (fun a' w' => ∃ v, a' = x.put (some 26) v ∧ (v = undef) ∧ Below w.heap.size w w') x w := by
  have ho : lra6_ops[15]? = some lra6_o15 := rfl
  simp only [Array.getD_eq_getD_getElem?] at u1 u2 u3
  have q9 : x.tmps.getD 20 undef = undef := p9
  have q14 : x.tmps.getD 25 undef = undef := p14
  have q3 : x.tmps.getD 14 undef = .bool true := p3
  simp only [Array.getD_eq_getD_getElem?] at q9 q14 q3
  have e3 : (lra6_ops[3]?.bind fun x => x.dst) = some 14 := rfl
  have g3 := get_someT q3 (fun h => by cases h)
  refine wpOpIn_stepT hF ho (fun K hK => ?_)
  clear ho
  rw [Oper.semAt_plain Fc _ _ (by intro c h; cases h)]
  simp only [lra6_o15]
  go_simp
  exact hK _ _ ⟨_, act_putD x hdef _ _, rfl, Below.refl _ _⟩
set_option maxRecDepth 100000 in
set_option maxHeartbeats 2000000 in
theorem lraE_s16 {Fc : Fence} (hF : Wide Fc) {nC : Nat} (gT i : Nat) (Q : Exit → Act → World → Prop) (df : List Deferred) (w0 : World)
    (hi : i < 22)
    (x : Act) (w : World) (hB : Below w0.heap.size w0 w) (hdef : x.defers = df) (u1 : x.tmps.getD 1 undef = .slice none 0 0) (u2 : x.tmps.getD 2 undef = .slice (some ⟨gT, 0, none⟩) 22 22) (u3 : x.tmps.getD 3 undef = .int .i64 (i : Nat))
    (p3 : lraE_val gT i 3 (x.tmps.getD 14 undef) w)
    (p15 : lraE_val gT i 15 (x.tmps.getD 26 undef) w)
    : wpOpIn Fc nC Tryz.prog lra6_ops Q 16 (fun a' w' => ∃ v, a' = x.put (some 27) v ∧ (v = .bool true) ∧ Below w.heap.size w w') x w := by
  have ho : lra6_ops[16]? = some lra6_o16 := rfl
  simp only [Array.getD_eq_getD_getElem?] at u1 u2 u3
  have q3 : x.tmps.getD 14 undef = .bool true := p3
  have q15 : x.tmps.getD 26 undef = undef := p15
  simp only [Array.getD_eq_getD_getElem?] at q3 q15
  refine wpOpIn_plain ho rfl (oper_inK hF.fn (fun K hK => ?_))
  clear ho
  rw [Oper.semAt_plain Fc _ _ (by intro c h; cases h)]
  simp only [lra6_o16]
  go_simp
  exact hK _ _ ⟨_, act_putD x hdef _ _, rfl, Below.refl _ _⟩

set_option maxRecDepth 100000 in
set_option maxHeartbeats 4000000 in
theorem lraE {Fc : Fence} (hF : Wide Fc) {nC : Nat} (gT i : Nat) (Q : Exit → Act → World → Prop) (t0 : Array Value) (df : List Deferred) (w0 : World) (ht : t0.size = 37)
    (hs1 : t0.getD 1 undef = .slice none 0 0) (hs2 : t0.getD 2 undef = .slice (some ⟨gT, 0, none⟩) 22 22) (hs3 : t0.getD 3 undef = .int .i64 (i : Nat))
    (hi : i < 22)
    (hQ : ∀ (vs : Nat → Value) (w : World), Below w0.heap.size w0 w → (vs 27 = .bool true) → Q .normal { tmps := [11, 12, 13, 14, 15, 16, 17, 18, 19, 20, 21, 22, 23, 24, 25, 26, 27].foldl (fun y d => y.setIfInBounds d (vs d)) t0, defers := df } w) :
    (Code.region 6 lra6_ops true).wpIn Fc nC Tryz.prog Q { tmps := t0, defers := df } w0 := by
  refine wpIn_region_tail 17 (by decide) (by kernel_rfl) (fun a b => Below a.heap.size a b) (lraE_val gT i) t0 df w0 (by rw [ht]; kernel_rfl) (by kernel_rfl) (by kernel_rfl) (by kernel_rfl) ((Below.refl _ _).drew) (fun _ _ _ h k => h.trans (k.mono h.size)) (lraE_below gT i) ?_ ?_
  · intro j o ho hj x w hB hdef hsz hs hdeps
    have hs' : ∀ s, ¬ lra6_mem s → x.tmps.getD s undef = t0.getD s undef := fun s hn => hs s (fun j hj e => hn (by rw [e]; exact lra6_slots j hj))
    have u1 := (hs' 1 (by decide)).trans hs1
    have u2 := (hs' 2 (by decide)).trans hs2
    have u3 := (hs' 3 (by decide)).trans hs3
    match j, ho, hj with
    | 0, ho, _ =>
      have e : o = lra6_o0 := (Option.some.inj ho).symm
      subst e
      exact lraE_s0 hF gT i Q df w0 hi x w hB hdef u1 u2 u3 
    | 1, ho, _ =>
      have e : o = lra6_o1 := (Option.some.inj ho).symm
      subst e
      exact lraE_s1 hF gT i Q df w0 hi x w hB hdef u1 u2 u3 (hdeps { on := 0, ground := Ground.data } (by simp) rfl)
    | 2, ho, _ =>
      have e : o = lra6_o2 := (Option.some.inj ho).symm
      subst e
      exact lraE_s2 hF gT i Q df w0 hi x w hB hdef u1 u2 u3 (hdeps { on := 1, ground := Ground.data } (by simp) rfl)
    | 3, ho, _ =>
      have e : o = lra6_o3 := (Option.some.inj ho).symm
      subst e
      exact lraE_s3 hF gT i Q df w0 hi x w hB hdef u1 u2 u3 (hdeps { on := 2, ground := Ground.data } (by simp) rfl)
    | 4, ho, _ =>
      have e : o = lra6_o4 := (Option.some.inj ho).symm
      subst e
      exact lraE_s4 hF gT i Q df w0 hi x w hB hdef u1 u2 u3 (hdeps { on := 3, ground := Ground.guard } (by simp) rfl)
    | 5, ho, _ =>
      have e : o = lra6_o5 := (Option.some.inj ho).symm
      subst e
      exact lraE_s5 hF gT i Q df w0 hi x w hB hdef u1 u2 u3 (hdeps { on := 3, ground := Ground.guard } (by simp) rfl)
    | 6, ho, _ =>
      have e : o = lra6_o6 := (Option.some.inj ho).symm
      subst e
      exact lraE_s6 hF gT i Q df w0 hi x w hB hdef u1 u2 u3 (hdeps { on := 5, ground := Ground.data } (by simp) rfl) (hdeps { on := 3, ground := Ground.guard } (by simp) rfl)
    | 7, ho, _ =>
      have e : o = lra6_o7 := (Option.some.inj ho).symm
      subst e
      exact lraE_s7 hF gT i Q df w0 hi x w hB hdef u1 u2 u3 (hdeps { on := 6, ground := Ground.data } (by simp) rfl) (hdeps { on := 3, ground := Ground.guard } (by simp) rfl)
    | 8, ho, _ =>
      have e : o = lra6_o8 := (Option.some.inj ho).symm
      subst e
      exact lraE_s8 hF gT i Q df w0 hi x w hB hdef u1 u2 u3 (hdeps { on := 4, ground := Ground.data } (by simp) rfl) (hdeps { on := 7, ground := Ground.data } (by simp) rfl) (hdeps { on := 3, ground := Ground.guard } (by simp) rfl)
    | 9, ho, _ =>
      have e : o = lra6_o9 := (Option.some.inj ho).symm
      subst e
      exact lraE_s9 hF gT i Q df w0 hi x w hB hdef u1 u2 u3 (hdeps { on := 8, ground := Ground.data } (by simp) rfl) (hdeps { on := 3, ground := Ground.guard } (by simp) rfl)
    | 10, ho, _ =>
      have e : o = lra6_o10 := (Option.some.inj ho).symm
      subst e
      exact lraE_s10 hF gT i Q df w0 hi x w hB hdef u1 u2 u3 (hdeps { on := 3, ground := Ground.guard } (by simp) rfl)
    | 11, ho, _ =>
      have e : o = lra6_o11 := (Option.some.inj ho).symm
      subst e
      exact lraE_s11 hF gT i Q df w0 hi x w hB hdef u1 u2 u3 (hdeps { on := 3, ground := Ground.guard } (by simp) rfl)
    | 12, ho, _ =>
      have e : o = lra6_o12 := (Option.some.inj ho).symm
      subst e
      exact lraE_s12 hF gT i Q df w0 hi x w hB hdef u1 u2 u3 (hdeps { on := 10, ground := Ground.data } (by simp) rfl) (hdeps { on := 11, ground := Ground.data } (by simp) rfl) (hdeps { on := 3, ground := Ground.guard } (by simp) rfl)
    | 13, ho, _ =>
      have e : o = lra6_o13 := (Option.some.inj ho).symm
      subst e
      exact lraE_s13 hF gT i Q df w0 hi x w hB hdef u1 u2 u3 (hdeps { on := 12, ground := Ground.data } (by simp) rfl) (hdeps { on := 3, ground := Ground.guard } (by simp) rfl)
    | 14, ho, _ =>
      have e : o = lra6_o14 := (Option.some.inj ho).symm
      subst e
      exact lraE_s14 hF gT i Q df w0 hi x w hB hdef u1 u2 u3 (hdeps { on := 13, ground := Ground.data } (by simp) rfl) (hdeps { on := 3, ground := Ground.guard } (by simp) rfl)
    | 15, ho, _ =>
      have e : o = lra6_o15 := (Option.some.inj ho).symm
      subst e
      exact lraE_s15 hF gT i Q df w0 hi x w hB hdef u1 u2 u3 (hdeps { on := 9, ground := Ground.data } (by simp) rfl) (hdeps { on := 14, ground := Ground.data } (by simp) rfl) (hdeps { on := 3, ground := Ground.guard } (by simp) rfl)
    | 16, ho, _ =>
      have e : o = lra6_o16 := (Option.some.inj ho).symm
      subst e
      exact lraE_s16 hF gT i Q df w0 hi x w hB hdef u1 u2 u3 (hdeps { on := 3, ground := Ground.data } (by simp) rfl) (hdeps { on := 15, ground := Ground.data } (by simp) rfl)
    | k + 17, _, hj => omega
  · intro x w hB hdef hsz hs hv
    have hx := frame_sets x.tmps t0 hsz [11, 12, 13, 14, 15, 16, 17, 18, 19, 20, 21, 22, 23, 24, 25, 26, 27] (fun s hn => hs s (fun j hj e => hn (by rw [e]; exact lra6_slots j hj)))
    have hq := hQ (fun d => x.tmps.getD d undef) w hB (hv 16 (by decide))
    obtain ⟨T, Df⟩ := x
    dsimp only at hx hdef hq
    subst hdef
    rw [← hx] at hq
    exact hq
def lraF_val (gT gO mp cO i : Nat) (X Y : List UInt8) (B : Bool) : Nat → Value → World → Prop
  | 0, v, w => v = .slice (some ⟨gO, 0, none⟩) (mp + 1) cO
  | 1, v, w => v = .int .i64 ((mp + 1) : Nat)
  | 2, v, w => v = .bool false
  | 3, v, w => v = .bool false
  | 4, v, w => v = .slice (some ⟨gO, 0, none⟩) (mp + 1) cO
  | 5, v, w => v = .slice (some ⟨gO, 0, none⟩) (mp + 1) cO
  | 6, v, w => v = .int .i64 ((mp + 1) : Nat)
  | 7, v, w => v = .int .i64 (mp : Nat)
  | 8, v, w => v = .pointer (some ⟨gO, mp, none⟩)
  | 9, v, w => v = by8 X
  | 10, v, w => v = .slice (some ⟨gT, 0, none⟩) 22 22
  | 11, v, w => v = .int .i64 (i : Nat)
  | 12, v, w => v = .pointer (some ⟨gT, i * 2, none⟩)
  | 13, v, w => v = .pointer (some ⟨gT, i * 2 + 1, none⟩)
  | 14, v, w => v = by8 Y
  | 15, v, w => v = .bool B
  | 16, v, w => v = .bool B
  | _, _, _ => True
theorem lraF_below (gT gO mp cO i : Nat) (X Y : List UInt8) (B : Bool) (w w' : World) (hb : Below w.heap.size w w') : ∀ j v, lraF_val gT gO mp cO i X Y B j v w → lraF_val gT gO mp cO i X Y B j v w' := by
  intro j v h
  match j, h with
  | 0, h => exact h
  | 1, h => exact h
  | 2, h => exact h
  | 3, h => exact h
  | 4, h => exact h
  | 5, h => exact h
  | 6, h => exact h
  | 7, h => exact h
  | 8, h => exact h
  | 9, h => exact h
  | 10, h => exact h
  | 11, h => exact h
  | 12, h => exact h
  | 13, h => exact h
  | 14, h => exact h
  | 15, h => exact h
  | 16, h => exact h
  | _ + 17, h => exact h
set_option maxRecDepth 100000 in
set_option maxHeartbeats 2000000 in
theorem lraF_s0 {Fc : Fence} (hF : Wide Fc) {nC : Nat} (gT gO mp cO i : Nat) (X Y : List UInt8) (B : Bool) (Q : Exit → Act → World → Prop) (df : List Deferred) (w0 : World)
    (hi : i < 22) (hm : mp + 1 ≤ 22) (hX : w0.cell? ⟨gO, mp, none⟩ = some (by8 X)) (hY : w0.cell? ⟨gT, i * 2 + 1, none⟩ = some (by8 Y)) (hBq : (X == Y) = !B)
    (x : Act) (w : World) (hB : Below w0.heap.size w0 w) (hdef : x.defers = df) (u1 : x.tmps.getD 1 undef = .slice (some ⟨gO, 0, none⟩) (mp + 1) cO) (u2 : x.tmps.getD 2 undef = .slice (some ⟨gT, 0, none⟩) 22 22) (u3 : x.tmps.getD 3 undef = .int .i64 (i : Nat))
    : wpOpIn Fc nC Tryz.prog lra6_ops Q 0 (fun a' w' => ∃ v, a' = x.put (some 11) v ∧ (v = .slice (some ⟨gO, 0, none⟩) (mp + 1) cO) ∧ Below w.heap.size w w') x w := by
  have ho : lra6_ops[0]? = some lra6_o0 := rfl
  simp only [Array.getD_eq_getD_getElem?] at u1 u2 u3
  refine wpOpIn_plain ho rfl (oper_inK hF.fn (fun K hK => ?_))
  clear ho
  rw [Oper.semAt_plain Fc _ _ (by intro c h; cases h)]
  simp only [lra6_o0]
  go_simp
  exact hK _ _ ⟨_, act_putD x hdef _ _, rfl, Below.refl _ _⟩
set_option maxRecDepth 100000 in
set_option maxHeartbeats 2000000 in
theorem lraF_s1 {Fc : Fence} (hF : Wide Fc) {nC : Nat} (gT gO mp cO i : Nat) (X Y : List UInt8) (B : Bool) (Q : Exit → Act → World → Prop) (df : List Deferred) (w0 : World)
    (hi : i < 22) (hm : mp + 1 ≤ 22) (hX : w0.cell? ⟨gO, mp, none⟩ = some (by8 X)) (hY : w0.cell? ⟨gT, i * 2 + 1, none⟩ = some (by8 Y)) (hBq : (X == Y) = !B)
    (x : Act) (w : World) (hB : Below w0.heap.size w0 w) (hdef : x.defers = df) (u1 : x.tmps.getD 1 undef = .slice (some ⟨gO, 0, none⟩) (mp + 1) cO) (u2 : x.tmps.getD 2 undef = .slice (some ⟨gT, 0, none⟩) 22 22) (u3 : x.tmps.getD 3 undef = .int .i64 (i : Nat))
    (p0 : lraF_val gT gO mp cO i X Y B 0 (x.tmps.getD 11 undef) w)
    : wpOpIn Fc nC Tryz.prog lra6_ops Q 1 (fun a' w' => ∃ v, a' = x.put (some 12) v ∧ (v = .int .i64 ((mp + 1) : Nat)) ∧ Below w.heap.size w w') x w := by
  have ho : lra6_ops[1]? = some lra6_o1 := rfl
  simp only [Array.getD_eq_getD_getElem?] at u1 u2 u3
  have q0 : x.tmps.getD 11 undef = .slice (some ⟨gO, 0, none⟩) (mp + 1) cO := p0
  simp only [Array.getD_eq_getD_getElem?] at q0
  refine wpOpIn_plain ho rfl (oper_inK hF.fn (fun K hK => ?_))
  clear ho
  rw [Oper.semAt_plain Fc _ _ (by intro c h; cases h)]
  simp only [lra6_o1]
  go_simp
  exact hK _ _ ⟨_, act_putD x hdef _ _, rfl, Below.refl _ _⟩
set_option maxRecDepth 100000 in
set_option maxHeartbeats 2000000 in
theorem lraF_s2 {Fc : Fence} (hF : Wide Fc) {nC : Nat} (gT gO mp cO i : Nat) (X Y : List UInt8) (B : Bool) (Q : Exit → Act → World → Prop) (df : List Deferred) (w0 : World)
    (hi : i < 22) (hm : mp + 1 ≤ 22) (hX : w0.cell? ⟨gO, mp, none⟩ = some (by8 X)) (hY : w0.cell? ⟨gT, i * 2 + 1, none⟩ = some (by8 Y)) (hBq : (X == Y) = !B)
    (x : Act) (w : World) (hB : Below w0.heap.size w0 w) (hdef : x.defers = df) (u1 : x.tmps.getD 1 undef = .slice (some ⟨gO, 0, none⟩) (mp + 1) cO) (u2 : x.tmps.getD 2 undef = .slice (some ⟨gT, 0, none⟩) 22 22) (u3 : x.tmps.getD 3 undef = .int .i64 (i : Nat))
    (p1 : lraF_val gT gO mp cO i X Y B 1 (x.tmps.getD 12 undef) w)
    : wpOpIn Fc nC Tryz.prog lra6_ops Q 2 (fun a' w' => ∃ v, a' = x.put (some 13) v ∧ (v = .bool false) ∧ Below w.heap.size w w') x w := by
  have ho : lra6_ops[2]? = some lra6_o2 := rfl
  simp only [Array.getD_eq_getD_getElem?] at u1 u2 u3
  have q1 : x.tmps.getD 12 undef = .int .i64 ((mp + 1) : Nat) := p1
  simp only [Array.getD_eq_getD_getElem?] at q1
  have e0 : ¬ ((mp + 1 : Nat) : Int) = 0 := by omega
  have e1 : (((mp + 1 : Nat) : Int) == 0) = false := by rw [beq_eq_false_iff_ne]; exact e0
  refine wpOpIn_plain ho rfl (oper_inK hF.fn (fun K hK => ?_))
  clear ho
  rw [Oper.semAt_plain Fc _ _ (by intro c h; cases h)]
  simp only [lra6_o2]
  go_simp
  exact hK _ _ ⟨_, act_putD x hdef _ _, rfl, Below.refl _ _⟩
set_option maxRecDepth 100000 in
set_option maxHeartbeats 2000000 in
theorem lraF_s3 {Fc : Fence} (hF : Wide Fc) {nC : Nat} (gT gO mp cO i : Nat) (X Y : List UInt8) (B : Bool) (Q : Exit → Act → World → Prop) (df : List Deferred) (w0 : World)
    (hi : i < 22) (hm : mp + 1 ≤ 22) (hX : w0.cell? ⟨gO, mp, none⟩ = some (by8 X)) (hY : w0.cell? ⟨gT, i * 2 + 1, none⟩ = some (by8 Y)) (hBq : (X == Y) = !B)
    (x : Act) (w : World) (hB : Below w0.heap.size w0 w) (hdef : x.defers = df) (u1 : x.tmps.getD 1 undef = .slice (some ⟨gO, 0, none⟩) (mp + 1) cO) (u2 : x.tmps.getD 2 undef = .slice (some ⟨gT, 0, none⟩) 22 22) (u3 : x.tmps.getD 3 undef = .int .i64 (i : Nat))
    (p2 : lraF_val gT gO mp cO i X Y B 2 (x.tmps.getD 13 undef) w)
    : wpOpIn Fc nC Tryz.prog lra6_ops Q 3 (fun a' w' => ∃ v, a' = x.put (some 14) v ∧ (v = .bool false) ∧ Below w.heap.size w w') x w := by
  have ho : lra6_ops[3]? = some lra6_o3 := rfl
  simp only [Array.getD_eq_getD_getElem?] at u1 u2 u3
  have q2 : x.tmps.getD 13 undef = .bool false := p2
  simp only [Array.getD_eq_getD_getElem?] at q2
  refine wpOpIn_plain ho rfl (oper_inK hF.fn (fun K hK => ?_))
  clear ho
  rw [Oper.semAt_plain Fc _ _ (by intro c h; cases h)]
  simp only [lra6_o3]
  go_simp
  exact hK _ _ ⟨_, act_putD x hdef _ _, rfl, Below.refl _ _⟩
set_option maxRecDepth 100000 in
set_option maxHeartbeats 2000000 in
theorem lraF_s4 {Fc : Fence} (hF : Wide Fc) {nC : Nat} (gT gO mp cO i : Nat) (X Y : List UInt8) (B : Bool) (Q : Exit → Act → World → Prop) (df : List Deferred) (w0 : World)
    (hi : i < 22) (hm : mp + 1 ≤ 22) (hX : w0.cell? ⟨gO, mp, none⟩ = some (by8 X)) (hY : w0.cell? ⟨gT, i * 2 + 1, none⟩ = some (by8 Y)) (hBq : (X == Y) = !B)
    (x : Act) (w : World) (hB : Below w0.heap.size w0 w) (hdef : x.defers = df) (u1 : x.tmps.getD 1 undef = .slice (some ⟨gO, 0, none⟩) (mp + 1) cO) (u2 : x.tmps.getD 2 undef = .slice (some ⟨gT, 0, none⟩) 22 22) (u3 : x.tmps.getD 3 undef = .int .i64 (i : Nat))
    (p3 : lraF_val gT gO mp cO i X Y B 3 (x.tmps.getD 14 undef) w)
    : wpOpIn Fc nC Tryz.prog lra6_ops Q 4 (fun a' w' => ∃ v, a' = x.put (some 15) v ∧ (v = .slice (some ⟨gO, 0, none⟩) (mp + 1) cO) ∧ Below w.heap.size w w') x w := by
  have ho : lra6_ops[4]? = some lra6_o4 := rfl
  simp only [Array.getD_eq_getD_getElem?] at u1 u2 u3
  have q3 : x.tmps.getD 14 undef = .bool false := p3
  simp only [Array.getD_eq_getD_getElem?] at q3
  have e3 : (lra6_ops[3]?.bind fun x => x.dst) = some 14 := rfl
  have g3 := get_someT q3 (fun h => by cases h)
  refine wpOpIn_stepT hF ho (fun K hK => ?_)
  clear ho
  rw [Oper.semAt_plain Fc _ _ (by intro c h; cases h)]
  simp only [lra6_o4]
  go_simp
  exact hK _ _ ⟨_, act_putD x hdef _ _, rfl, Below.refl _ _⟩
set_option maxRecDepth 100000 in
set_option maxHeartbeats 2000000 in
theorem lraF_s5 {Fc : Fence} (hF : Wide Fc) {nC : Nat} (gT gO mp cO i : Nat) (X Y : List UInt8) (B : Bool) (Q : Exit → Act → World → Prop) (df : List Deferred) (w0 : World)
    (hi : i < 22) (hm : mp + 1 ≤ 22) (hX : w0.cell? ⟨gO, mp, none⟩ = some (by8 X)) (hY : w0.cell? ⟨gT, i * 2 + 1, none⟩ = some (by8 Y)) (hBq : (X == Y) = !B)
    (x : Act) (w : World) (hB : Below w0.heap.size w0 w) (hdef : x.defers = df) (u1 : x.tmps.getD 1 undef = .slice (some ⟨gO, 0, none⟩) (mp + 1) cO) (u2 : x.tmps.getD 2 undef = .slice (some ⟨gT, 0, none⟩) 22 22) (u3 : x.tmps.getD 3 undef = .int .i64 (i : Nat))
    (p3 : lraF_val gT gO mp cO i X Y B 3 (x.tmps.getD 14 undef) w)
    : wpOpIn Fc nC Tryz.prog lra6_ops Q 5 (fun a' w' => ∃ v, a' = x.put (some 16) v ∧ (v = .slice (some ⟨gO, 0, none⟩) (mp + 1) cO) ∧ Below w.heap.size w w') x w := by
  have ho : lra6_ops[5]? = some lra6_o5 := rfl
  simp only [Array.getD_eq_getD_getElem?] at u1 u2 u3
  have q3 : x.tmps.getD 14 undef = .bool false := p3
  simp only [Array.getD_eq_getD_getElem?] at q3
  have e3 : (lra6_ops[3]?.bind fun x => x.dst) = some 14 := rfl
  have g3 := get_someT q3 (fun h => by cases h)
  refine wpOpIn_stepT hF ho (fun K hK => ?_)
  clear ho
  rw [Oper.semAt_plain Fc _ _ (by intro c h; cases h)]
  simp only [lra6_o5]
  go_simp
  exact hK _ _ ⟨_, act_putD x hdef _ _, rfl, Below.refl _ _⟩
set_option maxRecDepth 100000 in
set_option maxHeartbeats 2000000 in
theorem lraF_s6 {Fc : Fence} (hF : Wide Fc) {nC : Nat} (gT gO mp cO i : Nat) (X Y : List UInt8) (B : Bool) (Q : Exit → Act → World → Prop) (df : List Deferred) (w0 : World)
    (hi : i < 22) (hm : mp + 1 ≤ 22) (hX : w0.cell? ⟨gO, mp, none⟩ = some (by8 X)) (hY : w0.cell? ⟨gT, i * 2 + 1, none⟩ = some (by8 Y)) (hBq : (X == Y) = !B)
    (x : Act) (w : World) (hB : Below w0.heap.size w0 w) (hdef : x.defers = df) (u1 : x.tmps.getD 1 undef = .slice (some ⟨gO, 0, none⟩) (mp + 1) cO) (u2 : x.tmps.getD 2 undef = .slice (some ⟨gT, 0, none⟩) 22 22) (u3 : x.tmps.getD 3 undef = .int .i64 (i : Nat))
    (p5 : lraF_val gT gO mp cO i X Y B 5 (x.tmps.getD 16 undef) w)
    (p3 : lraF_val gT gO mp cO i X Y B 3 (x.tmps.getD 14 undef) w)
    : wpOpIn Fc nC Tryz.prog lra6_ops Q 6 (fun a' w' => ∃ v, a' = x.put (some 17) v ∧ (v = .int .i64 ((mp + 1) : Nat)) ∧ Below w.heap.size w w') x w := by
  have ho : lra6_ops[6]? = some lra6_o6 := rfl
  simp only [Array.getD_eq_getD_getElem?] at u1 u2 u3
  have q5 : x.tmps.getD 16 undef = .slice (some ⟨gO, 0, none⟩) (mp + 1) cO := p5
  have q3 : x.tmps.getD 14 undef = .bool false := p3
  simp only [Array.getD_eq_getD_getElem?] at q5 q3
  have e3 : (lra6_ops[3]?.bind fun x => x.dst) = some 14 := rfl
  have g3 := get_someT q3 (fun h => by cases h)
  refine wpOpIn_stepT hF ho (fun K hK => ?_)
  clear ho
  rw [Oper.semAt_plain Fc _ _ (by intro c h; cases h)]
  simp only [lra6_o6]
  go_simp
  exact hK _ _ ⟨_, act_putD x hdef _ _, rfl, Below.refl _ _⟩
set_option maxRecDepth 100000 in
set_option maxHeartbeats 2000000 in
theorem lraF_s7 {Fc : Fence} (hF : Wide Fc) {nC : Nat} (gT gO mp cO i : Nat) (X Y : List UInt8) (B : Bool) (Q : Exit → Act → World → Prop) (df : List Deferred) (w0 : World)
    (hi : i < 22) (hm : mp + 1 ≤ 22) (hX : w0.cell? ⟨gO, mp, none⟩ = some (by8 X)) (hY : w0.cell? ⟨gT, i * 2 + 1, none⟩ = some (by8 Y)) (hBq : (X == Y) = !B)
    (x : Act) (w : World) (hB : Below w0.heap.size w0 w) (hdef : x.defers = df) (u1 : x.tmps.getD 1 undef = .slice (some ⟨gO, 0, none⟩) (mp + 1) cO) (u2 : x.tmps.getD 2 undef = .slice (some ⟨gT, 0, none⟩) 22 22) (u3 : x.tmps.getD 3 undef = .int .i64 (i : Nat))
    (p6 : lraF_val gT gO mp cO i X Y B 6 (x.tmps.getD 17 undef) w)
    (p3 : lraF_val gT gO mp cO i X Y B 3 (x.tmps.getD 14 undef) w)
    : wpOpIn Fc nC Tryz.prog lra6_ops Q 7 (fun a' w' => ∃ v, a' = x.put (some 18) v ∧ (v = .int .i64 (mp : Nat)) ∧ Below w.heap.size w w') x w := by
  have ho : lra6_ops[7]? = some lra6_o7 := rfl
  simp only [Array.getD_eq_getD_getElem?] at u1 u2 u3
  have q6 : x.tmps.getD 17 undef = .int .i64 ((mp + 1) : Nat) := p6
  have q3 : x.tmps.getD 14 undef = .bool false := p3
  simp only [Array.getD_eq_getD_getElem?] at q6 q3
  have e3 : (lra6_ops[3]?.bind fun x => x.dst) = some 14 := rfl
  have g3 := get_someT q3 (fun h => by cases h)
  have c8 := IntWalk.i64_in (mp : Int) (by omega)
  refine wpOpIn_stepT hF ho (fun K hK => ?_)
  clear ho
  rw [Oper.semAt_plain Fc _ _ (by intro c h; cases h)]
  simp only [lra6_o7]
  go_simp
  exact hK _ _ ⟨_, act_putD x hdef _ _, by first | rfl | rw [c8], Below.refl _ _⟩
set_option maxRecDepth 100000 in
set_option maxHeartbeats 2000000 in
theorem lraF_s8 {Fc : Fence} (hF : Wide Fc) {nC : Nat} (gT gO mp cO i : Nat) (X Y : List UInt8) (B : Bool) (Q : Exit → Act → World → Prop) (df : List Deferred) (w0 : World)
    (hi : i < 22) (hm : mp + 1 ≤ 22) (hX : w0.cell? ⟨gO, mp, none⟩ = some (by8 X)) (hY : w0.cell? ⟨gT, i * 2 + 1, none⟩ = some (by8 Y)) (hBq : (X == Y) = !B)
    (x : Act) (w : World) (hB : Below w0.heap.size w0 w) (hdef : x.defers = df) (u1 : x.tmps.getD 1 undef = .slice (some ⟨gO, 0, none⟩) (mp + 1) cO) (u2 : x.tmps.getD 2 undef = .slice (some ⟨gT, 0, none⟩) 22 22) (u3 : x.tmps.getD 3 undef = .int .i64 (i : Nat))
    (p4 : lraF_val gT gO mp cO i X Y B 4 (x.tmps.getD 15 undef) w)
    (p7 : lraF_val gT gO mp cO i X Y B 7 (x.tmps.getD 18 undef) w)
    (p3 : lraF_val gT gO mp cO i X Y B 3 (x.tmps.getD 14 undef) w)
    : wpOpIn Fc nC Tryz.prog lra6_ops Q 8 (fun a' w' => ∃ v, a' = x.put (some 19) v ∧ (v = .pointer (some ⟨gO, mp, none⟩)) ∧ Below w.heap.size w w') x w := by
  have ho : lra6_ops[8]? = some lra6_o8 := rfl
  simp only [Array.getD_eq_getD_getElem?] at u1 u2 u3
  have q4 : x.tmps.getD 15 undef = .slice (some ⟨gO, 0, none⟩) (mp + 1) cO := p4
  have q7 : x.tmps.getD 18 undef = .int .i64 (mp : Nat) := p7
  have q3 : x.tmps.getD 14 undef = .bool false := p3
  simp only [Array.getD_eq_getD_getElem?] at q4 q7 q3
  have e3 : (lra6_ops[3]?.bind fun x => x.dst) = some 14 := rfl
  have g3 := get_someT q3 (fun h => by cases h)
  have m0 : (0 : Int) ≤ (mp : Int) := by omega
  have m1 : (mp : Int) < ((mp + 1 : Nat) : Int) := by omega
  have m2 : (mp : Int) < (mp : Int) + 1 := by omega
  refine wpOpIn_stepT hF ho (fun K hK => ?_)
  clear ho
  rw [Oper.semAt_plain Fc _ _ (by intro c h; cases h)]
  simp only [lra6_o8]
  go_simp
  exact hK _ _ ⟨_, act_putD x hdef _ _, rfl, Below.refl _ _⟩
set_option maxRecDepth 100000 in
set_option maxHeartbeats 2000000 in
theorem lraF_s9 {Fc : Fence} (hF : Wide Fc) {nC : Nat} (gT gO mp cO i : Nat) (X Y : List UInt8) (B : Bool) (Q : Exit → Act → World → Prop) (df : List Deferred) (w0 : World)
    (hi : i < 22) (hm : mp + 1 ≤ 22) (hX : w0.cell? ⟨gO, mp, none⟩ = some (by8 X)) (hY : w0.cell? ⟨gT, i * 2 + 1, none⟩ = some (by8 Y)) (hBq : (X == Y) = !B)
    (x : Act) (w : World) (hB : Below w0.heap.size w0 w) (hdef : x.defers = df) (u1 : x.tmps.getD 1 undef = .slice (some ⟨gO, 0, none⟩) (mp + 1) cO) (u2 : x.tmps.getD 2 undef = .slice (some ⟨gT, 0, none⟩) 22 22) (u3 : x.tmps.getD 3 undef = .int .i64 (i : Nat))
    (p8 : lraF_val gT gO mp cO i X Y B 8 (x.tmps.getD 19 undef) w)
    (p3 : lraF_val gT gO mp cO i X Y B 3 (x.tmps.getD 14 undef) w)
    : wpOpIn Fc nC Tryz.prog lra6_ops Q 9 (fun a' w' => ∃ v, a' = x.put (some 20) v ∧ (v = by8 X) ∧ Below w.heap.size w w') x w := by
  have ho : lra6_ops[9]? = some lra6_o9 := rfl
  simp only [Array.getD_eq_getD_getElem?] at u1 u2 u3
  have q8 : x.tmps.getD 19 undef = .pointer (some ⟨gO, mp, none⟩) := p8
  have q3 : x.tmps.getD 14 undef = .bool false := p3
  simp only [Array.getD_eq_getD_getElem?] at q8 q3
  have e3 : (lra6_ops[3]?.bind fun x => x.dst) = some 14 := rfl
  have g3 := get_someT q3 (fun h => by cases h)
  have c0 := cell_thru hX hB
  refine wpOpIn_stepT hF ho (fun K hK => ?_)
  clear ho
  rw [Oper.semAt_plain Fc _ _ (by intro c h; cases h)]
  simp only [lra6_o9]
  go_simp
  exact hK _ _ ⟨_, act_putD x hdef _ _, rfl, Below.refl _ _⟩
set_option maxRecDepth 100000 in
set_option maxHeartbeats 2000000 in
theorem lraF_s10 {Fc : Fence} (hF : Wide Fc) {nC : Nat} (gT gO mp cO i : Nat) (X Y : List UInt8) (B : Bool) (Q : Exit → Act → World → Prop) (df : List Deferred) (w0 : World)
    (hi : i < 22) (hm : mp + 1 ≤ 22) (hX : w0.cell? ⟨gO, mp, none⟩ = some (by8 X)) (hY : w0.cell? ⟨gT, i * 2 + 1, none⟩ = some (by8 Y)) (hBq : (X == Y) = !B)
    (x : Act) (w : World) (hB : Below w0.heap.size w0 w) (hdef : x.defers = df) (u1 : x.tmps.getD 1 undef = .slice (some ⟨gO, 0, none⟩) (mp + 1) cO) (u2 : x.tmps.getD 2 undef = .slice (some ⟨gT, 0, none⟩) 22 22) (u3 : x.tmps.getD 3 undef = .int .i64 (i : Nat))
    (p3 : lraF_val gT gO mp cO i X Y B 3 (x.tmps.getD 14 undef) w)
    : wpOpIn Fc nC Tryz.prog lra6_ops Q 10 (fun a' w' => ∃ v, a' = x.put (some 21) v ∧ (v = .slice (some ⟨gT, 0, none⟩) 22 22) ∧ Below w.heap.size w w') x w := by
  have ho : lra6_ops[10]? = some lra6_o10 := rfl
  simp only [Array.getD_eq_getD_getElem?] at u1 u2 u3
  have q3 : x.tmps.getD 14 undef = .bool false := p3
  simp only [Array.getD_eq_getD_getElem?] at q3
  have e3 : (lra6_ops[3]?.bind fun x => x.dst) = some 14 := rfl
  have g3 := get_someT q3 (fun h => by cases h)
  refine wpOpIn_stepT hF ho (fun K hK => ?_)
  clear ho
  rw [Oper.semAt_plain Fc _ _ (by intro c h; cases h)]
  simp only [lra6_o10]
  go_simp
  exact hK _ _ ⟨_, act_putD x hdef _ _, rfl, Below.refl _ _⟩
set_option maxRecDepth 100000 in
set_option maxHeartbeats 2000000 in
theorem lraF_s11 {Fc : Fence} (hF : Wide Fc) {nC : Nat} (gT gO mp cO i : Nat) (X Y : List UInt8) (B : Bool) (Q : Exit → Act → World → Prop) (df : List Deferred) (w0 : World)
    (hi : i < 22) (hm : mp + 1 ≤ 22) (hX : w0.cell? ⟨gO, mp, none⟩ = some (by8 X)) (hY : w0.cell? ⟨gT, i * 2 + 1, none⟩ = some (by8 Y)) (hBq : (X == Y) = !B)
    (x : Act) (w : World) (hB : Below w0.heap.size w0 w) (hdef : x.defers = df) (u1 : x.tmps.getD 1 undef = .slice (some ⟨gO, 0, none⟩) (mp + 1) cO) (u2 : x.tmps.getD 2 undef = .slice (some ⟨gT, 0, none⟩) 22 22) (u3 : x.tmps.getD 3 undef = .int .i64 (i : Nat))
    (p3 : lraF_val gT gO mp cO i X Y B 3 (x.tmps.getD 14 undef) w)
    : wpOpIn Fc nC Tryz.prog lra6_ops Q 11 (fun a' w' => ∃ v, a' = x.put (some 22) v ∧ (v = .int .i64 (i : Nat)) ∧ Below w.heap.size w w') x w := by
  have ho : lra6_ops[11]? = some lra6_o11 := rfl
  simp only [Array.getD_eq_getD_getElem?] at u1 u2 u3
  have q3 : x.tmps.getD 14 undef = .bool false := p3
  simp only [Array.getD_eq_getD_getElem?] at q3
  have e3 : (lra6_ops[3]?.bind fun x => x.dst) = some 14 := rfl
  have g3 := get_someT q3 (fun h => by cases h)
  refine wpOpIn_stepT hF ho (fun K hK => ?_)
  clear ho
  rw [Oper.semAt_plain Fc _ _ (by intro c h; cases h)]
  simp only [lra6_o11]
  go_simp
  exact hK _ _ ⟨_, act_putD x hdef _ _, rfl, Below.refl _ _⟩
set_option maxRecDepth 100000 in
set_option maxHeartbeats 2000000 in
theorem lraF_s12 {Fc : Fence} (hF : Wide Fc) {nC : Nat} (gT gO mp cO i : Nat) (X Y : List UInt8) (B : Bool) (Q : Exit → Act → World → Prop) (df : List Deferred) (w0 : World)
    (hi : i < 22) (hm : mp + 1 ≤ 22) (hX : w0.cell? ⟨gO, mp, none⟩ = some (by8 X)) (hY : w0.cell? ⟨gT, i * 2 + 1, none⟩ = some (by8 Y)) (hBq : (X == Y) = !B)
    (x : Act) (w : World) (hB : Below w0.heap.size w0 w) (hdef : x.defers = df) (u1 : x.tmps.getD 1 undef = .slice (some ⟨gO, 0, none⟩) (mp + 1) cO) (u2 : x.tmps.getD 2 undef = .slice (some ⟨gT, 0, none⟩) 22 22) (u3 : x.tmps.getD 3 undef = .int .i64 (i : Nat))
    (p10 : lraF_val gT gO mp cO i X Y B 10 (x.tmps.getD 21 undef) w)
    (p11 : lraF_val gT gO mp cO i X Y B 11 (x.tmps.getD 22 undef) w)
    (p3 : lraF_val gT gO mp cO i X Y B 3 (x.tmps.getD 14 undef) w)
    : wpOpIn Fc nC Tryz.prog lra6_ops Q 12 (fun a' w' => ∃ v, a' = x.put (some 23) v ∧ (v = .pointer (some ⟨gT, i * 2, none⟩)) ∧ Below w.heap.size w w') x w := by
  have ho : lra6_ops[12]? = some lra6_o12 := rfl
  simp only [Array.getD_eq_getD_getElem?] at u1 u2 u3
  have q10 : x.tmps.getD 21 undef = .slice (some ⟨gT, 0, none⟩) 22 22 := p10
  have q11 : x.tmps.getD 22 undef = .int .i64 (i : Nat) := p11
  have q3 : x.tmps.getD 14 undef = .bool false := p3
  simp only [Array.getD_eq_getD_getElem?] at q10 q11 q3
  have e3 : (lra6_ops[3]?.bind fun x => x.dst) = some 14 := rfl
  have g3 := get_someT q3 (fun h => by cases h)
  have i0 : (0 : Int) ≤ (i : Int) := by omega
  have i1 : (i : Int) < 22 := by omega
  refine wpOpIn_stepT hF ho (fun K hK => ?_)
  clear ho
  rw [Oper.semAt_plain Fc _ _ (by intro c h; cases h)]
  simp only [lra6_o12]
  go_simp
  exact hK _ _ ⟨_, act_putD x hdef _ _, rfl, Below.refl _ _⟩
set_option maxRecDepth 100000 in
set_option maxHeartbeats 2000000 in
theorem lraF_s13 {Fc : Fence} (hF : Wide Fc) {nC : Nat} (gT gO mp cO i : Nat) (X Y : List UInt8) (B : Bool) (Q : Exit → Act → World → Prop) (df : List Deferred) (w0 : World)
    (hi : i < 22) (hm : mp + 1 ≤ 22) (hX : w0.cell? ⟨gO, mp, none⟩ = some (by8 X)) (hY : w0.cell? ⟨gT, i * 2 + 1, none⟩ = some (by8 Y)) (hBq : (X == Y) = !B)
    (x : Act) (w : World) (hB : Below w0.heap.size w0 w) (hdef : x.defers = df) (u1 : x.tmps.getD 1 undef = .slice (some ⟨gO, 0, none⟩) (mp + 1) cO) (u2 : x.tmps.getD 2 undef = .slice (some ⟨gT, 0, none⟩) 22 22) (u3 : x.tmps.getD 3 undef = .int .i64 (i : Nat))
    (p12 : lraF_val gT gO mp cO i X Y B 12 (x.tmps.getD 23 undef) w)
    (p3 : lraF_val gT gO mp cO i X Y B 3 (x.tmps.getD 14 undef) w)
    : wpOpIn Fc nC Tryz.prog lra6_ops Q 13 (fun a' w' => ∃ v, a' = x.put (some 24) v ∧ (v = .pointer (some ⟨gT, i * 2 + 1, none⟩)) ∧ Below w.heap.size w w') x w := by
  have ho : lra6_ops[13]? = some lra6_o13 := rfl
  simp only [Array.getD_eq_getD_getElem?] at u1 u2 u3
  have q12 : x.tmps.getD 23 undef = .pointer (some ⟨gT, i * 2, none⟩) := p12
  have q3 : x.tmps.getD 14 undef = .bool false := p3
  simp only [Array.getD_eq_getD_getElem?] at q12 q3
  have e3 : (lra6_ops[3]?.bind fun x => x.dst) = some 14 := rfl
  have g3 := get_someT q3 (fun h => by cases h)
  refine wpOpIn_stepT hF ho (fun K hK => ?_)
  clear ho
  rw [Oper.semAt_plain Fc _ _ (by intro c h; cases h)]
  simp only [lra6_o13]
  go_simp
  exact hK _ _ ⟨_, act_putD x hdef _ _, rfl, Below.refl _ _⟩
set_option maxRecDepth 100000 in
set_option maxHeartbeats 2000000 in
theorem lraF_s14 {Fc : Fence} (hF : Wide Fc) {nC : Nat} (gT gO mp cO i : Nat) (X Y : List UInt8) (B : Bool) (Q : Exit → Act → World → Prop) (df : List Deferred) (w0 : World)
    (hi : i < 22) (hm : mp + 1 ≤ 22) (hX : w0.cell? ⟨gO, mp, none⟩ = some (by8 X)) (hY : w0.cell? ⟨gT, i * 2 + 1, none⟩ = some (by8 Y)) (hBq : (X == Y) = !B)
    (x : Act) (w : World) (hB : Below w0.heap.size w0 w) (hdef : x.defers = df) (u1 : x.tmps.getD 1 undef = .slice (some ⟨gO, 0, none⟩) (mp + 1) cO) (u2 : x.tmps.getD 2 undef = .slice (some ⟨gT, 0, none⟩) 22 22) (u3 : x.tmps.getD 3 undef = .int .i64 (i : Nat))
    (p13 : lraF_val gT gO mp cO i X Y B 13 (x.tmps.getD 24 undef) w)
    (p3 : lraF_val gT gO mp cO i X Y B 3 (x.tmps.getD 14 undef) w)
    : wpOpIn Fc nC Tryz.prog lra6_ops Q 14 (fun a' w' => ∃ v, a' = x.put (some 25) v ∧ (v = by8 Y) ∧ Below w.heap.size w w') x w := by
  have ho : lra6_ops[14]? = some lra6_o14 := rfl
  simp only [Array.getD_eq_getD_getElem?] at u1 u2 u3
  have q13 : x.tmps.getD 24 undef = .pointer (some ⟨gT, i * 2 + 1, none⟩) := p13
  have q3 : x.tmps.getD 14 undef = .bool false := p3
  simp only [Array.getD_eq_getD_getElem?] at q13 q3
  have e3 : (lra6_ops[3]?.bind fun x => x.dst) = some 14 := rfl
  have g3 := get_someT q3 (fun h => by cases h)
  have c0 := cell_thru hY hB
  refine wpOpIn_stepT hF ho (fun K hK => ?_)
  clear ho
  rw [Oper.semAt_plain Fc _ _ (by intro c h; cases h)]
  simp only [lra6_o14]
  go_simp
  exact hK _ _ ⟨_, act_putD x hdef _ _, rfl, Below.refl _ _⟩
set_option maxRecDepth 100000 in
set_option maxHeartbeats 2000000 in
theorem lraF_s15 {Fc : Fence} (hF : Wide Fc) {nC : Nat} (gT gO mp cO i : Nat) (X Y : List UInt8) (B : Bool) (Q : Exit → Act → World → Prop) (df : List Deferred) (w0 : World)
    (hi : i < 22) (hm : mp + 1 ≤ 22) (hX : w0.cell? ⟨gO, mp, none⟩ = some (by8 X)) (hY : w0.cell? ⟨gT, i * 2 + 1, none⟩ = some (by8 Y)) (hBq : (X == Y) = !B)
    (x : Act) (w : World) (hB : Below w0.heap.size w0 w) (hdef : x.defers = df) (u1 : x.tmps.getD 1 undef = .slice (some ⟨gO, 0, none⟩) (mp + 1) cO) (u2 : x.tmps.getD 2 undef = .slice (some ⟨gT, 0, none⟩) 22 22) (u3 : x.tmps.getD 3 undef = .int .i64 (i : Nat))
    (p9 : lraF_val gT gO mp cO i X Y B 9 (x.tmps.getD 20 undef) w)
    (p14 : lraF_val gT gO mp cO i X Y B 14 (x.tmps.getD 25 undef) w)
    (p3 : lraF_val gT gO mp cO i X Y B 3 (x.tmps.getD 14 undef) w)
    : wpOpIn Fc nC Tryz.prog lra6_ops Q 15 (fun a' w' => ∃ v, a' = x.put (some 26) v ∧ (v = .bool B) ∧ Below w.heap.size w w') x w := by
  have ho : lra6_ops[15]? = some lra6_o15 := rfl
  simp only [Array.getD_eq_getD_getElem?] at u1 u2 u3
  have q9 : x.tmps.getD 20 undef = by8 X := p9
  have q14 : x.tmps.getD 25 undef = by8 Y := p14
  have q3 : x.tmps.getD 14 undef = .bool false := p3
  simp only [Array.getD_eq_getD_getElem?] at q9 q14 q3
  have e3 : (lra6_ops[3]?.bind fun x => x.dst) = some 14 := rfl
  have g3 := get_someT q3 (fun h => by cases h)
  have hbq : ((⟨X.toArray⟩ : ByteArray) == ⟨Y.toArray⟩) = !B := by rw [by8_beq, hBq]
  unfold by8 at q9 q14
  refine wpOpIn_stepT hF ho (fun K hK => ?_)
  clear ho
  rw [Oper.semAt_plain Fc _ _ (by intro c h; cases h)]
  simp only [lra6_o15]
  go_simp
  exact hK _ _ ⟨_, act_putD x hdef _ _, rfl, Below.refl _ _⟩
set_option maxRecDepth 100000 in
set_option maxHeartbeats 2000000 in
theorem lraF_s16 {Fc : Fence} (hF : Wide Fc) {nC : Nat} (gT gO mp cO i : Nat) (X Y : List UInt8) (B : Bool) (Q : Exit → Act → World → Prop) (df : List Deferred) (w0 : World)
    (hi : i < 22) (hm : mp + 1 ≤ 22) (hX : w0.cell? ⟨gO, mp, none⟩ = some (by8 X)) (hY : w0.cell? ⟨gT, i * 2 + 1, none⟩ = some (by8 Y)) (hBq : (X == Y) = !B)
    (x : Act) (w : World) (hB : Below w0.heap.size w0 w) (hdef : x.defers = df) (u1 : x.tmps.getD 1 undef = .slice (some ⟨gO, 0, none⟩) (mp + 1) cO) (u2 : x.tmps.getD 2 undef = .slice (some ⟨gT, 0, none⟩) 22 22) (u3 : x.tmps.getD 3 undef = .int .i64 (i : Nat))
    (p3 : lraF_val gT gO mp cO i X Y B 3 (x.tmps.getD 14 undef) w)
    (p15 : lraF_val gT gO mp cO i X Y B 15 (x.tmps.getD 26 undef) w)
    : wpOpIn Fc nC Tryz.prog lra6_ops Q 16 (fun a' w' => ∃ v, a' = x.put (some 27) v ∧ (v = .bool B) ∧ Below w.heap.size w w') x w := by
  have ho : lra6_ops[16]? = some lra6_o16 := rfl
  simp only [Array.getD_eq_getD_getElem?] at u1 u2 u3
  have q3 : x.tmps.getD 14 undef = .bool false := p3
  have q15 : x.tmps.getD 26 undef = .bool B := p15
  simp only [Array.getD_eq_getD_getElem?] at q3 q15
  refine wpOpIn_plain ho rfl (oper_inK hF.fn (fun K hK => ?_))
  clear ho
  rw [Oper.semAt_plain Fc _ _ (by intro c h; cases h)]
  simp only [lra6_o16]
  go_simp
  exact hK _ _ ⟨_, act_putD x hdef _ _, rfl, Below.refl _ _⟩

set_option maxRecDepth 100000 in
set_option maxHeartbeats 4000000 in
theorem lraF {Fc : Fence} (hF : Wide Fc) {nC : Nat} (gT gO mp cO i : Nat) (X Y : List UInt8) (B : Bool) (Q : Exit → Act → World → Prop) (t0 : Array Value) (df : List Deferred) (w0 : World) (ht : t0.size = 37)
    (hs1 : t0.getD 1 undef = .slice (some ⟨gO, 0, none⟩) (mp + 1) cO) (hs2 : t0.getD 2 undef = .slice (some ⟨gT, 0, none⟩) 22 22) (hs3 : t0.getD 3 undef = .int .i64 (i : Nat))
    (hi : i < 22) (hm : mp + 1 ≤ 22) (hX : w0.cell? ⟨gO, mp, none⟩ = some (by8 X)) (hY : w0.cell? ⟨gT, i * 2 + 1, none⟩ = some (by8 Y)) (hBq : (X == Y) = !B)
    (hQ : ∀ (vs : Nat → Value) (w : World), Below w0.heap.size w0 w → (vs 27 = .bool B) → Q .normal { tmps := [11, 12, 13, 14, 15, 16, 17, 18, 19, 20, 21, 22, 23, 24, 25, 26, 27].foldl (fun y d => y.setIfInBounds d (vs d)) t0, defers := df } w) :
    (Code.region 6 lra6_ops true).wpIn Fc nC Tryz.prog Q { tmps := t0, defers := df } w0 := by
  refine wpIn_region_tail 17 (by decide) (by kernel_rfl) (fun a b => Below a.heap.size a b) (lraF_val gT gO mp cO i X Y B) t0 df w0 (by rw [ht]; kernel_rfl) (by kernel_rfl) (by kernel_rfl) (by kernel_rfl) ((Below.refl _ _).drew) (fun _ _ _ h k => h.trans (k.mono h.size)) (lraF_below gT gO mp cO i X Y B) ?_ ?_
  · intro j o ho hj x w hB hdef hsz hs hdeps
    have hs' : ∀ s, ¬ lra6_mem s → x.tmps.getD s undef = t0.getD s undef := fun s hn => hs s (fun j hj e => hn (by rw [e]; exact lra6_slots j hj))
    have u1 := (hs' 1 (by decide)).trans hs1
    have u2 := (hs' 2 (by decide)).trans hs2
    have u3 := (hs' 3 (by decide)).trans hs3
    match j, ho, hj with
    | 0, ho, _ =>
      have e : o = lra6_o0 := (Option.some.inj ho).symm
      subst e
      exact lraF_s0 hF gT gO mp cO i X Y B Q df w0 hi hm hX hY hBq x w hB hdef u1 u2 u3 
    | 1, ho, _ =>
      have e : o = lra6_o1 := (Option.some.inj ho).symm
      subst e
      exact lraF_s1 hF gT gO mp cO i X Y B Q df w0 hi hm hX hY hBq x w hB hdef u1 u2 u3 (hdeps { on := 0, ground := Ground.data } (by simp) rfl)
    | 2, ho, _ =>
      have e : o = lra6_o2 := (Option.some.inj ho).symm
      subst e
      exact lraF_s2 hF gT gO mp cO i X Y B Q df w0 hi hm hX hY hBq x w hB hdef u1 u2 u3 (hdeps { on := 1, ground := Ground.data } (by simp) rfl)
    | 3, ho, _ =>
      have e : o = lra6_o3 := (Option.some.inj ho).symm
      subst e
      exact lraF_s3 hF gT gO mp cO i X Y B Q df w0 hi hm hX hY hBq x w hB hdef u1 u2 u3 (hdeps { on := 2, ground := Ground.data } (by simp) rfl)
    | 4, ho, _ =>
      have e : o = lra6_o4 := (Option.some.inj ho).symm
      subst e
      exact lraF_s4 hF gT gO mp cO i X Y B Q df w0 hi hm hX hY hBq x w hB hdef u1 u2 u3 (hdeps { on := 3, ground := Ground.guard } (by simp) rfl)
    | 5, ho, _ =>
      have e : o = lra6_o5 := (Option.some.inj ho).symm
      subst e
      exact lraF_s5 hF gT gO mp cO i X Y B Q df w0 hi hm hX hY hBq x w hB hdef u1 u2 u3 (hdeps { on := 3, ground := Ground.guard } (by simp) rfl)
    | 6, ho, _ =>
      have e : o = lra6_o6 := (Option.some.inj ho).symm
      subst e
      exact lraF_s6 hF gT gO mp cO i X Y B Q df w0 hi hm hX hY hBq x w hB hdef u1 u2 u3 (hdeps { on := 5, ground := Ground.data } (by simp) rfl) (hdeps { on := 3, ground := Ground.guard } (by simp) rfl)
    | 7, ho, _ =>
      have e : o = lra6_o7 := (Option.some.inj ho).symm
      subst e
      exact lraF_s7 hF gT gO mp cO i X Y B Q df w0 hi hm hX hY hBq x w hB hdef u1 u2 u3 (hdeps { on := 6, ground := Ground.data } (by simp) rfl) (hdeps { on := 3, ground := Ground.guard } (by simp) rfl)
    | 8, ho, _ =>
      have e : o = lra6_o8 := (Option.some.inj ho).symm
      subst e
      exact lraF_s8 hF gT gO mp cO i X Y B Q df w0 hi hm hX hY hBq x w hB hdef u1 u2 u3 (hdeps { on := 4, ground := Ground.data } (by simp) rfl) (hdeps { on := 7, ground := Ground.data } (by simp) rfl) (hdeps { on := 3, ground := Ground.guard } (by simp) rfl)
    | 9, ho, _ =>
      have e : o = lra6_o9 := (Option.some.inj ho).symm
      subst e
      exact lraF_s9 hF gT gO mp cO i X Y B Q df w0 hi hm hX hY hBq x w hB hdef u1 u2 u3 (hdeps { on := 8, ground := Ground.data } (by simp) rfl) (hdeps { on := 3, ground := Ground.guard } (by simp) rfl)
    | 10, ho, _ =>
      have e : o = lra6_o10 := (Option.some.inj ho).symm
      subst e
      exact lraF_s10 hF gT gO mp cO i X Y B Q df w0 hi hm hX hY hBq x w hB hdef u1 u2 u3 (hdeps { on := 3, ground := Ground.guard } (by simp) rfl)
    | 11, ho, _ =>
      have e : o = lra6_o11 := (Option.some.inj ho).symm
      subst e
      exact lraF_s11 hF gT gO mp cO i X Y B Q df w0 hi hm hX hY hBq x w hB hdef u1 u2 u3 (hdeps { on := 3, ground := Ground.guard } (by simp) rfl)
    | 12, ho, _ =>
      have e : o = lra6_o12 := (Option.some.inj ho).symm
      subst e
      exact lraF_s12 hF gT gO mp cO i X Y B Q df w0 hi hm hX hY hBq x w hB hdef u1 u2 u3 (hdeps { on := 10, ground := Ground.data } (by simp) rfl) (hdeps { on := 11, ground := Ground.data } (by simp) rfl) (hdeps { on := 3, ground := Ground.guard } (by simp) rfl)
    | 13, ho, _ =>
      have e : o = lra6_o13 := (Option.some.inj ho).symm
      subst e
      exact lraF_s13 hF gT gO mp cO i X Y B Q df w0 hi hm hX hY hBq x w hB hdef u1 u2 u3 (hdeps { on := 12, ground := Ground.data } (by simp) rfl) (hdeps { on := 3, ground := Ground.guard } (by simp) rfl)
    | 14, ho, _ =>
      have e : o = lra6_o14 := (Option.some.inj ho).symm
      subst e
      exact lraF_s14 hF gT gO mp cO i X Y B Q df w0 hi hm hX hY hBq x w hB hdef u1 u2 u3 (hdeps { on := 13, ground := Ground.data } (by simp) rfl) (hdeps { on := 3, ground := Ground.guard } (by simp) rfl)
    | 15, ho, _ =>
      have e : o = lra6_o15 := (Option.some.inj ho).symm
      subst e
      exact lraF_s15 hF gT gO mp cO i X Y B Q df w0 hi hm hX hY hBq x w hB hdef u1 u2 u3 (hdeps { on := 9, ground := Ground.data } (by simp) rfl) (hdeps { on := 14, ground := Ground.data } (by simp) rfl) (hdeps { on := 3, ground := Ground.guard } (by simp) rfl)
    | 16, ho, _ =>
      have e : o = lra6_o16 := (Option.some.inj ho).symm
      subst e
      exact lraF_s16 hF gT gO mp cO i X Y B Q df w0 hi hm hX hY hBq x w hB hdef u1 u2 u3 (hdeps { on := 3, ground := Ground.data } (by simp) rfl) (hdeps { on := 15, ground := Ground.data } (by simp) rfl)
    | k + 17, _, hj => omega
  · intro x w hB hdef hsz hs hv
    have hx := frame_sets x.tmps t0 hsz [11, 12, 13, 14, 15, 16, 17, 18, 19, 20, 21, 22, 23, 24, 25, 26, 27] (fun s hn => hs s (fun j hj e => hn (by rw [e]; exact lra6_slots j hj)))
    have hq := hQ (fun d => x.tmps.getD d undef) w hB (hv 16 (by decide))
    obtain ⟨T, Df⟩ := x
    dsimp only at hx hdef hq
    subst hdef
    rw [← hx] at hq
    exact hq

/-- The languages of the first rows, each once where the one ahead is another. -/
def ddL : Nat → List (List UInt8)
  | 0 => []
  | i + 1 => if ddL i = [] ∨ (ddL i).getLastD [] ≠ (tabL.getD i ([], [])).2 then ddL i ++ [(tabL.getD i ([], [])).2] else ddL i
theorem ddL_all : ddL 22 = allL := by decide +kernel
theorem ddL_len : ∀ i, (ddL i).length ≤ i
  | 0 => Nat.le_refl _
  | i + 1 => by
    have := ddL_len i
    unfold ddL
    split
    · rw [List.length_append, List.length_singleton]; omega
    · omega
theorem info_strA : (Tryz.prog.info? 9).map (fun i => (i.zero, i.size, i.bytes)) = some (some (.string ⟨#[]⟩), 1, 16) := by kernel_rfl

set_option maxRecDepth 100000 in
set_option maxHeartbeats 2000000 in
theorem refAll_any (w : World) :
    Calls Tryz.prog 10 #[] w fun e w' => ∃ A C, e = .returned (.slice A allL.length C) ∧ w'.ownsRow w.heap.size 9 1 (.slice A allL.length C) allL.length (allL.map by8) ∧ Below w.heap.size w w' := by
  obtain ⟨i0, hi, hq0, hq1, hq2⟩ := info_parts info_strA
  have htab := refLangTable_any w
  go_enter Tryz.func10, Tryz.ntmps10
  go_wp2_with fail
  refine htab.mono ?_
  rintro e w1 ⟨gT, rfl, hT, hb1⟩
  have H1 := hide (And.intro hT hb1)
  clear htab hT hb1
  go_wp2_with fail
  go_loopg [1, 3] 22 (fun q s1 s3 wr => ∃ (i : Nat) (A : Option Addr) (C : Nat), i + q = 22 ∧ s3 = .int .i64 (i : Nat) ∧ s1 = .slice A (ddL i).length C ∧ wr.ownsRow w1.heap.size 9 1 (.slice A (ddL i).length C) (ddL i).length ((ddL i).map by8) ∧ Below w1.heap.size w1 wr ∧ (ddL i = [] → A = none ∧ C = 0))
  case atStart => exact ⟨0, none, 0, by omega, rfl, rfl, World.ownsRow_nil _ _ _ _, Below.refl _ _, fun _ => ⟨rfl, rfl⟩⟩
  case round =>
    obtain ⟨i, A, C, hiq, rfl, rfl, ho, hB, hAC⟩ := hrel
    cases gk with
    | zero =>
      obtain rfl : i = 22 := by omega
      rw [ddL_all] at ho ⊢
      have HH := hide (And.intro ho hB)
      obtain ⟨n, hn⟩ : ∃ n, allL.length = n := ⟨_, rfl⟩
      rw [hn]
      have HN := hide hn
      clear ho hB hn
      go_wp2_with fail
      go_ret
      have hn := HN.out
      subst hn
      exact ⟨A, C, rfl, ⟨HH.out.1.1, HH.out.1.2.imp (fun h => h) (fun ⟨g, c, u, h1, h2, h3⟩ => ⟨g, c, u, h1, by have := H1.out.2.size; omega, h3⟩)⟩, below_thru H1.out.2 HH.out.2⟩
    | succ q =>
      have hi22 : i < 22 := by omega
      have hi1 : (i : Int) < 22 := by omega
      obtain ⟨r, hr⟩ : ∃ r, tabL[i]? = some r := ⟨_, List.getElem?_eq_getElem (show i < tabL.length from hi22)⟩
      have hrd : tabL.getD i ([], []) = r := by rw [List.getD_eq_getElem?_getD, hr]; rfl
      have hY := cell_thru (H1.out.1 i r hr).2 hB
      obtain ⟨Y, hYe⟩ : ∃ Y, r.2 = Y := ⟨_, rfl⟩
      rw [hYe] at hY
      have hll := ddL_len i
      have hstep : ddL (i + 1) = if ddL i = [] ∨ (ddL i).getLastD [] ≠ Y then ddL i ++ [Y] else ddL i := by rw [← hYe, ← hrd]; rfl
      have hY2 : ∀ W : World, Below wr.heap.size wr W → W.cell? ⟨gT, i * 2 + 1, none⟩ = some (by8 Y) := fun W hW => cell_thru hY hW
      have HB := hide (And.intro hB (And.intro ho hstep))
      rcases List.eq_nil_or_concat (ddL i) with h0 | ⟨pre, X, hX⟩
      · obtain ⟨rfl, rfl⟩ := hAC h0
        rw [h0] at ho hstep ⊢
        simp only [true_or, if_true, List.nil_append] at hstep
        have HS := hide hstep
        clear hstep ho hB hAC h0 hrd hr hll
        go_wp2_with fail
        refine (wpIn_wide (n := 0)).1 (lraE wide_plain gT i _ _ _ _ rfl rfl rfl rfl hi22 ?_)
        intro vs w2 hb2 h27
        simp only [List.foldl_cons, List.foldl_nil, List.setIfInBounds_toArray, List.set_cons_succ, List.set_cons_zero]
        rw [h27]
        have hY3 := hY2 w2 hb2
        unfold by8 at hY3
        obtain ⟨W3, hW3⟩ : ∃ W3, w2.alloc (.cells #[.string ⟨Y.toArray⟩] 9) = W3 := ⟨_, rfl⟩
        have hb3 : Below w2.heap.size w2 W3 := by rw [← hW3]; exact below_alloc _ _
        have hsz : w1.heap.size ≤ W3.heap.size := by have := HB.out.1.size; have := hb2.size; have := hb3.size; omega
        have hnew : ∀ j u, [Value.string ⟨Y.toArray⟩][j]? = some u → W3.cell? ((⟨w2.heap.size, 0, none⟩ : Addr).add j) = some u := by rw [← hW3]; exact cell_one_new w2 (.string ⟨Y.toArray⟩) 9
        have H3 := hide (And.intro hb2 hb3)
        have hown := World.ownsRow_nil W3 w1.heap.size 9 1
        have HO := hide hown
        clear hb2 hb3 hY
        go_wp2_with (at_builtin; go_must (refine wpList_append_foot _ rfl (.tmp 28) (.tmp 34) 24 rfl 9 i0 (.string ⟨#[]⟩) 16 Tryz.underlying24 hi hq0 hq1 hq2 rfl w1.heap.size (.slice none 0 0) 0 [] rfl hown (some ⟨w2.heap.size, 0, none⟩) 1 1 [.string ⟨Y.toArray⟩] rfl rfl (fun e => by cases e) (fun ad e => by cases e; exact hnew) (by simp [Value.oneCell']) (by unfold maxLen; omega) (by omega) hsz ?_); intro A' C' w3 hown3 hg3)
        have hk := hg3.kept (F := fun x => (Value.slice none 0 0).ownBlock = some x) (fun _ h => h)
        have hB3 : Below w1.heap.size w1 w3 := (below_thru HB.out.1 (below_thru H3.out.1 H3.out.2)).trans (hk.below (fun x hx => (owns_cells HO.out x hx).2.1) hsz)
        have HF := hide (And.intro hown3 hB3)
        clear hown3 hg3 hk hB3 hnew hW3
        go_wp2_with fail
        go_roundg q
        case measure => omega
        case rel =>
          refine ⟨i + 1, A', C', by omega, by go_num, by rw [HS.out]; rfl, ?_, HF.out.2, fun h => ?_⟩
          · rw [HS.out]
            exact HF.out.1
          · rw [HS.out] at h; simp at h
      · have hX' : ddL i = pre ++ [X] := by rw [hX, List.concat_eq_append]
        obtain ⟨mp, hmp⟩ : ∃ mp, pre.length = mp := ⟨_, rfl⟩
        have hlen : (ddL i).length = mp + 1 := by rw [hX', List.length_append, hmp]; rfl
        rw [hlen] at ho hll ⊢
        obtain ⟨gO, cQ, hv, hcX, _⟩ := owns_cell ho (show ((ddL i).map by8)[mp]? = some (by8 X) by rw [hX', ← hmp]; simp)
        cases hv
        rw [hX', List.getLastD_concat] at hstep
        have hne : ¬ (pre ++ [X] = []) := by simp
        cases hXY : X == Y with
        | true =>
          have e : X = Y := by simpa using hXY
          rw [if_neg (by rintro (h | h); exact hne h; exact h e)] at hstep
          have HS := hide hstep
          have HX := hide hX'
          have HL := hide hlen
          clear hstep ho hAC hrd hr hX hlen hne
          go_wp2_with fail
          refine (wpIn_wide (n := 0)).1 (lraF wide_plain gT gO mp C i X Y false _ _ _ _ rfl rfl rfl rfl hi22 (by omega) hcX hY (by rw [hXY]; rfl) ?_)
          intro vs w2 hb2 h27
          simp only [List.foldl_cons, List.foldl_nil, List.setIfInBounds_toArray, List.set_cons_succ, List.set_cons_zero]
          rw [h27]
          have HF := hide (And.intro (below_thru hB hb2) (owns_thru HB.out.2.1 hb2))
          clear hb2 hB
          go_wp2_with fail
          go_roundg q
          case measure => omega
          case rel =>
            refine ⟨i + 1, some ⟨gO, 0, none⟩, C, by omega, by go_num, by rw [HS.out, ← HX.out, HL.out], ?_, HF.out.1, fun h => ?_⟩
            · rw [HS.out, ← HX.out]
              exact HF.out.2
            · rw [HS.out] at h; simp at h
        | false =>
          have e : X ≠ Y := by intro h; rw [h] at hXY; simp at hXY
          rw [if_pos (.inr e)] at hstep
          have hB' := hB
          have HS := hide hstep
          have HX := hide hX'
          have HL := hide hlen
          have HOW := hide ho
          clear hstep ho hAC hrd hr hX hne
          go_wp2_with fail
          refine (wpIn_wide (n := 0)).1 (lraF wide_plain gT gO mp C i X Y true _ _ _ _ rfl rfl rfl rfl hi22 (by omega) hcX hY (by rw [hXY]; rfl) ?_)
          intro vs w2 hb2 h27
          simp only [List.foldl_cons, List.foldl_nil, List.setIfInBounds_toArray, List.set_cons_succ, List.set_cons_zero]
          rw [h27]
          have hY3 := hY2 w2 hb2
          unfold by8 at hY3
          obtain ⟨W3, hW3⟩ : ∃ W3, w2.alloc (.cells #[.string ⟨Y.toArray⟩] 9) = W3 := ⟨_, rfl⟩
          have hb3 : Below w2.heap.size w2 W3 := by rw [← hW3]; exact below_alloc _ _
          have hsz : w1.heap.size ≤ W3.heap.size := by have := HB.out.1.size; have := hb2.size; have := hb3.size; omega
          have hnew : ∀ j u, [Value.string ⟨Y.toArray⟩][j]? = some u → W3.cell? ((⟨w2.heap.size, 0, none⟩ : Addr).add j) = some u := by rw [← hW3]; exact cell_one_new w2 (.string ⟨Y.toArray⟩) 9
          have H3 := hide (And.intro hb2 hb3)
          have hown := owns_thru (owns_thru HOW.out hb2) hb3
          rw [hX'] at hown
          have HO := hide hown
          clear hb2 hb3 hY hcX hB hB' hlen
          go_wp2_with (at_builtin; go_must (refine wpList_append_foot _ rfl (.tmp 28) (.tmp 34) 24 rfl 9 i0 (.string ⟨#[]⟩) 16 Tryz.underlying24 hi hq0 hq1 hq2 rfl w1.heap.size (.slice (some ⟨gO, 0, none⟩) (mp + 1) C) (mp + 1) ((pre ++ [X]).map by8) rfl hown (some ⟨w2.heap.size, 0, none⟩) 1 1 [.string ⟨Y.toArray⟩] rfl rfl (fun e => by cases e) (fun ad e => by cases e; exact hnew) (by simp [Value.oneCell']) (by unfold maxLen; omega) (by omega) hsz ?_); intro A' C' w3 hown3 hg3)
          have hk := hg3.kept (F := fun x => (Value.slice (some ⟨gO, 0, none⟩) (mp + 1) C).ownBlock = some x) (fun _ h => h)
          have hB3 : Below w1.heap.size w1 w3 := (below_thru HB.out.1 (below_thru H3.out.1 H3.out.2)).trans (hk.below (fun x hx => (owns_cells HO.out x hx).2.1) hsz)
          have HF := hide (And.intro hown3 hB3)
          clear hown3 hg3 hk hB3 hnew hW3
          go_wp2_with fail
          go_roundg q
          case measure => omega
          case rel =>
            refine ⟨i + 1, A', C', by omega, by go_num, by rw [HS.out, List.length_append, ← HX.out, HL.out]; rfl, ?_, HF.out.2, fun h => ?_⟩
            · rw [HS.out, List.length_append, List.length_append, hmp, List.map_append]
              exact HF.out.1
            · rw [HS.out] at h; simp at h
end Go.Proofs.YtdjdlkobfmahpaaGreatDoor
