/-
  SetEnds's drawn regions (written by tools/gen-sends.py).
-/
import Derived.Test.YtmnjicpgdhnimaaDoorSMakesW
namespace Go.Proofs.YtmnjicpgdhnimaaDoor
open Go.RowKit Go.Shelf
set_option linter.unusedVariables false
set_option linter.unusedSimpArgs false

abbrev sen8_o0 : Oper := { dst := some 20, op := Op.move (Operand.tmp 1), type := 25, pos := "law.go:67", after := #[], guard := none }
abbrev sen8_o1 : Oper := { dst := some 21, op := Op.move (Operand.tmp 2), type := 3, pos := "law.go:67", after := #[], guard := none }
abbrev sen8_o2 : Oper := { dst := some 22, op := Op.indexAddr 25 (Operand.tmp 20) (Operand.tmp 21), type := 0, pos := "law.go:67", after := #[{ on := 0, ground := Ground.data }, { on := 1, ground := Ground.data }], guard := none }
abbrev sen8_o3 : Oper := { dst := some 23, op := Op.load 5 (Operand.tmp 22), type := 5, pos := "law.go:67", after := #[{ on := 2, ground := Ground.data }], guard := none }
abbrev sen8_o4 : Oper := { dst := some 24, op := Op.move (Operand.tmp 1), type := 25, pos := "law.go:67", after := #[], guard := none }
abbrev sen8_o5 : Oper := { dst := some 25, op := Op.move (Operand.tmp 3), type := 3, pos := "law.go:67", after := #[], guard := none }
abbrev sen8_o6 : Oper := { dst := some 26, op := Op.indexAddr 25 (Operand.tmp 24) (Operand.tmp 25), type := 0, pos := "law.go:67", after := #[{ on := 4, ground := Ground.data }, { on := 5, ground := Ground.data }], guard := none }
abbrev sen8_o7 : Oper := { dst := some 27, op := Op.load 5 (Operand.tmp 26), type := 5, pos := "law.go:67", after := #[{ on := 6, ground := Ground.data }], guard := none }
abbrev sen8_o8 : Oper := { dst := some 28, op := Op.call { callee := Callee.value (Operand.func 15), args := #[Operand.tmp 23, Operand.tmp 27], argTypes := #[5, 5] }, type := 24, pos := "law.go:67", after := #[{ on := 3, ground := Ground.data }, { on := 7, ground := Ground.data }], guard := none }
abbrev sen8_o9 : Oper := { dst := some 4, op := Op.alloc 24, type := 0, pos := "law.go:67", after := #[], guard := none }
abbrev sen8_o10 : Oper := { dst := none, op := Op.store 24 (Operand.tmp 4) (Operand.tmp 28), type := 0, pos := "law.go:67", after := #[{ on := 9, ground := Ground.data }, { on := 8, ground := Ground.data }, { on := 8, ground := Ground.chain }, { on := 0, ground := Ground.phase }, { on := 1, ground := Ground.phase }, { on := 2, ground := Ground.phase }, { on := 3, ground := Ground.phase }, { on := 4, ground := Ground.phase }, { on := 5, ground := Ground.phase }, { on := 6, ground := Ground.phase }, { on := 7, ground := Ground.phase }, { on := 8, ground := Ground.phase }, { on := 9, ground := Ground.phase }], guard := none }
def sen8_ops : Array Oper := #[sen8_o0, sen8_o1, sen8_o2, sen8_o3, sen8_o4, sen8_o5, sen8_o6, sen8_o7, sen8_o8, sen8_o9, sen8_o10]
abbrev sen8_mem (s : Nat) : Prop := s ∈ [20, 21, 22, 23, 24, 25, 26, 27, 28, 4]
set_option maxRecDepth 100000 in
theorem sen8_slots : ∀ j, j < 10 → sen8_mem (slotOf sen8_ops j) := by
  intro j hj
  match j, hj with
  | 0, _ => exact (by decide : sen8_mem 20)
  | 1, _ => exact (by decide : sen8_mem 21)
  | 2, _ => exact (by decide : sen8_mem 22)
  | 3, _ => exact (by decide : sen8_mem 23)
  | 4, _ => exact (by decide : sen8_mem 24)
  | 5, _ => exact (by decide : sen8_mem 25)
  | 6, _ => exact (by decide : sen8_mem 26)
  | 7, _ => exact (by decide : sen8_mem 27)
  | 8, _ => exact (by decide : sen8_mem 28)
  | 9, _ => exact (by decide : sen8_mem 4)
  | k + 10, hj => omega
def sen8_val (gE i k r xa ya ua : Nat) (N0 : Nat) : Nat → Value → World → Prop
  | 0, v, w => v = .slice (some ⟨gE, 0, none⟩) 22 22
  | 1, v, w => v = .int .i64 (i : Nat)
  | 2, v, w => v = .pointer (some ⟨gE, i, none⟩)
  | 3, v, w => v = .int .u8 (xa : Nat)
  | 4, v, w => v = .slice (some ⟨gE, 0, none⟩) 22 22
  | 5, v, w => v = .int .i64 (k : Nat)
  | 6, v, w => v = .pointer (some ⟨gE, k, none⟩)
  | 7, v, w => v = .int .u8 (ya : Nat)
  | 8, v, w => v = sv (rng xa ya)
  | 9, v, w => ∃ g, v = .pointer (some ⟨g, 0, none⟩) ∧ SBox w g nobs ∧ N0 ≤ g
  | _, _, _ => True
theorem sen8_below (gE i k r xa ya ua : Nat) (N0 : Nat) (w w' : World) (hb : Below w.heap.size w w') : ∀ j v, sen8_val gE i k r xa ya ua N0 j v w → sen8_val gE i k r xa ya ua N0 j v w' := by
  intro j v h
  match j, h with
  | 0, h => exact h
  | 1, h => exact h
  | 2, h => exact h
  | 3, h => exact h
  | 4, h => exact h
  | 5, h => exact h
  | 6, h => exact h
  | 7, h => exact h
  | 8, h => exact h
  | 9, h => obtain ⟨g, h1, h2, h3⟩ := h; exact ⟨g, h1, h2.below hb h2.lt, h3⟩
  | _ + 10, h => exact h
set_option maxRecDepth 100000 in
set_option maxHeartbeats 2000000 in
theorem sen8_s0 {Fc : Fence} (hF : Wide Fc) {nC : Nat} (gE i k r xa ya ua : Nat) (N0 : Nat) (Q : Exit → Act → World → Prop) (df : List Deferred) (w0 : World)
    (hh : Hid (i < 22 ∧ k < 22 ∧ r < 22 ∧ xa < 256 ∧ ya < 256 ∧ ua < 256))
    (cx : ∀ W, Below w0.heap.size w0 W → W.cell? ⟨gE, i, none⟩ = some (.int .u8 (xa : Nat)))
    (cy : ∀ W, Below w0.heap.size w0 W → W.cell? ⟨gE, k, none⟩ = some (.int .u8 (ya : Nat)))
    (cu : ∀ W, Below w0.heap.size w0 W → W.cell? ⟨gE, r, none⟩ = some (.int .u8 (ua : Nat)))
    (hN0 : w0.heap.size = N0)
    (x : Act) (w : World) (hB : Below w0.heap.size w0 w) (hdef : x.defers = df) (u1 : x.tmps.getD 1 undef = .slice (some ⟨gE, 0, none⟩) 22 22) (u2 : x.tmps.getD 2 undef = .int .i64 (i : Nat)) (u3 : x.tmps.getD 3 undef = .int .i64 (k : Nat))
    : wpOpIn Fc nC Tryd.prog sen8_ops Q 0 (fun a' w' => ∃ v, a' = x.put (some 20) v ∧ (v = .slice (some ⟨gE, 0, none⟩) 22 22) ∧ Below w.heap.size w w') x w := by
  have ho : sen8_ops[0]? = some sen8_o0 := rfl
  simp only [Array.getD_eq_getD_getElem?] at u1 u2 u3
  refine wpOpIn_plain ho rfl (oper_inK hF.fn (fun K hK => ?_))
  clear ho
  rw [Oper.semAt_plain Fc _ _ (by intro c h; cases h)]
  simp only [sen8_o0]
  go_simp
  exact hK _ _ ⟨_, act_putD x hdef _ _, rfl, Below.refl _ _⟩
set_option maxRecDepth 100000 in
set_option maxHeartbeats 2000000 in
theorem sen8_s1 {Fc : Fence} (hF : Wide Fc) {nC : Nat} (gE i k r xa ya ua : Nat) (N0 : Nat) (Q : Exit → Act → World → Prop) (df : List Deferred) (w0 : World)
    (hh : Hid (i < 22 ∧ k < 22 ∧ r < 22 ∧ xa < 256 ∧ ya < 256 ∧ ua < 256))
    (cx : ∀ W, Below w0.heap.size w0 W → W.cell? ⟨gE, i, none⟩ = some (.int .u8 (xa : Nat)))
    (cy : ∀ W, Below w0.heap.size w0 W → W.cell? ⟨gE, k, none⟩ = some (.int .u8 (ya : Nat)))
    (cu : ∀ W, Below w0.heap.size w0 W → W.cell? ⟨gE, r, none⟩ = some (.int .u8 (ua : Nat)))
    (hN0 : w0.heap.size = N0)
    (x : Act) (w : World) (hB : Below w0.heap.size w0 w) (hdef : x.defers = df) (u1 : x.tmps.getD 1 undef = .slice (some ⟨gE, 0, none⟩) 22 22) (u2 : x.tmps.getD 2 undef = .int .i64 (i : Nat)) (u3 : x.tmps.getD 3 undef = .int .i64 (k : Nat))
    : wpOpIn Fc nC Tryd.prog sen8_ops Q 1 (fun a' w' => ∃ v, a' = x.put (some 21) v ∧ (v = .int .i64 (i : Nat)) ∧ Below w.heap.size w w') x w := by
  have ho : sen8_ops[1]? = some sen8_o1 := rfl
  simp only [Array.getD_eq_getD_getElem?] at u1 u2 u3
  refine wpOpIn_plain ho rfl (oper_inK hF.fn (fun K hK => ?_))
  clear ho
  rw [Oper.semAt_plain Fc _ _ (by intro c h; cases h)]
  simp only [sen8_o1]
  go_simp
  exact hK _ _ ⟨_, act_putD x hdef _ _, rfl, Below.refl _ _⟩
set_option maxRecDepth 100000 in
set_option maxHeartbeats 2000000 in
theorem sen8_s2 {Fc : Fence} (hF : Wide Fc) {nC : Nat} (gE i k r xa ya ua : Nat) (N0 : Nat) (Q : Exit → Act → World → Prop) (df : List Deferred) (w0 : World)
    (hh : Hid (i < 22 ∧ k < 22 ∧ r < 22 ∧ xa < 256 ∧ ya < 256 ∧ ua < 256))
    (cx : ∀ W, Below w0.heap.size w0 W → W.cell? ⟨gE, i, none⟩ = some (.int .u8 (xa : Nat)))
    (cy : ∀ W, Below w0.heap.size w0 W → W.cell? ⟨gE, k, none⟩ = some (.int .u8 (ya : Nat)))
    (cu : ∀ W, Below w0.heap.size w0 W → W.cell? ⟨gE, r, none⟩ = some (.int .u8 (ua : Nat)))
    (hN0 : w0.heap.size = N0)
    (x : Act) (w : World) (hB : Below w0.heap.size w0 w) (hdef : x.defers = df) (u1 : x.tmps.getD 1 undef = .slice (some ⟨gE, 0, none⟩) 22 22) (u2 : x.tmps.getD 2 undef = .int .i64 (i : Nat)) (u3 : x.tmps.getD 3 undef = .int .i64 (k : Nat))
    (p0 : sen8_val gE i k r xa ya ua N0 0 (x.tmps.getD 20 undef) w)
    (p1 : sen8_val gE i k r xa ya ua N0 1 (x.tmps.getD 21 undef) w)
    : wpOpIn Fc nC Tryd.prog sen8_ops Q 2 (fun a' w' => ∃ v, a' = x.put (some 22) v ∧ (v = .pointer (some ⟨gE, i, none⟩)) ∧ Below w.heap.size w w') x w := by
  have ho : sen8_ops[2]? = some sen8_o2 := rfl
  simp only [Array.getD_eq_getD_getElem?] at u1 u2 u3
  have q0 : x.tmps.getD 20 undef = .slice (some ⟨gE, 0, none⟩) 22 22 := p0
  have q1 : x.tmps.getD 21 undef = .int .i64 (i : Nat) := p1
  simp only [Array.getD_eq_getD_getElem?] at q0 q1
  have i0 : (0 : Int) ≤ (i : Int) := by omega
  have i1 : (i : Int) < 22 := by have := hh.out; omega
  refine wpOpIn_plain ho rfl (oper_inK hF.fn (fun K hK => ?_))
  clear ho
  rw [Oper.semAt_plain Fc _ _ (by intro c h; cases h)]
  simp only [sen8_o2]
  go_simp
  exact hK _ _ ⟨_, act_putD x hdef _ _, rfl, Below.refl _ _⟩
set_option maxRecDepth 100000 in
set_option maxHeartbeats 2000000 in
theorem sen8_s3 {Fc : Fence} (hF : Wide Fc) {nC : Nat} (gE i k r xa ya ua : Nat) (N0 : Nat) (Q : Exit → Act → World → Prop) (df : List Deferred) (w0 : World)
    (hh : Hid (i < 22 ∧ k < 22 ∧ r < 22 ∧ xa < 256 ∧ ya < 256 ∧ ua < 256))
    (cx : ∀ W, Below w0.heap.size w0 W → W.cell? ⟨gE, i, none⟩ = some (.int .u8 (xa : Nat)))
    (cy : ∀ W, Below w0.heap.size w0 W → W.cell? ⟨gE, k, none⟩ = some (.int .u8 (ya : Nat)))
    (cu : ∀ W, Below w0.heap.size w0 W → W.cell? ⟨gE, r, none⟩ = some (.int .u8 (ua : Nat)))
    (hN0 : w0.heap.size = N0)
    (x : Act) (w : World) (hB : Below w0.heap.size w0 w) (hdef : x.defers = df) (u1 : x.tmps.getD 1 undef = .slice (some ⟨gE, 0, none⟩) 22 22) (u2 : x.tmps.getD 2 undef = .int .i64 (i : Nat)) (u3 : x.tmps.getD 3 undef = .int .i64 (k : Nat))
    (p2 : sen8_val gE i k r xa ya ua N0 2 (x.tmps.getD 22 undef) w)
    : wpOpIn Fc nC Tryd.prog sen8_ops Q 3 (fun a' w' => ∃ v, a' = x.put (some 23) v ∧ (v = .int .u8 (xa : Nat)) ∧ Below w.heap.size w w') x w := by
  have ho : sen8_ops[3]? = some sen8_o3 := rfl
  simp only [Array.getD_eq_getD_getElem?] at u1 u2 u3
  have q2 : x.tmps.getD 22 undef = .pointer (some ⟨gE, i, none⟩) := p2
  simp only [Array.getD_eq_getD_getElem?] at q2
  have m := cx w hB
  refine wpOpIn_plain ho rfl (oper_inK hF.fn (fun K hK => ?_))
  clear ho
  rw [Oper.semAt_plain Fc _ _ (by intro c h; cases h)]
  simp only [sen8_o3]
  go_simp
  exact hK _ _ ⟨_, act_putD x hdef _ _, rfl, Below.refl _ _⟩
set_option maxRecDepth 100000 in
set_option maxHeartbeats 2000000 in
theorem sen8_s4 {Fc : Fence} (hF : Wide Fc) {nC : Nat} (gE i k r xa ya ua : Nat) (N0 : Nat) (Q : Exit → Act → World → Prop) (df : List Deferred) (w0 : World)
    (hh : Hid (i < 22 ∧ k < 22 ∧ r < 22 ∧ xa < 256 ∧ ya < 256 ∧ ua < 256))
    (cx : ∀ W, Below w0.heap.size w0 W → W.cell? ⟨gE, i, none⟩ = some (.int .u8 (xa : Nat)))
    (cy : ∀ W, Below w0.heap.size w0 W → W.cell? ⟨gE, k, none⟩ = some (.int .u8 (ya : Nat)))
    (cu : ∀ W, Below w0.heap.size w0 W → W.cell? ⟨gE, r, none⟩ = some (.int .u8 (ua : Nat)))
    (hN0 : w0.heap.size = N0)
    (x : Act) (w : World) (hB : Below w0.heap.size w0 w) (hdef : x.defers = df) (u1 : x.tmps.getD 1 undef = .slice (some ⟨gE, 0, none⟩) 22 22) (u2 : x.tmps.getD 2 undef = .int .i64 (i : Nat)) (u3 : x.tmps.getD 3 undef = .int .i64 (k : Nat))
    : wpOpIn Fc nC Tryd.prog sen8_ops Q 4 (fun a' w' => ∃ v, a' = x.put (some 24) v ∧ (v = .slice (some ⟨gE, 0, none⟩) 22 22) ∧ Below w.heap.size w w') x w := by
  have ho : sen8_ops[4]? = some sen8_o4 := rfl
  simp only [Array.getD_eq_getD_getElem?] at u1 u2 u3
  refine wpOpIn_plain ho rfl (oper_inK hF.fn (fun K hK => ?_))
  clear ho
  rw [Oper.semAt_plain Fc _ _ (by intro c h; cases h)]
  simp only [sen8_o4]
  go_simp
  exact hK _ _ ⟨_, act_putD x hdef _ _, rfl, Below.refl _ _⟩
set_option maxRecDepth 100000 in
set_option maxHeartbeats 2000000 in
theorem sen8_s5 {Fc : Fence} (hF : Wide Fc) {nC : Nat} (gE i k r xa ya ua : Nat) (N0 : Nat) (Q : Exit → Act → World → Prop) (df : List Deferred) (w0 : World)
    (hh : Hid (i < 22 ∧ k < 22 ∧ r < 22 ∧ xa < 256 ∧ ya < 256 ∧ ua < 256))
    (cx : ∀ W, Below w0.heap.size w0 W → W.cell? ⟨gE, i, none⟩ = some (.int .u8 (xa : Nat)))
    (cy : ∀ W, Below w0.heap.size w0 W → W.cell? ⟨gE, k, none⟩ = some (.int .u8 (ya : Nat)))
    (cu : ∀ W, Below w0.heap.size w0 W → W.cell? ⟨gE, r, none⟩ = some (.int .u8 (ua : Nat)))
    (hN0 : w0.heap.size = N0)
    (x : Act) (w : World) (hB : Below w0.heap.size w0 w) (hdef : x.defers = df) (u1 : x.tmps.getD 1 undef = .slice (some ⟨gE, 0, none⟩) 22 22) (u2 : x.tmps.getD 2 undef = .int .i64 (i : Nat)) (u3 : x.tmps.getD 3 undef = .int .i64 (k : Nat))
    : wpOpIn Fc nC Tryd.prog sen8_ops Q 5 (fun a' w' => ∃ v, a' = x.put (some 25) v ∧ (v = .int .i64 (k : Nat)) ∧ Below w.heap.size w w') x w := by
  have ho : sen8_ops[5]? = some sen8_o5 := rfl
  simp only [Array.getD_eq_getD_getElem?] at u1 u2 u3
  refine wpOpIn_plain ho rfl (oper_inK hF.fn (fun K hK => ?_))
  clear ho
  rw [Oper.semAt_plain Fc _ _ (by intro c h; cases h)]
  simp only [sen8_o5]
  go_simp
  exact hK _ _ ⟨_, act_putD x hdef _ _, rfl, Below.refl _ _⟩
set_option maxRecDepth 100000 in
set_option maxHeartbeats 2000000 in
theorem sen8_s6 {Fc : Fence} (hF : Wide Fc) {nC : Nat} (gE i k r xa ya ua : Nat) (N0 : Nat) (Q : Exit → Act → World → Prop) (df : List Deferred) (w0 : World)
    (hh : Hid (i < 22 ∧ k < 22 ∧ r < 22 ∧ xa < 256 ∧ ya < 256 ∧ ua < 256))
    (cx : ∀ W, Below w0.heap.size w0 W → W.cell? ⟨gE, i, none⟩ = some (.int .u8 (xa : Nat)))
    (cy : ∀ W, Below w0.heap.size w0 W → W.cell? ⟨gE, k, none⟩ = some (.int .u8 (ya : Nat)))
    (cu : ∀ W, Below w0.heap.size w0 W → W.cell? ⟨gE, r, none⟩ = some (.int .u8 (ua : Nat)))
    (hN0 : w0.heap.size = N0)
    (x : Act) (w : World) (hB : Below w0.heap.size w0 w) (hdef : x.defers = df) (u1 : x.tmps.getD 1 undef = .slice (some ⟨gE, 0, none⟩) 22 22) (u2 : x.tmps.getD 2 undef = .int .i64 (i : Nat)) (u3 : x.tmps.getD 3 undef = .int .i64 (k : Nat))
    (p4 : sen8_val gE i k r xa ya ua N0 4 (x.tmps.getD 24 undef) w)
    (p5 : sen8_val gE i k r xa ya ua N0 5 (x.tmps.getD 25 undef) w)
    : wpOpIn Fc nC Tryd.prog sen8_ops Q 6 (fun a' w' => ∃ v, a' = x.put (some 26) v ∧ (v = .pointer (some ⟨gE, k, none⟩)) ∧ Below w.heap.size w w') x w := by
  have ho : sen8_ops[6]? = some sen8_o6 := rfl
  simp only [Array.getD_eq_getD_getElem?] at u1 u2 u3
  have q4 : x.tmps.getD 24 undef = .slice (some ⟨gE, 0, none⟩) 22 22 := p4
  have q5 : x.tmps.getD 25 undef = .int .i64 (k : Nat) := p5
  simp only [Array.getD_eq_getD_getElem?] at q4 q5
  have i0 : (0 : Int) ≤ (k : Int) := by omega
  have i1 : (k : Int) < 22 := by have := hh.out; omega
  refine wpOpIn_plain ho rfl (oper_inK hF.fn (fun K hK => ?_))
  clear ho
  rw [Oper.semAt_plain Fc _ _ (by intro c h; cases h)]
  simp only [sen8_o6]
  go_simp
  exact hK _ _ ⟨_, act_putD x hdef _ _, rfl, Below.refl _ _⟩
set_option maxRecDepth 100000 in
set_option maxHeartbeats 2000000 in
theorem sen8_s7 {Fc : Fence} (hF : Wide Fc) {nC : Nat} (gE i k r xa ya ua : Nat) (N0 : Nat) (Q : Exit → Act → World → Prop) (df : List Deferred) (w0 : World)
    (hh : Hid (i < 22 ∧ k < 22 ∧ r < 22 ∧ xa < 256 ∧ ya < 256 ∧ ua < 256))
    (cx : ∀ W, Below w0.heap.size w0 W → W.cell? ⟨gE, i, none⟩ = some (.int .u8 (xa : Nat)))
    (cy : ∀ W, Below w0.heap.size w0 W → W.cell? ⟨gE, k, none⟩ = some (.int .u8 (ya : Nat)))
    (cu : ∀ W, Below w0.heap.size w0 W → W.cell? ⟨gE, r, none⟩ = some (.int .u8 (ua : Nat)))
    (hN0 : w0.heap.size = N0)
    (x : Act) (w : World) (hB : Below w0.heap.size w0 w) (hdef : x.defers = df) (u1 : x.tmps.getD 1 undef = .slice (some ⟨gE, 0, none⟩) 22 22) (u2 : x.tmps.getD 2 undef = .int .i64 (i : Nat)) (u3 : x.tmps.getD 3 undef = .int .i64 (k : Nat))
    (p6 : sen8_val gE i k r xa ya ua N0 6 (x.tmps.getD 26 undef) w)
    : wpOpIn Fc nC Tryd.prog sen8_ops Q 7 (fun a' w' => ∃ v, a' = x.put (some 27) v ∧ (v = .int .u8 (ya : Nat)) ∧ Below w.heap.size w w') x w := by
  have ho : sen8_ops[7]? = some sen8_o7 := rfl
  simp only [Array.getD_eq_getD_getElem?] at u1 u2 u3
  have q6 : x.tmps.getD 26 undef = .pointer (some ⟨gE, k, none⟩) := p6
  simp only [Array.getD_eq_getD_getElem?] at q6
  have m := cy w hB
  refine wpOpIn_plain ho rfl (oper_inK hF.fn (fun K hK => ?_))
  clear ho
  rw [Oper.semAt_plain Fc _ _ (by intro c h; cases h)]
  simp only [sen8_o7]
  go_simp
  exact hK _ _ ⟨_, act_putD x hdef _ _, rfl, Below.refl _ _⟩
set_option maxRecDepth 100000 in
set_option maxHeartbeats 2000000 in
theorem sen8_s8 {Fc : Fence} (hF : Wide Fc) {nC : Nat} (gE i k r xa ya ua : Nat) (N0 : Nat) (Q : Exit → Act → World → Prop) (df : List Deferred) (w0 : World)
    (hh : Hid (i < 22 ∧ k < 22 ∧ r < 22 ∧ xa < 256 ∧ ya < 256 ∧ ua < 256))
    (cx : ∀ W, Below w0.heap.size w0 W → W.cell? ⟨gE, i, none⟩ = some (.int .u8 (xa : Nat)))
    (cy : ∀ W, Below w0.heap.size w0 W → W.cell? ⟨gE, k, none⟩ = some (.int .u8 (ya : Nat)))
    (cu : ∀ W, Below w0.heap.size w0 W → W.cell? ⟨gE, r, none⟩ = some (.int .u8 (ua : Nat)))
    (hN0 : w0.heap.size = N0)
    (x : Act) (w : World) (hB : Below w0.heap.size w0 w) (hdef : x.defers = df) (u1 : x.tmps.getD 1 undef = .slice (some ⟨gE, 0, none⟩) 22 22) (u2 : x.tmps.getD 2 undef = .int .i64 (i : Nat)) (u3 : x.tmps.getD 3 undef = .int .i64 (k : Nat))
    (p3 : sen8_val gE i k r xa ya ua N0 3 (x.tmps.getD 23 undef) w)
    (p7 : sen8_val gE i k r xa ya ua N0 7 (x.tmps.getD 27 undef) w)
    : wpOpIn Fc nC Tryd.prog sen8_ops Q 8 (fun a' w' => ∃ v, a' = x.put (some 28) v ∧ (v = sv (rng xa ya)) ∧ Below w.heap.size w w') x w := by
  have ho : sen8_ops[8]? = some sen8_o8 := rfl
  simp only [Array.getD_eq_getD_getElem?] at u1 u2 u3
  have q3 : x.tmps.getD 23 undef = .int .u8 (xa : Nat) := p3
  have q7 : x.tmps.getD 27 undef = .int .u8 (ya : Nat) := p7
  simp only [Array.getD_eq_getD_getElem?] at q3 q7
  refine wpOpIn_plain ho rfl (oper_inK hF.fn (fun K hK => ?_))
  clear ho
  rw [Oper.semAt_plain Fc _ _ (by intro c h; cases h)]
  simp only [sen8_o8]
  go_simp
  refine ⟨hF.deep, (hF.call (range_any xa ya w hh.out.2.2.2.1 hh.out.2.2.2.2.1)).mono ?_⟩
  rintro e w' ⟨rfl, hb⟩
  exact hK _ _ ⟨_, act_putD x hdef _ _, rfl, hb⟩
set_option maxRecDepth 100000 in
set_option maxHeartbeats 2000000 in
theorem sen8_s9 {Fc : Fence} (hF : Wide Fc) {nC : Nat} (gE i k r xa ya ua : Nat) (N0 : Nat) (Q : Exit → Act → World → Prop) (df : List Deferred) (w0 : World)
    (hh : Hid (i < 22 ∧ k < 22 ∧ r < 22 ∧ xa < 256 ∧ ya < 256 ∧ ua < 256))
    (cx : ∀ W, Below w0.heap.size w0 W → W.cell? ⟨gE, i, none⟩ = some (.int .u8 (xa : Nat)))
    (cy : ∀ W, Below w0.heap.size w0 W → W.cell? ⟨gE, k, none⟩ = some (.int .u8 (ya : Nat)))
    (cu : ∀ W, Below w0.heap.size w0 W → W.cell? ⟨gE, r, none⟩ = some (.int .u8 (ua : Nat)))
    (hN0 : w0.heap.size = N0)
    (x : Act) (w : World) (hB : Below w0.heap.size w0 w) (hdef : x.defers = df) (u1 : x.tmps.getD 1 undef = .slice (some ⟨gE, 0, none⟩) 22 22) (u2 : x.tmps.getD 2 undef = .int .i64 (i : Nat)) (u3 : x.tmps.getD 3 undef = .int .i64 (k : Nat))
    : wpOpIn Fc nC Tryd.prog sen8_ops Q 9 (fun a' w' => ∃ v, a' = x.put (some 4) v ∧ (∃ g, v = .pointer (some ⟨g, 0, none⟩) ∧ SBox w' g nobs ∧ N0 ≤ g) ∧ Below w.heap.size w w') x w := by
  have ho : sen8_ops[9]? = some sen8_o9 := rfl
  simp only [Array.getD_eq_getD_getElem?] at u1 u2 u3
  refine wpOpIn_plain ho rfl (oper_inK hF.fn (fun K hK => ?_))
  clear ho
  rw [Oper.semAt_plain Fc _ _ (by intro c h; cases h)]
  simp only [sen8_o9]
  go_simp
  exact hK _ _ ⟨_, act_putD x hdef _ _, ⟨_, rfl, SBox.new w w.heap.size nobs rfl, hN0 ▸ hB.size⟩, below_alloc _ _⟩

set_option maxRecDepth 100000 in
set_option maxHeartbeats 4000000 in
theorem sen8 {Fc : Fence} (hF : Wide Fc) {nC : Nat} (gE i k r xa ya ua : Nat) (N0 : Nat) (Q : Exit → Act → World → Prop) (t0 : Array Value) (df : List Deferred) (w0 : World) (ht : t0.size = 126)
    (hs1 : t0.getD 1 undef = .slice (some ⟨gE, 0, none⟩) 22 22) (hs2 : t0.getD 2 undef = .int .i64 (i : Nat)) (hs3 : t0.getD 3 undef = .int .i64 (k : Nat))
    (hh : Hid (i < 22 ∧ k < 22 ∧ r < 22 ∧ xa < 256 ∧ ya < 256 ∧ ua < 256))
    (cx : ∀ W, Below w0.heap.size w0 W → W.cell? ⟨gE, i, none⟩ = some (.int .u8 (xa : Nat)))
    (cy : ∀ W, Below w0.heap.size w0 W → W.cell? ⟨gE, k, none⟩ = some (.int .u8 (ya : Nat)))
    (cu : ∀ W, Below w0.heap.size w0 W → W.cell? ⟨gE, r, none⟩ = some (.int .u8 (ua : Nat)))
    (hN0 : w0.heap.size = N0)
    (hQ : ∀ (vs : Nat → Value) (w : World), Below w0.heap.size w0 w → (vs 28 = sv (rng xa ya)) → (∃ g, (vs 4) = .pointer (some ⟨g, 0, none⟩) ∧ SBox w g nobs ∧ N0 ≤ g) → wpOpIn Fc nC Tryd.prog sen8_ops Q 10 (Q .normal) { tmps := [20, 21, 22, 23, 24, 25, 26, 27, 28, 4].foldl (fun y d => y.setIfInBounds d (vs d)) t0, defers := df } w) :
    (Code.region 8 sen8_ops true).wpIn Fc nC Tryd.prog Q { tmps := t0, defers := df } w0 := by
  refine wpIn_region_tail 10 (by decide) (by kernel_rfl) (fun a b => Below a.heap.size a b) (sen8_val gE i k r xa ya ua N0) t0 df w0 (by rw [ht]; kernel_rfl) (by kernel_rfl) (by kernel_rfl) (by kernel_rfl) ((Below.refl _ _).drew) (fun _ _ _ h k => h.trans (k.mono h.size)) (sen8_below gE i k r xa ya ua N0) ?_ ?_
  · intro j o ho hj x w hB hdef hsz hs hdeps
    have hs' : ∀ s, ¬ sen8_mem s → x.tmps.getD s undef = t0.getD s undef := fun s hn => hs s (fun j hj e => hn (by rw [e]; exact sen8_slots j hj))
    have u1 := (hs' 1 (by decide)).trans hs1
    have u2 := (hs' 2 (by decide)).trans hs2
    have u3 := (hs' 3 (by decide)).trans hs3
    match j, ho, hj with
    | 0, ho, _ =>
      have e : o = sen8_o0 := (Option.some.inj ho).symm
      subst e
      exact sen8_s0 hF gE i k r xa ya ua N0 Q df w0 hh cx cy cu hN0 x w hB hdef u1 u2 u3 
    | 1, ho, _ =>
      have e : o = sen8_o1 := (Option.some.inj ho).symm
      subst e
      exact sen8_s1 hF gE i k r xa ya ua N0 Q df w0 hh cx cy cu hN0 x w hB hdef u1 u2 u3 
    | 2, ho, _ =>
      have e : o = sen8_o2 := (Option.some.inj ho).symm
      subst e
      exact sen8_s2 hF gE i k r xa ya ua N0 Q df w0 hh cx cy cu hN0 x w hB hdef u1 u2 u3 (hdeps { on := 0, ground := Ground.data } (by simp) rfl) (hdeps { on := 1, ground := Ground.data } (by simp) rfl)
    | 3, ho, _ =>
      have e : o = sen8_o3 := (Option.some.inj ho).symm
      subst e
      exact sen8_s3 hF gE i k r xa ya ua N0 Q df w0 hh cx cy cu hN0 x w hB hdef u1 u2 u3 (hdeps { on := 2, ground := Ground.data } (by simp) rfl)
    | 4, ho, _ =>
      have e : o = sen8_o4 := (Option.some.inj ho).symm
      subst e
      exact sen8_s4 hF gE i k r xa ya ua N0 Q df w0 hh cx cy cu hN0 x w hB hdef u1 u2 u3 
    | 5, ho, _ =>
      have e : o = sen8_o5 := (Option.some.inj ho).symm
      subst e
      exact sen8_s5 hF gE i k r xa ya ua N0 Q df w0 hh cx cy cu hN0 x w hB hdef u1 u2 u3 
    | 6, ho, _ =>
      have e : o = sen8_o6 := (Option.some.inj ho).symm
      subst e
      exact sen8_s6 hF gE i k r xa ya ua N0 Q df w0 hh cx cy cu hN0 x w hB hdef u1 u2 u3 (hdeps { on := 4, ground := Ground.data } (by simp) rfl) (hdeps { on := 5, ground := Ground.data } (by simp) rfl)
    | 7, ho, _ =>
      have e : o = sen8_o7 := (Option.some.inj ho).symm
      subst e
      exact sen8_s7 hF gE i k r xa ya ua N0 Q df w0 hh cx cy cu hN0 x w hB hdef u1 u2 u3 (hdeps { on := 6, ground := Ground.data } (by simp) rfl)
    | 8, ho, _ =>
      have e : o = sen8_o8 := (Option.some.inj ho).symm
      subst e
      exact sen8_s8 hF gE i k r xa ya ua N0 Q df w0 hh cx cy cu hN0 x w hB hdef u1 u2 u3 (hdeps { on := 3, ground := Ground.data } (by simp) rfl) (hdeps { on := 7, ground := Ground.data } (by simp) rfl)
    | 9, ho, _ =>
      have e : o = sen8_o9 := (Option.some.inj ho).symm
      subst e
      exact sen8_s9 hF gE i k r xa ya ua N0 Q df w0 hh cx cy cu hN0 x w hB hdef u1 u2 u3 
    | k + 10, _, hj => omega
  · intro x w hB hdef hsz hs hv
    have hx := frame_sets x.tmps t0 hsz [20, 21, 22, 23, 24, 25, 26, 27, 28, 4] (fun s hn => hs s (fun j hj e => hn (by rw [e]; exact sen8_slots j hj)))
    have hq := hQ (fun d => x.tmps.getD d undef) w hB (hv 8 (by decide)) (hv 9 (by decide))
    obtain ⟨T, Df⟩ := x
    dsimp only at hx hdef hq
    subst hdef
    rw [← hx] at hq
    exact hq
abbrev sen9_o0 : Oper := { dst := some 29, op := Op.move (Operand.tmp 1), type := 25, pos := "law.go:68", after := #[], guard := none }
abbrev sen9_o1 : Oper := { dst := some 30, op := Op.move (Operand.tmp 3), type := 3, pos := "law.go:68", after := #[], guard := none }
abbrev sen9_o2 : Oper := { dst := some 31, op := Op.indexAddr 25 (Operand.tmp 29) (Operand.tmp 30), type := 0, pos := "law.go:68", after := #[{ on := 0, ground := Ground.data }, { on := 1, ground := Ground.data }], guard := none }
abbrev sen9_o3 : Oper := { dst := some 32, op := Op.load 5 (Operand.tmp 31), type := 5, pos := "law.go:68", after := #[{ on := 2, ground := Ground.data }], guard := none }
abbrev sen9_o4 : Oper := { dst := some 33, op := Op.move (Operand.tmp 1), type := 25, pos := "law.go:68", after := #[], guard := none }
abbrev sen9_o5 : Oper := { dst := some 34, op := Op.move (Operand.tmp 2), type := 3, pos := "law.go:68", after := #[], guard := none }
abbrev sen9_o6 : Oper := { dst := some 35, op := Op.move (Operand.tmp 3), type := 3, pos := "law.go:68", after := #[], guard := none }
abbrev sen9_o7 : Oper := { dst := some 36, op := Op.binOp BinOp.add 3 (Operand.tmp 34) (Operand.tmp 35) 3, type := 3, pos := "law.go:68", after := #[{ on := 5, ground := Ground.data }, { on := 6, ground := Ground.data }], guard := none }
abbrev sen9_o8 : Oper := { dst := some 37, op := Op.move (Operand.tmp 1), type := 25, pos := "law.go:68", after := #[], guard := none }
abbrev sen9_o9 : Oper := { dst := some 38, op := Op.call { callee := Callee.builtin Builtin.len, args := #[Operand.tmp 37], argTypes := #[25] }, type := 3, pos := "law.go:68", after := #[{ on := 8, ground := Ground.data }], guard := none }
abbrev sen9_o10 : Oper := { dst := some 39, op := Op.binOp BinOp.rem 3 (Operand.tmp 36) (Operand.tmp 38) 3, type := 3, pos := "law.go:68", after := #[{ on := 7, ground := Ground.data }, { on := 9, ground := Ground.data }], guard := none }
abbrev sen9_o11 : Oper := { dst := some 40, op := Op.indexAddr 25 (Operand.tmp 33) (Operand.tmp 39), type := 0, pos := "law.go:68", after := #[{ on := 4, ground := Ground.data }, { on := 10, ground := Ground.data }], guard := none }
abbrev sen9_o12 : Oper := { dst := some 41, op := Op.load 5 (Operand.tmp 40), type := 5, pos := "law.go:68", after := #[{ on := 11, ground := Ground.data }], guard := none }
abbrev sen9_o13 : Oper := { dst := some 42, op := Op.call { callee := Callee.value (Operand.func 15), args := #[Operand.tmp 32, Operand.tmp 41], argTypes := #[5, 5] }, type := 24, pos := "law.go:68", after := #[{ on := 3, ground := Ground.data }, { on := 12, ground := Ground.data }], guard := none }
abbrev sen9_o14 : Oper := { dst := some 5, op := Op.alloc 24, type := 0, pos := "law.go:68", after := #[], guard := none }
abbrev sen9_o15 : Oper := { dst := none, op := Op.store 24 (Operand.tmp 5) (Operand.tmp 42), type := 0, pos := "law.go:68", after := #[{ on := 14, ground := Ground.data }, { on := 13, ground := Ground.data }, { on := 13, ground := Ground.chain }, { on := 0, ground := Ground.phase }, { on := 1, ground := Ground.phase }, { on := 2, ground := Ground.phase }, { on := 3, ground := Ground.phase }, { on := 4, ground := Ground.phase }, { on := 5, ground := Ground.phase }, { on := 6, ground := Ground.phase }, { on := 7, ground := Ground.phase }, { on := 8, ground := Ground.phase }, { on := 9, ground := Ground.phase }, { on := 10, ground := Ground.phase }, { on := 11, ground := Ground.phase }, { on := 12, ground := Ground.phase }, { on := 13, ground := Ground.phase }, { on := 14, ground := Ground.phase }], guard := none }
def sen9_ops : Array Oper := #[sen9_o0, sen9_o1, sen9_o2, sen9_o3, sen9_o4, sen9_o5, sen9_o6, sen9_o7, sen9_o8, sen9_o9, sen9_o10, sen9_o11, sen9_o12, sen9_o13, sen9_o14, sen9_o15]
abbrev sen9_mem (s : Nat) : Prop := s ∈ [29, 30, 31, 32, 33, 34, 35, 36, 37, 38, 39, 40, 41, 42, 5]
set_option maxRecDepth 100000 in
theorem sen9_slots : ∀ j, j < 15 → sen9_mem (slotOf sen9_ops j) := by
  intro j hj
  match j, hj with
  | 0, _ => exact (by decide : sen9_mem 29)
  | 1, _ => exact (by decide : sen9_mem 30)
  | 2, _ => exact (by decide : sen9_mem 31)
  | 3, _ => exact (by decide : sen9_mem 32)
  | 4, _ => exact (by decide : sen9_mem 33)
  | 5, _ => exact (by decide : sen9_mem 34)
  | 6, _ => exact (by decide : sen9_mem 35)
  | 7, _ => exact (by decide : sen9_mem 36)
  | 8, _ => exact (by decide : sen9_mem 37)
  | 9, _ => exact (by decide : sen9_mem 38)
  | 10, _ => exact (by decide : sen9_mem 39)
  | 11, _ => exact (by decide : sen9_mem 40)
  | 12, _ => exact (by decide : sen9_mem 41)
  | 13, _ => exact (by decide : sen9_mem 42)
  | 14, _ => exact (by decide : sen9_mem 5)
  | k + 15, hj => omega
def sen9_val (gE i k r xa ya ua : Nat) (N0 : Nat) : Nat → Value → World → Prop
  | 0, v, w => v = .slice (some ⟨gE, 0, none⟩) 22 22
  | 1, v, w => v = .int .i64 (k : Nat)
  | 2, v, w => v = .pointer (some ⟨gE, k, none⟩)
  | 3, v, w => v = .int .u8 (ya : Nat)
  | 4, v, w => v = .slice (some ⟨gE, 0, none⟩) 22 22
  | 5, v, w => v = .int .i64 (i : Nat)
  | 6, v, w => v = .int .i64 (k : Nat)
  | 7, v, w => v = .int .i64 ((i : Int) + (k : Int))
  | 8, v, w => v = .slice (some ⟨gE, 0, none⟩) 22 22
  | 9, v, w => v = .int .i64 (22 : Nat)
  | 10, v, w => v = .int .i64 (r : Nat)
  | 11, v, w => v = .pointer (some ⟨gE, r, none⟩)
  | 12, v, w => v = .int .u8 (ua : Nat)
  | 13, v, w => v = sv (rng ya ua)
  | 14, v, w => ∃ g, v = .pointer (some ⟨g, 0, none⟩) ∧ SBox w g nobs ∧ N0 ≤ g
  | _, _, _ => True
theorem sen9_below (gE i k r xa ya ua : Nat) (N0 : Nat) (w w' : World) (hb : Below w.heap.size w w') : ∀ j v, sen9_val gE i k r xa ya ua N0 j v w → sen9_val gE i k r xa ya ua N0 j v w' := by
  intro j v h
  match j, h with
  | 0, h => exact h
  | 1, h => exact h
  | 2, h => exact h
  | 3, h => exact h
  | 4, h => exact h
  | 5, h => exact h
  | 6, h => exact h
  | 7, h => exact h
  | 8, h => exact h
  | 9, h => exact h
  | 10, h => exact h
  | 11, h => exact h
  | 12, h => exact h
  | 13, h => exact h
  | 14, h => obtain ⟨g, h1, h2, h3⟩ := h; exact ⟨g, h1, h2.below hb h2.lt, h3⟩
  | _ + 15, h => exact h
set_option maxRecDepth 100000 in
set_option maxHeartbeats 2000000 in
theorem sen9_s0 {Fc : Fence} (hF : Wide Fc) {nC : Nat} (gE i k r xa ya ua : Nat) (N0 : Nat) (Q : Exit → Act → World → Prop) (df : List Deferred) (w0 : World)
    (hh : Hid (i < 22 ∧ k < 22 ∧ r < 22 ∧ xa < 256 ∧ ya < 256 ∧ ua < 256))
    (cx : ∀ W, Below w0.heap.size w0 W → W.cell? ⟨gE, i, none⟩ = some (.int .u8 (xa : Nat)))
    (cy : ∀ W, Below w0.heap.size w0 W → W.cell? ⟨gE, k, none⟩ = some (.int .u8 (ya : Nat)))
    (cu : ∀ W, Below w0.heap.size w0 W → W.cell? ⟨gE, r, none⟩ = some (.int .u8 (ua : Nat)))
    (hr : Hid ((i + k) % 22 = r)) (hN0 : w0.heap.size = N0)
    (x : Act) (w : World) (hB : Below w0.heap.size w0 w) (hdef : x.defers = df) (u1 : x.tmps.getD 1 undef = .slice (some ⟨gE, 0, none⟩) 22 22) (u2 : x.tmps.getD 2 undef = .int .i64 (i : Nat)) (u3 : x.tmps.getD 3 undef = .int .i64 (k : Nat))
    : wpOpIn Fc nC Tryd.prog sen9_ops Q 0 (fun a' w' => ∃ v, a' = x.put (some 29) v ∧ (v = .slice (some ⟨gE, 0, none⟩) 22 22) ∧ Below w.heap.size w w') x w := by
  have ho : sen9_ops[0]? = some sen9_o0 := rfl
  simp only [Array.getD_eq_getD_getElem?] at u1 u2 u3
  refine wpOpIn_plain ho rfl (oper_inK hF.fn (fun K hK => ?_))
  clear ho
  rw [Oper.semAt_plain Fc _ _ (by intro c h; cases h)]
  simp only [sen9_o0]
  go_simp
  exact hK _ _ ⟨_, act_putD x hdef _ _, rfl, Below.refl _ _⟩
set_option maxRecDepth 100000 in
set_option maxHeartbeats 2000000 in
theorem sen9_s1 {Fc : Fence} (hF : Wide Fc) {nC : Nat} (gE i k r xa ya ua : Nat) (N0 : Nat) (Q : Exit → Act → World → Prop) (df : List Deferred) (w0 : World)
    (hh : Hid (i < 22 ∧ k < 22 ∧ r < 22 ∧ xa < 256 ∧ ya < 256 ∧ ua < 256))
    (cx : ∀ W, Below w0.heap.size w0 W → W.cell? ⟨gE, i, none⟩ = some (.int .u8 (xa : Nat)))
    (cy : ∀ W, Below w0.heap.size w0 W → W.cell? ⟨gE, k, none⟩ = some (.int .u8 (ya : Nat)))
    (cu : ∀ W, Below w0.heap.size w0 W → W.cell? ⟨gE, r, none⟩ = some (.int .u8 (ua : Nat)))
    (hr : Hid ((i + k) % 22 = r)) (hN0 : w0.heap.size = N0)
    (x : Act) (w : World) (hB : Below w0.heap.size w0 w) (hdef : x.defers = df) (u1 : x.tmps.getD 1 undef = .slice (some ⟨gE, 0, none⟩) 22 22) (u2 : x.tmps.getD 2 undef = .int .i64 (i : Nat)) (u3 : x.tmps.getD 3 undef = .int .i64 (k : Nat))
    : wpOpIn Fc nC Tryd.prog sen9_ops Q 1 (fun a' w' => ∃ v, a' = x.put (some 30) v ∧ (v = .int .i64 (k : Nat)) ∧ Below w.heap.size w w') x w := by
  have ho : sen9_ops[1]? = some sen9_o1 := rfl
  simp only [Array.getD_eq_getD_getElem?] at u1 u2 u3
  refine wpOpIn_plain ho rfl (oper_inK hF.fn (fun K hK => ?_))
  clear ho
  rw [Oper.semAt_plain Fc _ _ (by intro c h; cases h)]
  simp only [sen9_o1]
  go_simp
  exact hK _ _ ⟨_, act_putD x hdef _ _, rfl, Below.refl _ _⟩
set_option maxRecDepth 100000 in
set_option maxHeartbeats 2000000 in
theorem sen9_s2 {Fc : Fence} (hF : Wide Fc) {nC : Nat} (gE i k r xa ya ua : Nat) (N0 : Nat) (Q : Exit → Act → World → Prop) (df : List Deferred) (w0 : World)
    (hh : Hid (i < 22 ∧ k < 22 ∧ r < 22 ∧ xa < 256 ∧ ya < 256 ∧ ua < 256))
    (cx : ∀ W, Below w0.heap.size w0 W → W.cell? ⟨gE, i, none⟩ = some (.int .u8 (xa : Nat)))
    (cy : ∀ W, Below w0.heap.size w0 W → W.cell? ⟨gE, k, none⟩ = some (.int .u8 (ya : Nat)))
    (cu : ∀ W, Below w0.heap.size w0 W → W.cell? ⟨gE, r, none⟩ = some (.int .u8 (ua : Nat)))
    (hr : Hid ((i + k) % 22 = r)) (hN0 : w0.heap.size = N0)
    (x : Act) (w : World) (hB : Below w0.heap.size w0 w) (hdef : x.defers = df) (u1 : x.tmps.getD 1 undef = .slice (some ⟨gE, 0, none⟩) 22 22) (u2 : x.tmps.getD 2 undef = .int .i64 (i : Nat)) (u3 : x.tmps.getD 3 undef = .int .i64 (k : Nat))
    (p0 : sen9_val gE i k r xa ya ua N0 0 (x.tmps.getD 29 undef) w)
    (p1 : sen9_val gE i k r xa ya ua N0 1 (x.tmps.getD 30 undef) w)
    : wpOpIn Fc nC Tryd.prog sen9_ops Q 2 (fun a' w' => ∃ v, a' = x.put (some 31) v ∧ (v = .pointer (some ⟨gE, k, none⟩)) ∧ Below w.heap.size w w') x w := by
  have ho : sen9_ops[2]? = some sen9_o2 := rfl
  simp only [Array.getD_eq_getD_getElem?] at u1 u2 u3
  have q0 : x.tmps.getD 29 undef = .slice (some ⟨gE, 0, none⟩) 22 22 := p0
  have q1 : x.tmps.getD 30 undef = .int .i64 (k : Nat) := p1
  simp only [Array.getD_eq_getD_getElem?] at q0 q1
  have i0 : (0 : Int) ≤ (k : Int) := by omega
  have i1 : (k : Int) < 22 := by have := hh.out; omega
  refine wpOpIn_plain ho rfl (oper_inK hF.fn (fun K hK => ?_))
  clear ho
  rw [Oper.semAt_plain Fc _ _ (by intro c h; cases h)]
  simp only [sen9_o2]
  go_simp
  exact hK _ _ ⟨_, act_putD x hdef _ _, rfl, Below.refl _ _⟩
set_option maxRecDepth 100000 in
set_option maxHeartbeats 2000000 in
theorem sen9_s3 {Fc : Fence} (hF : Wide Fc) {nC : Nat} (gE i k r xa ya ua : Nat) (N0 : Nat) (Q : Exit → Act → World → Prop) (df : List Deferred) (w0 : World)
    (hh : Hid (i < 22 ∧ k < 22 ∧ r < 22 ∧ xa < 256 ∧ ya < 256 ∧ ua < 256))
    (cx : ∀ W, Below w0.heap.size w0 W → W.cell? ⟨gE, i, none⟩ = some (.int .u8 (xa : Nat)))
    (cy : ∀ W, Below w0.heap.size w0 W → W.cell? ⟨gE, k, none⟩ = some (.int .u8 (ya : Nat)))
    (cu : ∀ W, Below w0.heap.size w0 W → W.cell? ⟨gE, r, none⟩ = some (.int .u8 (ua : Nat)))
    (hr : Hid ((i + k) % 22 = r)) (hN0 : w0.heap.size = N0)
    (x : Act) (w : World) (hB : Below w0.heap.size w0 w) (hdef : x.defers = df) (u1 : x.tmps.getD 1 undef = .slice (some ⟨gE, 0, none⟩) 22 22) (u2 : x.tmps.getD 2 undef = .int .i64 (i : Nat)) (u3 : x.tmps.getD 3 undef = .int .i64 (k : Nat))
    (p2 : sen9_val gE i k r xa ya ua N0 2 (x.tmps.getD 31 undef) w)
    : wpOpIn Fc nC Tryd.prog sen9_ops Q 3 (fun a' w' => ∃ v, a' = x.put (some 32) v ∧ (v = .int .u8 (ya : Nat)) ∧ Below w.heap.size w w') x w := by
  have ho : sen9_ops[3]? = some sen9_o3 := rfl
  simp only [Array.getD_eq_getD_getElem?] at u1 u2 u3
  have q2 : x.tmps.getD 31 undef = .pointer (some ⟨gE, k, none⟩) := p2
  simp only [Array.getD_eq_getD_getElem?] at q2
  have m := cy w hB
  refine wpOpIn_plain ho rfl (oper_inK hF.fn (fun K hK => ?_))
  clear ho
  rw [Oper.semAt_plain Fc _ _ (by intro c h; cases h)]
  simp only [sen9_o3]
  go_simp
  exact hK _ _ ⟨_, act_putD x hdef _ _, rfl, Below.refl _ _⟩
set_option maxRecDepth 100000 in
set_option maxHeartbeats 2000000 in
theorem sen9_s4 {Fc : Fence} (hF : Wide Fc) {nC : Nat} (gE i k r xa ya ua : Nat) (N0 : Nat) (Q : Exit → Act → World → Prop) (df : List Deferred) (w0 : World)
    (hh : Hid (i < 22 ∧ k < 22 ∧ r < 22 ∧ xa < 256 ∧ ya < 256 ∧ ua < 256))
    (cx : ∀ W, Below w0.heap.size w0 W → W.cell? ⟨gE, i, none⟩ = some (.int .u8 (xa : Nat)))
    (cy : ∀ W, Below w0.heap.size w0 W → W.cell? ⟨gE, k, none⟩ = some (.int .u8 (ya : Nat)))
    (cu : ∀ W, Below w0.heap.size w0 W → W.cell? ⟨gE, r, none⟩ = some (.int .u8 (ua : Nat)))
    (hr : Hid ((i + k) % 22 = r)) (hN0 : w0.heap.size = N0)
    (x : Act) (w : World) (hB : Below w0.heap.size w0 w) (hdef : x.defers = df) (u1 : x.tmps.getD 1 undef = .slice (some ⟨gE, 0, none⟩) 22 22) (u2 : x.tmps.getD 2 undef = .int .i64 (i : Nat)) (u3 : x.tmps.getD 3 undef = .int .i64 (k : Nat))
    : wpOpIn Fc nC Tryd.prog sen9_ops Q 4 (fun a' w' => ∃ v, a' = x.put (some 33) v ∧ (v = .slice (some ⟨gE, 0, none⟩) 22 22) ∧ Below w.heap.size w w') x w := by
  have ho : sen9_ops[4]? = some sen9_o4 := rfl
  simp only [Array.getD_eq_getD_getElem?] at u1 u2 u3
  refine wpOpIn_plain ho rfl (oper_inK hF.fn (fun K hK => ?_))
  clear ho
  rw [Oper.semAt_plain Fc _ _ (by intro c h; cases h)]
  simp only [sen9_o4]
  go_simp
  exact hK _ _ ⟨_, act_putD x hdef _ _, rfl, Below.refl _ _⟩
set_option maxRecDepth 100000 in
set_option maxHeartbeats 2000000 in
theorem sen9_s5 {Fc : Fence} (hF : Wide Fc) {nC : Nat} (gE i k r xa ya ua : Nat) (N0 : Nat) (Q : Exit → Act → World → Prop) (df : List Deferred) (w0 : World)
    (hh : Hid (i < 22 ∧ k < 22 ∧ r < 22 ∧ xa < 256 ∧ ya < 256 ∧ ua < 256))
    (cx : ∀ W, Below w0.heap.size w0 W → W.cell? ⟨gE, i, none⟩ = some (.int .u8 (xa : Nat)))
    (cy : ∀ W, Below w0.heap.size w0 W → W.cell? ⟨gE, k, none⟩ = some (.int .u8 (ya : Nat)))
    (cu : ∀ W, Below w0.heap.size w0 W → W.cell? ⟨gE, r, none⟩ = some (.int .u8 (ua : Nat)))
    (hr : Hid ((i + k) % 22 = r)) (hN0 : w0.heap.size = N0)
    (x : Act) (w : World) (hB : Below w0.heap.size w0 w) (hdef : x.defers = df) (u1 : x.tmps.getD 1 undef = .slice (some ⟨gE, 0, none⟩) 22 22) (u2 : x.tmps.getD 2 undef = .int .i64 (i : Nat)) (u3 : x.tmps.getD 3 undef = .int .i64 (k : Nat))
    : wpOpIn Fc nC Tryd.prog sen9_ops Q 5 (fun a' w' => ∃ v, a' = x.put (some 34) v ∧ (v = .int .i64 (i : Nat)) ∧ Below w.heap.size w w') x w := by
  have ho : sen9_ops[5]? = some sen9_o5 := rfl
  simp only [Array.getD_eq_getD_getElem?] at u1 u2 u3
  refine wpOpIn_plain ho rfl (oper_inK hF.fn (fun K hK => ?_))
  clear ho
  rw [Oper.semAt_plain Fc _ _ (by intro c h; cases h)]
  simp only [sen9_o5]
  go_simp
  exact hK _ _ ⟨_, act_putD x hdef _ _, rfl, Below.refl _ _⟩
set_option maxRecDepth 100000 in
set_option maxHeartbeats 2000000 in
theorem sen9_s6 {Fc : Fence} (hF : Wide Fc) {nC : Nat} (gE i k r xa ya ua : Nat) (N0 : Nat) (Q : Exit → Act → World → Prop) (df : List Deferred) (w0 : World)
    (hh : Hid (i < 22 ∧ k < 22 ∧ r < 22 ∧ xa < 256 ∧ ya < 256 ∧ ua < 256))
    (cx : ∀ W, Below w0.heap.size w0 W → W.cell? ⟨gE, i, none⟩ = some (.int .u8 (xa : Nat)))
    (cy : ∀ W, Below w0.heap.size w0 W → W.cell? ⟨gE, k, none⟩ = some (.int .u8 (ya : Nat)))
    (cu : ∀ W, Below w0.heap.size w0 W → W.cell? ⟨gE, r, none⟩ = some (.int .u8 (ua : Nat)))
    (hr : Hid ((i + k) % 22 = r)) (hN0 : w0.heap.size = N0)
    (x : Act) (w : World) (hB : Below w0.heap.size w0 w) (hdef : x.defers = df) (u1 : x.tmps.getD 1 undef = .slice (some ⟨gE, 0, none⟩) 22 22) (u2 : x.tmps.getD 2 undef = .int .i64 (i : Nat)) (u3 : x.tmps.getD 3 undef = .int .i64 (k : Nat))
    : wpOpIn Fc nC Tryd.prog sen9_ops Q 6 (fun a' w' => ∃ v, a' = x.put (some 35) v ∧ (v = .int .i64 (k : Nat)) ∧ Below w.heap.size w w') x w := by
  have ho : sen9_ops[6]? = some sen9_o6 := rfl
  simp only [Array.getD_eq_getD_getElem?] at u1 u2 u3
  refine wpOpIn_plain ho rfl (oper_inK hF.fn (fun K hK => ?_))
  clear ho
  rw [Oper.semAt_plain Fc _ _ (by intro c h; cases h)]
  simp only [sen9_o6]
  go_simp
  exact hK _ _ ⟨_, act_putD x hdef _ _, rfl, Below.refl _ _⟩
set_option maxRecDepth 100000 in
set_option maxHeartbeats 2000000 in
theorem sen9_s7 {Fc : Fence} (hF : Wide Fc) {nC : Nat} (gE i k r xa ya ua : Nat) (N0 : Nat) (Q : Exit → Act → World → Prop) (df : List Deferred) (w0 : World)
    (hh : Hid (i < 22 ∧ k < 22 ∧ r < 22 ∧ xa < 256 ∧ ya < 256 ∧ ua < 256))
    (cx : ∀ W, Below w0.heap.size w0 W → W.cell? ⟨gE, i, none⟩ = some (.int .u8 (xa : Nat)))
    (cy : ∀ W, Below w0.heap.size w0 W → W.cell? ⟨gE, k, none⟩ = some (.int .u8 (ya : Nat)))
    (cu : ∀ W, Below w0.heap.size w0 W → W.cell? ⟨gE, r, none⟩ = some (.int .u8 (ua : Nat)))
    (hr : Hid ((i + k) % 22 = r)) (hN0 : w0.heap.size = N0)
    (x : Act) (w : World) (hB : Below w0.heap.size w0 w) (hdef : x.defers = df) (u1 : x.tmps.getD 1 undef = .slice (some ⟨gE, 0, none⟩) 22 22) (u2 : x.tmps.getD 2 undef = .int .i64 (i : Nat)) (u3 : x.tmps.getD 3 undef = .int .i64 (k : Nat))
    (p5 : sen9_val gE i k r xa ya ua N0 5 (x.tmps.getD 34 undef) w)
    (p6 : sen9_val gE i k r xa ya ua N0 6 (x.tmps.getD 35 undef) w)
    : wpOpIn Fc nC Tryd.prog sen9_ops Q 7 (fun a' w' => ∃ v, a' = x.put (some 36) v ∧ (v = .int .i64 ((i : Int) + (k : Int))) ∧ Below w.heap.size w w') x w := by
  have ho : sen9_ops[7]? = some sen9_o7 := rfl
  simp only [Array.getD_eq_getD_getElem?] at u1 u2 u3
  have q5 : x.tmps.getD 34 undef = .int .i64 (i : Nat) := p5
  have q6 : x.tmps.getD 35 undef = .int .i64 (k : Nat) := p6
  simp only [Array.getD_eq_getD_getElem?] at q5 q6
  have m := IntWalk.i64_in ((i : Int) + (k : Int)) (by have := hh.out; omega)
  refine wpOpIn_plain ho rfl (oper_inK hF.fn (fun K hK => ?_))
  clear ho
  rw [Oper.semAt_plain Fc _ _ (by intro c h; cases h)]
  simp only [sen9_o7]
  go_simp
  exact hK _ _ ⟨_, act_putD x hdef _ _, rfl, Below.refl _ _⟩
set_option maxRecDepth 100000 in
set_option maxHeartbeats 2000000 in
theorem sen9_s8 {Fc : Fence} (hF : Wide Fc) {nC : Nat} (gE i k r xa ya ua : Nat) (N0 : Nat) (Q : Exit → Act → World → Prop) (df : List Deferred) (w0 : World)
    (hh : Hid (i < 22 ∧ k < 22 ∧ r < 22 ∧ xa < 256 ∧ ya < 256 ∧ ua < 256))
    (cx : ∀ W, Below w0.heap.size w0 W → W.cell? ⟨gE, i, none⟩ = some (.int .u8 (xa : Nat)))
    (cy : ∀ W, Below w0.heap.size w0 W → W.cell? ⟨gE, k, none⟩ = some (.int .u8 (ya : Nat)))
    (cu : ∀ W, Below w0.heap.size w0 W → W.cell? ⟨gE, r, none⟩ = some (.int .u8 (ua : Nat)))
    (hr : Hid ((i + k) % 22 = r)) (hN0 : w0.heap.size = N0)
    (x : Act) (w : World) (hB : Below w0.heap.size w0 w) (hdef : x.defers = df) (u1 : x.tmps.getD 1 undef = .slice (some ⟨gE, 0, none⟩) 22 22) (u2 : x.tmps.getD 2 undef = .int .i64 (i : Nat)) (u3 : x.tmps.getD 3 undef = .int .i64 (k : Nat))
    : wpOpIn Fc nC Tryd.prog sen9_ops Q 8 (fun a' w' => ∃ v, a' = x.put (some 37) v ∧ (v = .slice (some ⟨gE, 0, none⟩) 22 22) ∧ Below w.heap.size w w') x w := by
  have ho : sen9_ops[8]? = some sen9_o8 := rfl
  simp only [Array.getD_eq_getD_getElem?] at u1 u2 u3
  refine wpOpIn_plain ho rfl (oper_inK hF.fn (fun K hK => ?_))
  clear ho
  rw [Oper.semAt_plain Fc _ _ (by intro c h; cases h)]
  simp only [sen9_o8]
  go_simp
  exact hK _ _ ⟨_, act_putD x hdef _ _, rfl, Below.refl _ _⟩
set_option maxRecDepth 100000 in
set_option maxHeartbeats 2000000 in
theorem sen9_s9 {Fc : Fence} (hF : Wide Fc) {nC : Nat} (gE i k r xa ya ua : Nat) (N0 : Nat) (Q : Exit → Act → World → Prop) (df : List Deferred) (w0 : World)
    (hh : Hid (i < 22 ∧ k < 22 ∧ r < 22 ∧ xa < 256 ∧ ya < 256 ∧ ua < 256))
    (cx : ∀ W, Below w0.heap.size w0 W → W.cell? ⟨gE, i, none⟩ = some (.int .u8 (xa : Nat)))
    (cy : ∀ W, Below w0.heap.size w0 W → W.cell? ⟨gE, k, none⟩ = some (.int .u8 (ya : Nat)))
    (cu : ∀ W, Below w0.heap.size w0 W → W.cell? ⟨gE, r, none⟩ = some (.int .u8 (ua : Nat)))
    (hr : Hid ((i + k) % 22 = r)) (hN0 : w0.heap.size = N0)
    (x : Act) (w : World) (hB : Below w0.heap.size w0 w) (hdef : x.defers = df) (u1 : x.tmps.getD 1 undef = .slice (some ⟨gE, 0, none⟩) 22 22) (u2 : x.tmps.getD 2 undef = .int .i64 (i : Nat)) (u3 : x.tmps.getD 3 undef = .int .i64 (k : Nat))
    (p8 : sen9_val gE i k r xa ya ua N0 8 (x.tmps.getD 37 undef) w)
    : wpOpIn Fc nC Tryd.prog sen9_ops Q 9 (fun a' w' => ∃ v, a' = x.put (some 38) v ∧ (v = .int .i64 (22 : Nat)) ∧ Below w.heap.size w w') x w := by
  have ho : sen9_ops[9]? = some sen9_o9 := rfl
  simp only [Array.getD_eq_getD_getElem?] at u1 u2 u3
  have q8 : x.tmps.getD 37 undef = .slice (some ⟨gE, 0, none⟩) 22 22 := p8
  simp only [Array.getD_eq_getD_getElem?] at q8
  refine wpOpIn_plain ho rfl (oper_inK hF.fn (fun K hK => ?_))
  clear ho
  rw [Oper.semAt_plain Fc _ _ (by intro c h; cases h)]
  simp only [sen9_o9]
  go_simp
  exact hK _ _ ⟨_, act_putD x hdef _ _, rfl, Below.refl _ _⟩
set_option maxRecDepth 100000 in
set_option maxHeartbeats 2000000 in
theorem sen9_s10 {Fc : Fence} (hF : Wide Fc) {nC : Nat} (gE i k r xa ya ua : Nat) (N0 : Nat) (Q : Exit → Act → World → Prop) (df : List Deferred) (w0 : World)
    (hh : Hid (i < 22 ∧ k < 22 ∧ r < 22 ∧ xa < 256 ∧ ya < 256 ∧ ua < 256))
    (cx : ∀ W, Below w0.heap.size w0 W → W.cell? ⟨gE, i, none⟩ = some (.int .u8 (xa : Nat)))
    (cy : ∀ W, Below w0.heap.size w0 W → W.cell? ⟨gE, k, none⟩ = some (.int .u8 (ya : Nat)))
    (cu : ∀ W, Below w0.heap.size w0 W → W.cell? ⟨gE, r, none⟩ = some (.int .u8 (ua : Nat)))
    (hr : Hid ((i + k) % 22 = r)) (hN0 : w0.heap.size = N0)
    (x : Act) (w : World) (hB : Below w0.heap.size w0 w) (hdef : x.defers = df) (u1 : x.tmps.getD 1 undef = .slice (some ⟨gE, 0, none⟩) 22 22) (u2 : x.tmps.getD 2 undef = .int .i64 (i : Nat)) (u3 : x.tmps.getD 3 undef = .int .i64 (k : Nat))
    (p7 : sen9_val gE i k r xa ya ua N0 7 (x.tmps.getD 36 undef) w)
    (p9 : sen9_val gE i k r xa ya ua N0 9 (x.tmps.getD 38 undef) w)
    : wpOpIn Fc nC Tryd.prog sen9_ops Q 10 (fun a' w' => ∃ v, a' = x.put (some 39) v ∧ (v = .int .i64 (r : Nat)) ∧ Below w.heap.size w w') x w := by
  have ho : sen9_ops[10]? = some sen9_o10 := rfl
  simp only [Array.getD_eq_getD_getElem?] at u1 u2 u3
  have q7 : x.tmps.getD 36 undef = .int .i64 ((i : Int) + (k : Int)) := p7
  have q9 : x.tmps.getD 38 undef = .int .i64 (22 : Nat) := p9
  simp only [Array.getD_eq_getD_getElem?] at q7 q9
  have m : Int.tmod ((i : Int) + (k : Int)) 22 = (r : Nat) := by rw [Int.tmod_eq_emod_of_nonneg (by omega)]; have := hr.out; omega
  have m2 := IntWalk.i64_in (r : Int) (by have := hh.out; omega)
  refine wpOpIn_plain ho rfl (oper_inK hF.fn (fun K hK => ?_))
  clear ho
  rw [Oper.semAt_plain Fc _ _ (by intro c h; cases h)]
  simp only [sen9_o10]
  go_simp
  exact hK _ _ ⟨_, act_putD x hdef _ _, rfl, Below.refl _ _⟩
set_option maxRecDepth 100000 in
set_option maxHeartbeats 2000000 in
theorem sen9_s11 {Fc : Fence} (hF : Wide Fc) {nC : Nat} (gE i k r xa ya ua : Nat) (N0 : Nat) (Q : Exit → Act → World → Prop) (df : List Deferred) (w0 : World)
    (hh : Hid (i < 22 ∧ k < 22 ∧ r < 22 ∧ xa < 256 ∧ ya < 256 ∧ ua < 256))
    (cx : ∀ W, Below w0.heap.size w0 W → W.cell? ⟨gE, i, none⟩ = some (.int .u8 (xa : Nat)))
    (cy : ∀ W, Below w0.heap.size w0 W → W.cell? ⟨gE, k, none⟩ = some (.int .u8 (ya : Nat)))
    (cu : ∀ W, Below w0.heap.size w0 W → W.cell? ⟨gE, r, none⟩ = some (.int .u8 (ua : Nat)))
    (hr : Hid ((i + k) % 22 = r)) (hN0 : w0.heap.size = N0)
    (x : Act) (w : World) (hB : Below w0.heap.size w0 w) (hdef : x.defers = df) (u1 : x.tmps.getD 1 undef = .slice (some ⟨gE, 0, none⟩) 22 22) (u2 : x.tmps.getD 2 undef = .int .i64 (i : Nat)) (u3 : x.tmps.getD 3 undef = .int .i64 (k : Nat))
    (p4 : sen9_val gE i k r xa ya ua N0 4 (x.tmps.getD 33 undef) w)
    (p10 : sen9_val gE i k r xa ya ua N0 10 (x.tmps.getD 39 undef) w)
    : wpOpIn Fc nC Tryd.prog sen9_ops Q 11 (fun a' w' => ∃ v, a' = x.put (some 40) v ∧ (v = .pointer (some ⟨gE, r, none⟩)) ∧ Below w.heap.size w w') x w := by
  have ho : sen9_ops[11]? = some sen9_o11 := rfl
  simp only [Array.getD_eq_getD_getElem?] at u1 u2 u3
  have q4 : x.tmps.getD 33 undef = .slice (some ⟨gE, 0, none⟩) 22 22 := p4
  have q10 : x.tmps.getD 39 undef = .int .i64 (r : Nat) := p10
  simp only [Array.getD_eq_getD_getElem?] at q4 q10
  have i0 : (0 : Int) ≤ (r : Int) := by omega
  have i1 : (r : Int) < 22 := by have := hh.out; omega
  refine wpOpIn_plain ho rfl (oper_inK hF.fn (fun K hK => ?_))
  clear ho
  rw [Oper.semAt_plain Fc _ _ (by intro c h; cases h)]
  simp only [sen9_o11]
  go_simp
  exact hK _ _ ⟨_, act_putD x hdef _ _, rfl, Below.refl _ _⟩
set_option maxRecDepth 100000 in
set_option maxHeartbeats 2000000 in
theorem sen9_s12 {Fc : Fence} (hF : Wide Fc) {nC : Nat} (gE i k r xa ya ua : Nat) (N0 : Nat) (Q : Exit → Act → World → Prop) (df : List Deferred) (w0 : World)
    (hh : Hid (i < 22 ∧ k < 22 ∧ r < 22 ∧ xa < 256 ∧ ya < 256 ∧ ua < 256))
    (cx : ∀ W, Below w0.heap.size w0 W → W.cell? ⟨gE, i, none⟩ = some (.int .u8 (xa : Nat)))
    (cy : ∀ W, Below w0.heap.size w0 W → W.cell? ⟨gE, k, none⟩ = some (.int .u8 (ya : Nat)))
    (cu : ∀ W, Below w0.heap.size w0 W → W.cell? ⟨gE, r, none⟩ = some (.int .u8 (ua : Nat)))
    (hr : Hid ((i + k) % 22 = r)) (hN0 : w0.heap.size = N0)
    (x : Act) (w : World) (hB : Below w0.heap.size w0 w) (hdef : x.defers = df) (u1 : x.tmps.getD 1 undef = .slice (some ⟨gE, 0, none⟩) 22 22) (u2 : x.tmps.getD 2 undef = .int .i64 (i : Nat)) (u3 : x.tmps.getD 3 undef = .int .i64 (k : Nat))
    (p11 : sen9_val gE i k r xa ya ua N0 11 (x.tmps.getD 40 undef) w)
    : wpOpIn Fc nC Tryd.prog sen9_ops Q 12 (fun a' w' => ∃ v, a' = x.put (some 41) v ∧ (v = .int .u8 (ua : Nat)) ∧ Below w.heap.size w w') x w := by
  have ho : sen9_ops[12]? = some sen9_o12 := rfl
  simp only [Array.getD_eq_getD_getElem?] at u1 u2 u3
  have q11 : x.tmps.getD 40 undef = .pointer (some ⟨gE, r, none⟩) := p11
  simp only [Array.getD_eq_getD_getElem?] at q11
  have m := cu w hB
  refine wpOpIn_plain ho rfl (oper_inK hF.fn (fun K hK => ?_))
  clear ho
  rw [Oper.semAt_plain Fc _ _ (by intro c h; cases h)]
  simp only [sen9_o12]
  go_simp
  exact hK _ _ ⟨_, act_putD x hdef _ _, rfl, Below.refl _ _⟩
set_option maxRecDepth 100000 in
set_option maxHeartbeats 2000000 in
theorem sen9_s13 {Fc : Fence} (hF : Wide Fc) {nC : Nat} (gE i k r xa ya ua : Nat) (N0 : Nat) (Q : Exit → Act → World → Prop) (df : List Deferred) (w0 : World)
    (hh : Hid (i < 22 ∧ k < 22 ∧ r < 22 ∧ xa < 256 ∧ ya < 256 ∧ ua < 256))
    (cx : ∀ W, Below w0.heap.size w0 W → W.cell? ⟨gE, i, none⟩ = some (.int .u8 (xa : Nat)))
    (cy : ∀ W, Below w0.heap.size w0 W → W.cell? ⟨gE, k, none⟩ = some (.int .u8 (ya : Nat)))
    (cu : ∀ W, Below w0.heap.size w0 W → W.cell? ⟨gE, r, none⟩ = some (.int .u8 (ua : Nat)))
    (hr : Hid ((i + k) % 22 = r)) (hN0 : w0.heap.size = N0)
    (x : Act) (w : World) (hB : Below w0.heap.size w0 w) (hdef : x.defers = df) (u1 : x.tmps.getD 1 undef = .slice (some ⟨gE, 0, none⟩) 22 22) (u2 : x.tmps.getD 2 undef = .int .i64 (i : Nat)) (u3 : x.tmps.getD 3 undef = .int .i64 (k : Nat))
    (p3 : sen9_val gE i k r xa ya ua N0 3 (x.tmps.getD 32 undef) w)
    (p12 : sen9_val gE i k r xa ya ua N0 12 (x.tmps.getD 41 undef) w)
    : wpOpIn Fc nC Tryd.prog sen9_ops Q 13 (fun a' w' => ∃ v, a' = x.put (some 42) v ∧ (v = sv (rng ya ua)) ∧ Below w.heap.size w w') x w := by
  have ho : sen9_ops[13]? = some sen9_o13 := rfl
  simp only [Array.getD_eq_getD_getElem?] at u1 u2 u3
  have q3 : x.tmps.getD 32 undef = .int .u8 (ya : Nat) := p3
  have q12 : x.tmps.getD 41 undef = .int .u8 (ua : Nat) := p12
  simp only [Array.getD_eq_getD_getElem?] at q3 q12
  refine wpOpIn_plain ho rfl (oper_inK hF.fn (fun K hK => ?_))
  clear ho
  rw [Oper.semAt_plain Fc _ _ (by intro c h; cases h)]
  simp only [sen9_o13]
  go_simp
  refine ⟨hF.deep, (hF.call (range_any ya ua w hh.out.2.2.2.2.1 hh.out.2.2.2.2.2)).mono ?_⟩
  rintro e w' ⟨rfl, hb⟩
  exact hK _ _ ⟨_, act_putD x hdef _ _, rfl, hb⟩
set_option maxRecDepth 100000 in
set_option maxHeartbeats 2000000 in
theorem sen9_s14 {Fc : Fence} (hF : Wide Fc) {nC : Nat} (gE i k r xa ya ua : Nat) (N0 : Nat) (Q : Exit → Act → World → Prop) (df : List Deferred) (w0 : World)
    (hh : Hid (i < 22 ∧ k < 22 ∧ r < 22 ∧ xa < 256 ∧ ya < 256 ∧ ua < 256))
    (cx : ∀ W, Below w0.heap.size w0 W → W.cell? ⟨gE, i, none⟩ = some (.int .u8 (xa : Nat)))
    (cy : ∀ W, Below w0.heap.size w0 W → W.cell? ⟨gE, k, none⟩ = some (.int .u8 (ya : Nat)))
    (cu : ∀ W, Below w0.heap.size w0 W → W.cell? ⟨gE, r, none⟩ = some (.int .u8 (ua : Nat)))
    (hr : Hid ((i + k) % 22 = r)) (hN0 : w0.heap.size = N0)
    (x : Act) (w : World) (hB : Below w0.heap.size w0 w) (hdef : x.defers = df) (u1 : x.tmps.getD 1 undef = .slice (some ⟨gE, 0, none⟩) 22 22) (u2 : x.tmps.getD 2 undef = .int .i64 (i : Nat)) (u3 : x.tmps.getD 3 undef = .int .i64 (k : Nat))
    : wpOpIn Fc nC Tryd.prog sen9_ops Q 14 (fun a' w' => ∃ v, a' = x.put (some 5) v ∧ (∃ g, v = .pointer (some ⟨g, 0, none⟩) ∧ SBox w' g nobs ∧ N0 ≤ g) ∧ Below w.heap.size w w') x w := by
  have ho : sen9_ops[14]? = some sen9_o14 := rfl
  simp only [Array.getD_eq_getD_getElem?] at u1 u2 u3
  refine wpOpIn_plain ho rfl (oper_inK hF.fn (fun K hK => ?_))
  clear ho
  rw [Oper.semAt_plain Fc _ _ (by intro c h; cases h)]
  simp only [sen9_o14]
  go_simp
  exact hK _ _ ⟨_, act_putD x hdef _ _, ⟨_, rfl, SBox.new w w.heap.size nobs rfl, hN0 ▸ hB.size⟩, below_alloc _ _⟩

set_option maxRecDepth 100000 in
set_option maxHeartbeats 4000000 in
theorem sen9 {Fc : Fence} (hF : Wide Fc) {nC : Nat} (gE i k r xa ya ua : Nat) (N0 : Nat) (Q : Exit → Act → World → Prop) (t0 : Array Value) (df : List Deferred) (w0 : World) (ht : t0.size = 126)
    (hs1 : t0.getD 1 undef = .slice (some ⟨gE, 0, none⟩) 22 22) (hs2 : t0.getD 2 undef = .int .i64 (i : Nat)) (hs3 : t0.getD 3 undef = .int .i64 (k : Nat))
    (hh : Hid (i < 22 ∧ k < 22 ∧ r < 22 ∧ xa < 256 ∧ ya < 256 ∧ ua < 256))
    (cx : ∀ W, Below w0.heap.size w0 W → W.cell? ⟨gE, i, none⟩ = some (.int .u8 (xa : Nat)))
    (cy : ∀ W, Below w0.heap.size w0 W → W.cell? ⟨gE, k, none⟩ = some (.int .u8 (ya : Nat)))
    (cu : ∀ W, Below w0.heap.size w0 W → W.cell? ⟨gE, r, none⟩ = some (.int .u8 (ua : Nat)))
    (hr : Hid ((i + k) % 22 = r)) (hN0 : w0.heap.size = N0)
    (hQ : ∀ (vs : Nat → Value) (w : World), Below w0.heap.size w0 w → (vs 42 = sv (rng ya ua)) → (∃ g, (vs 5) = .pointer (some ⟨g, 0, none⟩) ∧ SBox w g nobs ∧ N0 ≤ g) → wpOpIn Fc nC Tryd.prog sen9_ops Q 15 (Q .normal) { tmps := [29, 30, 31, 32, 33, 34, 35, 36, 37, 38, 39, 40, 41, 42, 5].foldl (fun y d => y.setIfInBounds d (vs d)) t0, defers := df } w) :
    (Code.region 9 sen9_ops true).wpIn Fc nC Tryd.prog Q { tmps := t0, defers := df } w0 := by
  refine wpIn_region_tail 15 (by decide) (by kernel_rfl) (fun a b => Below a.heap.size a b) (sen9_val gE i k r xa ya ua N0) t0 df w0 (by rw [ht]; kernel_rfl) (by kernel_rfl) (by kernel_rfl) (by kernel_rfl) ((Below.refl _ _).drew) (fun _ _ _ h k => h.trans (k.mono h.size)) (sen9_below gE i k r xa ya ua N0) ?_ ?_
  · intro j o ho hj x w hB hdef hsz hs hdeps
    have hs' : ∀ s, ¬ sen9_mem s → x.tmps.getD s undef = t0.getD s undef := fun s hn => hs s (fun j hj e => hn (by rw [e]; exact sen9_slots j hj))
    have u1 := (hs' 1 (by decide)).trans hs1
    have u2 := (hs' 2 (by decide)).trans hs2
    have u3 := (hs' 3 (by decide)).trans hs3
    match j, ho, hj with
    | 0, ho, _ =>
      have e : o = sen9_o0 := (Option.some.inj ho).symm
      subst e
      exact sen9_s0 hF gE i k r xa ya ua N0 Q df w0 hh cx cy cu hr hN0 x w hB hdef u1 u2 u3 
    | 1, ho, _ =>
      have e : o = sen9_o1 := (Option.some.inj ho).symm
      subst e
      exact sen9_s1 hF gE i k r xa ya ua N0 Q df w0 hh cx cy cu hr hN0 x w hB hdef u1 u2 u3 
    | 2, ho, _ =>
      have e : o = sen9_o2 := (Option.some.inj ho).symm
      subst e
      exact sen9_s2 hF gE i k r xa ya ua N0 Q df w0 hh cx cy cu hr hN0 x w hB hdef u1 u2 u3 (hdeps { on := 0, ground := Ground.data } (by simp) rfl) (hdeps { on := 1, ground := Ground.data } (by simp) rfl)
    | 3, ho, _ =>
      have e : o = sen9_o3 := (Option.some.inj ho).symm
      subst e
      exact sen9_s3 hF gE i k r xa ya ua N0 Q df w0 hh cx cy cu hr hN0 x w hB hdef u1 u2 u3 (hdeps { on := 2, ground := Ground.data } (by simp) rfl)
    | 4, ho, _ =>
      have e : o = sen9_o4 := (Option.some.inj ho).symm
      subst e
      exact sen9_s4 hF gE i k r xa ya ua N0 Q df w0 hh cx cy cu hr hN0 x w hB hdef u1 u2 u3 
    | 5, ho, _ =>
      have e : o = sen9_o5 := (Option.some.inj ho).symm
      subst e
      exact sen9_s5 hF gE i k r xa ya ua N0 Q df w0 hh cx cy cu hr hN0 x w hB hdef u1 u2 u3 
    | 6, ho, _ =>
      have e : o = sen9_o6 := (Option.some.inj ho).symm
      subst e
      exact sen9_s6 hF gE i k r xa ya ua N0 Q df w0 hh cx cy cu hr hN0 x w hB hdef u1 u2 u3 
    | 7, ho, _ =>
      have e : o = sen9_o7 := (Option.some.inj ho).symm
      subst e
      exact sen9_s7 hF gE i k r xa ya ua N0 Q df w0 hh cx cy cu hr hN0 x w hB hdef u1 u2 u3 (hdeps { on := 5, ground := Ground.data } (by simp) rfl) (hdeps { on := 6, ground := Ground.data } (by simp) rfl)
    | 8, ho, _ =>
      have e : o = sen9_o8 := (Option.some.inj ho).symm
      subst e
      exact sen9_s8 hF gE i k r xa ya ua N0 Q df w0 hh cx cy cu hr hN0 x w hB hdef u1 u2 u3 
    | 9, ho, _ =>
      have e : o = sen9_o9 := (Option.some.inj ho).symm
      subst e
      exact sen9_s9 hF gE i k r xa ya ua N0 Q df w0 hh cx cy cu hr hN0 x w hB hdef u1 u2 u3 (hdeps { on := 8, ground := Ground.data } (by simp) rfl)
    | 10, ho, _ =>
      have e : o = sen9_o10 := (Option.some.inj ho).symm
      subst e
      exact sen9_s10 hF gE i k r xa ya ua N0 Q df w0 hh cx cy cu hr hN0 x w hB hdef u1 u2 u3 (hdeps { on := 7, ground := Ground.data } (by simp) rfl) (hdeps { on := 9, ground := Ground.data } (by simp) rfl)
    | 11, ho, _ =>
      have e : o = sen9_o11 := (Option.some.inj ho).symm
      subst e
      exact sen9_s11 hF gE i k r xa ya ua N0 Q df w0 hh cx cy cu hr hN0 x w hB hdef u1 u2 u3 (hdeps { on := 4, ground := Ground.data } (by simp) rfl) (hdeps { on := 10, ground := Ground.data } (by simp) rfl)
    | 12, ho, _ =>
      have e : o = sen9_o12 := (Option.some.inj ho).symm
      subst e
      exact sen9_s12 hF gE i k r xa ya ua N0 Q df w0 hh cx cy cu hr hN0 x w hB hdef u1 u2 u3 (hdeps { on := 11, ground := Ground.data } (by simp) rfl)
    | 13, ho, _ =>
      have e : o = sen9_o13 := (Option.some.inj ho).symm
      subst e
      exact sen9_s13 hF gE i k r xa ya ua N0 Q df w0 hh cx cy cu hr hN0 x w hB hdef u1 u2 u3 (hdeps { on := 3, ground := Ground.data } (by simp) rfl) (hdeps { on := 12, ground := Ground.data } (by simp) rfl)
    | 14, ho, _ =>
      have e : o = sen9_o14 := (Option.some.inj ho).symm
      subst e
      exact sen9_s14 hF gE i k r xa ya ua N0 Q df w0 hh cx cy cu hr hN0 x w hB hdef u1 u2 u3 
    | k + 15, _, hj => omega
  · intro x w hB hdef hsz hs hv
    have hx := frame_sets x.tmps t0 hsz [29, 30, 31, 32, 33, 34, 35, 36, 37, 38, 39, 40, 41, 42, 5] (fun s hn => hs s (fun j hj e => hn (by rw [e]; exact sen9_slots j hj)))
    have hq := hQ (fun d => x.tmps.getD d undef) w hB (hv 13 (by decide)) (hv 14 (by decide))
    obtain ⟨T, Df⟩ := x
    dsimp only at hx hdef hq
    subst hdef
    rw [← hx] at hq
    exact hq
end Go.Proofs.YtmnjicpgdhnimaaDoor
