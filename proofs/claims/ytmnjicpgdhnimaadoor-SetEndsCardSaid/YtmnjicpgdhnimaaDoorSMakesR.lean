/-
  SetMakes's drawn region (written by tools/gen-smakes.py).
-/
import Derived.Test.YtmnjicpgdhnimaaDoorSSetsC
namespace Go.Proofs.YtmnjicpgdhnimaaDoor
open Go.RowKit Go.Shelf
set_option linter.unusedVariables false
set_option linter.unusedSimpArgs false

abbrev smk10_o0 : Oper := { dst := some 60, op := Op.move (Operand.tmp 10), type := 31, pos := "law.go:55", after := #[], guard := none }
abbrev smk10_o1 : Oper := { dst := some 61, op := Op.move (Operand.tmp 11), type := 3, pos := "law.go:55", after := #[], guard := none }
abbrev smk10_o2 : Oper := { dst := some 62, op := Op.indexAddr 31 (Operand.tmp 60) (Operand.tmp 61), type := 0, pos := "law.go:55", after := #[{ on := 0, ground := Ground.data }, { on := 1, ground := Ground.data }], guard := none }
abbrev smk10_o3 : Oper := { dst := some 63, op := Op.load 24 (Operand.tmp 62), type := 24, pos := "law.go:55", after := #[{ on := 2, ground := Ground.data }], guard := none }
abbrev smk10_o4 : Oper := { dst := some 64, op := Op.move (Operand.tmp 3), type := 31, pos := "law.go:55", after := #[], guard := none }
abbrev smk10_o5 : Oper := { dst := some 65, op := Op.move (Operand.tmp 11), type := 3, pos := "law.go:55", after := #[], guard := none }
abbrev smk10_o6 : Oper := { dst := some 66, op := Op.indexAddr 31 (Operand.tmp 64) (Operand.tmp 65), type := 0, pos := "law.go:55", after := #[{ on := 4, ground := Ground.data }, { on := 5, ground := Ground.data }], guard := none }
abbrev smk10_o7 : Oper := { dst := some 67, op := Op.load 24 (Operand.tmp 66), type := 24, pos := "law.go:55", after := #[{ on := 6, ground := Ground.data }], guard := none }
abbrev smk10_o8 : Oper := { dst := some 68, op := Op.binOp BinOp.neq 24 (Operand.tmp 63) (Operand.tmp 67) 24, type := 4, pos := "law.go:55", after := #[{ on := 3, ground := Ground.data }, { on := 7, ground := Ground.data }], guard := none }
def smk10_ops : Array Oper := #[smk10_o0, smk10_o1, smk10_o2, smk10_o3, smk10_o4, smk10_o5, smk10_o6, smk10_o7, smk10_o8]
abbrev smk10_mem (s : Nat) : Prop := s ∈ [60, 61, 62, 63, 64, 65, 66, 67, 68]
set_option maxRecDepth 100000 in
theorem smk10_slots : ∀ j, j < 9 → smk10_mem (slotOf smk10_ops j) := by
  intro j hj
  match j, hj with
  | 0, _ => exact (by decide : smk10_mem 60)
  | 1, _ => exact (by decide : smk10_mem 61)
  | 2, _ => exact (by decide : smk10_mem 62)
  | 3, _ => exact (by decide : smk10_mem 63)
  | 4, _ => exact (by decide : smk10_mem 64)
  | 5, _ => exact (by decide : smk10_mem 65)
  | 6, _ => exact (by decide : smk10_mem 66)
  | 7, _ => exact (by decide : smk10_mem 67)
  | 8, _ => exact (by decide : smk10_mem 68)
  | k + 9, hj => omega
def smk10_val (gA gb off m C c k : Nat) (G : Nat → Bool) : Nat → Value → World → Prop
  | 0, v, w => v = .slice (some ⟨gA, 0, none⟩) m C
  | 1, v, w => v = .int .i64 (k : Nat)
  | 2, v, w => v = .pointer (some ⟨gA, k * 4, none⟩)
  | 3, v, w => v = sv G
  | 4, v, w => v = .slice (some ⟨gb, off, none⟩) m c
  | 5, v, w => v = .int .i64 (k : Nat)
  | 6, v, w => v = .pointer (some ⟨gb, off + k * 4, none⟩)
  | 7, v, w => v = sv G
  | 8, v, w => v = .bool false
  | _, _, _ => True
theorem smk10_below (gA gb off m C c k : Nat) (G : Nat → Bool) (w w' : World) (hb : Below w.heap.size w w') : ∀ j v, smk10_val gA gb off m C c k G j v w → smk10_val gA gb off m C c k G j v w' := by
  intro j v h
  match j, h with
  | 0, h => exact h
  | 1, h => exact h
  | 2, h => exact h
  | 3, h => exact h
  | 4, h => exact h
  | 5, h => exact h
  | 6, h => exact h
  | 7, h => exact h
  | 8, h => exact h
  | _ + 9, h => exact h
set_option maxRecDepth 100000 in
set_option maxHeartbeats 2000000 in
theorem smk10_s0 {Fc : Fence} (hF : Wide Fc) {nC : Nat} (gA gb off m C c k : Nat) (G : Nat → Bool) (Q : Exit → Act → World → Prop) (df : List Deferred) (w0 : World)
    (hk : k < m)
    (h1 : ∀ W, Below w0.heap.size w0 W → ∀ j, j < 4 → W.cell? ⟨gA, k * 4 + j, none⟩ = some (.int .u64 (wd G j : Nat)))
    (h2 : ∀ W, Below w0.heap.size w0 W → ∀ j, j < 4 → W.cell? ⟨gb, off + k * 4 + j, none⟩ = some (.int .u64 (wd G j : Nat)))
    (x : Act) (w : World) (hB : Below w0.heap.size w0 w) (hdef : x.defers = df) (u3 : x.tmps.getD 3 undef = .slice (some ⟨gb, off, none⟩) m c) (u10 : x.tmps.getD 10 undef = .slice (some ⟨gA, 0, none⟩) m C) (u11 : x.tmps.getD 11 undef = .int .i64 (k : Nat))
    : wpOpIn Fc nC Tryd.prog smk10_ops Q 0 (fun a' w' => ∃ v, a' = x.put (some 60) v ∧ (v = .slice (some ⟨gA, 0, none⟩) m C) ∧ Below w.heap.size w w') x w := by
  have ho : smk10_ops[0]? = some smk10_o0 := rfl
  simp only [Array.getD_eq_getD_getElem?] at u3 u10 u11
  refine wpOpIn_plain ho rfl (oper_inK hF.fn (fun K hK => ?_))
  clear ho
  rw [Oper.semAt_plain Fc _ _ (by intro c h; cases h)]
  simp only [smk10_o0]
  go_simp
  exact hK _ _ ⟨_, act_putD x hdef _ _, rfl, Below.refl _ _⟩
set_option maxRecDepth 100000 in
set_option maxHeartbeats 2000000 in
theorem smk10_s1 {Fc : Fence} (hF : Wide Fc) {nC : Nat} (gA gb off m C c k : Nat) (G : Nat → Bool) (Q : Exit → Act → World → Prop) (df : List Deferred) (w0 : World)
    (hk : k < m)
    (h1 : ∀ W, Below w0.heap.size w0 W → ∀ j, j < 4 → W.cell? ⟨gA, k * 4 + j, none⟩ = some (.int .u64 (wd G j : Nat)))
    (h2 : ∀ W, Below w0.heap.size w0 W → ∀ j, j < 4 → W.cell? ⟨gb, off + k * 4 + j, none⟩ = some (.int .u64 (wd G j : Nat)))
    (x : Act) (w : World) (hB : Below w0.heap.size w0 w) (hdef : x.defers = df) (u3 : x.tmps.getD 3 undef = .slice (some ⟨gb, off, none⟩) m c) (u10 : x.tmps.getD 10 undef = .slice (some ⟨gA, 0, none⟩) m C) (u11 : x.tmps.getD 11 undef = .int .i64 (k : Nat))
    : wpOpIn Fc nC Tryd.prog smk10_ops Q 1 (fun a' w' => ∃ v, a' = x.put (some 61) v ∧ (v = .int .i64 (k : Nat)) ∧ Below w.heap.size w w') x w := by
  have ho : smk10_ops[1]? = some smk10_o1 := rfl
  simp only [Array.getD_eq_getD_getElem?] at u3 u10 u11
  refine wpOpIn_plain ho rfl (oper_inK hF.fn (fun K hK => ?_))
  clear ho
  rw [Oper.semAt_plain Fc _ _ (by intro c h; cases h)]
  simp only [smk10_o1]
  go_simp
  exact hK _ _ ⟨_, act_putD x hdef _ _, rfl, Below.refl _ _⟩
set_option maxRecDepth 100000 in
set_option maxHeartbeats 2000000 in
theorem smk10_s2 {Fc : Fence} (hF : Wide Fc) {nC : Nat} (gA gb off m C c k : Nat) (G : Nat → Bool) (Q : Exit → Act → World → Prop) (df : List Deferred) (w0 : World)
    (hk : k < m)
    (h1 : ∀ W, Below w0.heap.size w0 W → ∀ j, j < 4 → W.cell? ⟨gA, k * 4 + j, none⟩ = some (.int .u64 (wd G j : Nat)))
    (h2 : ∀ W, Below w0.heap.size w0 W → ∀ j, j < 4 → W.cell? ⟨gb, off + k * 4 + j, none⟩ = some (.int .u64 (wd G j : Nat)))
    (x : Act) (w : World) (hB : Below w0.heap.size w0 w) (hdef : x.defers = df) (u3 : x.tmps.getD 3 undef = .slice (some ⟨gb, off, none⟩) m c) (u10 : x.tmps.getD 10 undef = .slice (some ⟨gA, 0, none⟩) m C) (u11 : x.tmps.getD 11 undef = .int .i64 (k : Nat))
    (p0 : smk10_val gA gb off m C c k G 0 (x.tmps.getD 60 undef) w)
    (p1 : smk10_val gA gb off m C c k G 1 (x.tmps.getD 61 undef) w)
    : wpOpIn Fc nC Tryd.prog smk10_ops Q 2 (fun a' w' => ∃ v, a' = x.put (some 62) v ∧ (v = .pointer (some ⟨gA, k * 4, none⟩)) ∧ Below w.heap.size w w') x w := by
  have ho : smk10_ops[2]? = some smk10_o2 := rfl
  simp only [Array.getD_eq_getD_getElem?] at u3 u10 u11
  have q0 : x.tmps.getD 60 undef = .slice (some ⟨gA, 0, none⟩) m C := p0
  have q1 : x.tmps.getD 61 undef = .int .i64 (k : Nat) := p1
  simp only [Array.getD_eq_getD_getElem?] at q0 q1
  have i0 : (0 : Int) ≤ (k : Int) := by omega
  have i1 : (k : Int) < (m : Int) := by omega
  refine wpOpIn_plain ho rfl (oper_inK hF.fn (fun K hK => ?_))
  clear ho
  rw [Oper.semAt_plain Fc _ _ (by intro c h; cases h)]
  simp only [smk10_o2]
  go_simp
  exact hK _ _ ⟨_, act_putD x hdef _ _, rfl, Below.refl _ _⟩
set_option maxRecDepth 100000 in
set_option maxHeartbeats 2000000 in
theorem smk10_s3 {Fc : Fence} (hF : Wide Fc) {nC : Nat} (gA gb off m C c k : Nat) (G : Nat → Bool) (Q : Exit → Act → World → Prop) (df : List Deferred) (w0 : World)
    (hk : k < m)
    (h1 : ∀ W, Below w0.heap.size w0 W → ∀ j, j < 4 → W.cell? ⟨gA, k * 4 + j, none⟩ = some (.int .u64 (wd G j : Nat)))
    (h2 : ∀ W, Below w0.heap.size w0 W → ∀ j, j < 4 → W.cell? ⟨gb, off + k * 4 + j, none⟩ = some (.int .u64 (wd G j : Nat)))
    (x : Act) (w : World) (hB : Below w0.heap.size w0 w) (hdef : x.defers = df) (u3 : x.tmps.getD 3 undef = .slice (some ⟨gb, off, none⟩) m c) (u10 : x.tmps.getD 10 undef = .slice (some ⟨gA, 0, none⟩) m C) (u11 : x.tmps.getD 11 undef = .int .i64 (k : Nat))
    (p2 : smk10_val gA gb off m C c k G 2 (x.tmps.getD 62 undef) w)
    : wpOpIn Fc nC Tryd.prog smk10_ops Q 3 (fun a' w' => ∃ v, a' = x.put (some 63) v ∧ (v = sv G) ∧ Below w.heap.size w w') x w := by
  have ho : smk10_ops[3]? = some smk10_o3 := rfl
  simp only [Array.getD_eq_getD_getElem?] at u3 u10 u11
  have q2 : x.tmps.getD 62 undef = .pointer (some ⟨gA, k * 4, none⟩) := p2
  simp only [Array.getD_eq_getD_getElem?] at q2
  have c0 := h1 w hB 0 (by omega)
  have c1 := h1 w hB 1 (by omega)
  have c2 := h1 w hB 2 (by omega)
  have c3 := h1 w hB 3 (by omega)
  simp only [Nat.add_zero] at c0
  refine wpOpIn_plain ho rfl (oper_inK hF.fn (fun K hK => ?_))
  clear ho
  rw [Oper.semAt_plain Fc _ _ (by intro c h; cases h)]
  simp only [smk10_o3]
  go_simp
  exact hK _ _ ⟨_, act_putD x hdef _ _, rfl, Below.refl _ _⟩
set_option maxRecDepth 100000 in
set_option maxHeartbeats 2000000 in
theorem smk10_s4 {Fc : Fence} (hF : Wide Fc) {nC : Nat} (gA gb off m C c k : Nat) (G : Nat → Bool) (Q : Exit → Act → World → Prop) (df : List Deferred) (w0 : World)
    (hk : k < m)
    (h1 : ∀ W, Below w0.heap.size w0 W → ∀ j, j < 4 → W.cell? ⟨gA, k * 4 + j, none⟩ = some (.int .u64 (wd G j : Nat)))
    (h2 : ∀ W, Below w0.heap.size w0 W → ∀ j, j < 4 → W.cell? ⟨gb, off + k * 4 + j, none⟩ = some (.int .u64 (wd G j : Nat)))
    (x : Act) (w : World) (hB : Below w0.heap.size w0 w) (hdef : x.defers = df) (u3 : x.tmps.getD 3 undef = .slice (some ⟨gb, off, none⟩) m c) (u10 : x.tmps.getD 10 undef = .slice (some ⟨gA, 0, none⟩) m C) (u11 : x.tmps.getD 11 undef = .int .i64 (k : Nat))
    : wpOpIn Fc nC Tryd.prog smk10_ops Q 4 (fun a' w' => ∃ v, a' = x.put (some 64) v ∧ (v = .slice (some ⟨gb, off, none⟩) m c) ∧ Below w.heap.size w w') x w := by
  have ho : smk10_ops[4]? = some smk10_o4 := rfl
  simp only [Array.getD_eq_getD_getElem?] at u3 u10 u11
  refine wpOpIn_plain ho rfl (oper_inK hF.fn (fun K hK => ?_))
  clear ho
  rw [Oper.semAt_plain Fc _ _ (by intro c h; cases h)]
  simp only [smk10_o4]
  go_simp
  exact hK _ _ ⟨_, act_putD x hdef _ _, rfl, Below.refl _ _⟩
set_option maxRecDepth 100000 in
set_option maxHeartbeats 2000000 in
theorem smk10_s5 {Fc : Fence} (hF : Wide Fc) {nC : Nat} (gA gb off m C c k : Nat) (G : Nat → Bool) (Q : Exit → Act → World → Prop) (df : List Deferred) (w0 : World)
    (hk : k < m)
    (h1 : ∀ W, Below w0.heap.size w0 W → ∀ j, j < 4 → W.cell? ⟨gA, k * 4 + j, none⟩ = some (.int .u64 (wd G j : Nat)))
    (h2 : ∀ W, Below w0.heap.size w0 W → ∀ j, j < 4 → W.cell? ⟨gb, off + k * 4 + j, none⟩ = some (.int .u64 (wd G j : Nat)))
    (x : Act) (w : World) (hB : Below w0.heap.size w0 w) (hdef : x.defers = df) (u3 : x.tmps.getD 3 undef = .slice (some ⟨gb, off, none⟩) m c) (u10 : x.tmps.getD 10 undef = .slice (some ⟨gA, 0, none⟩) m C) (u11 : x.tmps.getD 11 undef = .int .i64 (k : Nat))
    : wpOpIn Fc nC Tryd.prog smk10_ops Q 5 (fun a' w' => ∃ v, a' = x.put (some 65) v ∧ (v = .int .i64 (k : Nat)) ∧ Below w.heap.size w w') x w := by
  have ho : smk10_ops[5]? = some smk10_o5 := rfl
  simp only [Array.getD_eq_getD_getElem?] at u3 u10 u11
  refine wpOpIn_plain ho rfl (oper_inK hF.fn (fun K hK => ?_))
  clear ho
  rw [Oper.semAt_plain Fc _ _ (by intro c h; cases h)]
  simp only [smk10_o5]
  go_simp
  exact hK _ _ ⟨_, act_putD x hdef _ _, rfl, Below.refl _ _⟩
set_option maxRecDepth 100000 in
set_option maxHeartbeats 2000000 in
theorem smk10_s6 {Fc : Fence} (hF : Wide Fc) {nC : Nat} (gA gb off m C c k : Nat) (G : Nat → Bool) (Q : Exit → Act → World → Prop) (df : List Deferred) (w0 : World)
    (hk : k < m)
    (h1 : ∀ W, Below w0.heap.size w0 W → ∀ j, j < 4 → W.cell? ⟨gA, k * 4 + j, none⟩ = some (.int .u64 (wd G j : Nat)))
    (h2 : ∀ W, Below w0.heap.size w0 W → ∀ j, j < 4 → W.cell? ⟨gb, off + k * 4 + j, none⟩ = some (.int .u64 (wd G j : Nat)))
    (x : Act) (w : World) (hB : Below w0.heap.size w0 w) (hdef : x.defers = df) (u3 : x.tmps.getD 3 undef = .slice (some ⟨gb, off, none⟩) m c) (u10 : x.tmps.getD 10 undef = .slice (some ⟨gA, 0, none⟩) m C) (u11 : x.tmps.getD 11 undef = .int .i64 (k : Nat))
    (p4 : smk10_val gA gb off m C c k G 4 (x.tmps.getD 64 undef) w)
    (p5 : smk10_val gA gb off m C c k G 5 (x.tmps.getD 65 undef) w)
    : wpOpIn Fc nC Tryd.prog smk10_ops Q 6 (fun a' w' => ∃ v, a' = x.put (some 66) v ∧ (v = .pointer (some ⟨gb, off + k * 4, none⟩)) ∧ Below w.heap.size w w') x w := by
  have ho : smk10_ops[6]? = some smk10_o6 := rfl
  simp only [Array.getD_eq_getD_getElem?] at u3 u10 u11
  have q4 : x.tmps.getD 64 undef = .slice (some ⟨gb, off, none⟩) m c := p4
  have q5 : x.tmps.getD 65 undef = .int .i64 (k : Nat) := p5
  simp only [Array.getD_eq_getD_getElem?] at q4 q5
  have i0 : (0 : Int) ≤ (k : Int) := by omega
  have i1 : (k : Int) < (m : Int) := by omega
  refine wpOpIn_plain ho rfl (oper_inK hF.fn (fun K hK => ?_))
  clear ho
  rw [Oper.semAt_plain Fc _ _ (by intro c h; cases h)]
  simp only [smk10_o6]
  go_simp
  exact hK _ _ ⟨_, act_putD x hdef _ _, rfl, Below.refl _ _⟩
set_option maxRecDepth 100000 in
set_option maxHeartbeats 2000000 in
theorem smk10_s7 {Fc : Fence} (hF : Wide Fc) {nC : Nat} (gA gb off m C c k : Nat) (G : Nat → Bool) (Q : Exit → Act → World → Prop) (df : List Deferred) (w0 : World)
    (hk : k < m)
    (h1 : ∀ W, Below w0.heap.size w0 W → ∀ j, j < 4 → W.cell? ⟨gA, k * 4 + j, none⟩ = some (.int .u64 (wd G j : Nat)))
    (h2 : ∀ W, Below w0.heap.size w0 W → ∀ j, j < 4 → W.cell? ⟨gb, off + k * 4 + j, none⟩ = some (.int .u64 (wd G j : Nat)))
    (x : Act) (w : World) (hB : Below w0.heap.size w0 w) (hdef : x.defers = df) (u3 : x.tmps.getD 3 undef = .slice (some ⟨gb, off, none⟩) m c) (u10 : x.tmps.getD 10 undef = .slice (some ⟨gA, 0, none⟩) m C) (u11 : x.tmps.getD 11 undef = .int .i64 (k : Nat))
    (p6 : smk10_val gA gb off m C c k G 6 (x.tmps.getD 66 undef) w)
    : wpOpIn Fc nC Tryd.prog smk10_ops Q 7 (fun a' w' => ∃ v, a' = x.put (some 67) v ∧ (v = sv G) ∧ Below w.heap.size w w') x w := by
  have ho : smk10_ops[7]? = some smk10_o7 := rfl
  simp only [Array.getD_eq_getD_getElem?] at u3 u10 u11
  have q6 : x.tmps.getD 66 undef = .pointer (some ⟨gb, off + k * 4, none⟩) := p6
  simp only [Array.getD_eq_getD_getElem?] at q6
  have c0 := h2 w hB 0 (by omega)
  have c1 := h2 w hB 1 (by omega)
  have c2 := h2 w hB 2 (by omega)
  have c3 := h2 w hB 3 (by omega)
  simp only [Nat.add_zero] at c0
  refine wpOpIn_plain ho rfl (oper_inK hF.fn (fun K hK => ?_))
  clear ho
  rw [Oper.semAt_plain Fc _ _ (by intro c h; cases h)]
  simp only [smk10_o7]
  go_simp
  exact hK _ _ ⟨_, act_putD x hdef _ _, rfl, Below.refl _ _⟩
set_option maxRecDepth 100000 in
set_option maxHeartbeats 2000000 in
theorem smk10_s8 {Fc : Fence} (hF : Wide Fc) {nC : Nat} (gA gb off m C c k : Nat) (G : Nat → Bool) (Q : Exit → Act → World → Prop) (df : List Deferred) (w0 : World)
    (hk : k < m)
    (h1 : ∀ W, Below w0.heap.size w0 W → ∀ j, j < 4 → W.cell? ⟨gA, k * 4 + j, none⟩ = some (.int .u64 (wd G j : Nat)))
    (h2 : ∀ W, Below w0.heap.size w0 W → ∀ j, j < 4 → W.cell? ⟨gb, off + k * 4 + j, none⟩ = some (.int .u64 (wd G j : Nat)))
    (x : Act) (w : World) (hB : Below w0.heap.size w0 w) (hdef : x.defers = df) (u3 : x.tmps.getD 3 undef = .slice (some ⟨gb, off, none⟩) m c) (u10 : x.tmps.getD 10 undef = .slice (some ⟨gA, 0, none⟩) m C) (u11 : x.tmps.getD 11 undef = .int .i64 (k : Nat))
    (p3 : smk10_val gA gb off m C c k G 3 (x.tmps.getD 63 undef) w)
    (p7 : smk10_val gA gb off m C c k G 7 (x.tmps.getD 67 undef) w)
    : wpOpIn Fc nC Tryd.prog smk10_ops Q 8 (fun a' w' => ∃ v, a' = x.put (some 68) v ∧ (v = .bool false) ∧ Below w.heap.size w w') x w := by
  have ho : smk10_ops[8]? = some smk10_o8 := rfl
  simp only [Array.getD_eq_getD_getElem?] at u3 u10 u11
  have q3 : x.tmps.getD 63 undef = sv G := p3
  have q7 : x.tmps.getD 67 undef = sv G := p7
  simp only [Array.getD_eq_getD_getElem?] at q3 q7
  simp only [sv, st, sc] at q3 q7
  have he := fun W => eqSt G G W true (by simp)
  simp only [st, sc] at he
  refine wpOpIn_plain ho rfl (oper_inK hF.fn (fun K hK => ?_))
  clear ho
  rw [Oper.semAt_plain Fc _ _ (by intro c h; cases h)]
  simp only [smk10_o8]
  go_simp
  exact hK _ _ ⟨_, act_putD x hdef _ _, rfl, Below.refl _ _⟩

set_option maxRecDepth 100000 in
set_option maxHeartbeats 4000000 in
theorem smk10 {Fc : Fence} (hF : Wide Fc) {nC : Nat} (gA gb off m C c k : Nat) (G : Nat → Bool) (Q : Exit → Act → World → Prop) (t0 : Array Value) (df : List Deferred) (w0 : World) (ht : t0.size = 75)
    (hs3 : t0.getD 3 undef = .slice (some ⟨gb, off, none⟩) m c) (hs10 : t0.getD 10 undef = .slice (some ⟨gA, 0, none⟩) m C) (hs11 : t0.getD 11 undef = .int .i64 (k : Nat))
    (hk : k < m)
    (h1 : ∀ W, Below w0.heap.size w0 W → ∀ j, j < 4 → W.cell? ⟨gA, k * 4 + j, none⟩ = some (.int .u64 (wd G j : Nat)))
    (h2 : ∀ W, Below w0.heap.size w0 W → ∀ j, j < 4 → W.cell? ⟨gb, off + k * 4 + j, none⟩ = some (.int .u64 (wd G j : Nat)))
    (hQ : ∀ (vs : Nat → Value) (w : World), Below w0.heap.size w0 w → (vs 68 = .bool false) → Q .normal { tmps := [60, 61, 62, 63, 64, 65, 66, 67, 68].foldl (fun y d => y.setIfInBounds d (vs d)) t0, defers := df } w) :
    (Code.region 10 smk10_ops true).wpIn Fc nC Tryd.prog Q { tmps := t0, defers := df } w0 := by
  refine wpIn_region_tail 9 (by decide) (by kernel_rfl) (fun a b => Below a.heap.size a b) (smk10_val gA gb off m C c k G) t0 df w0 (by rw [ht]; kernel_rfl) (by kernel_rfl) (by kernel_rfl) (by kernel_rfl) ((Below.refl _ _).drew) (fun _ _ _ h k => h.trans (k.mono h.size)) (smk10_below gA gb off m C c k G) ?_ ?_
  · intro j o ho hj x w hB hdef hsz hs hdeps
    have hs' : ∀ s, ¬ smk10_mem s → x.tmps.getD s undef = t0.getD s undef := fun s hn => hs s (fun j hj e => hn (by rw [e]; exact smk10_slots j hj))
    have u3 := (hs' 3 (by decide)).trans hs3
    have u10 := (hs' 10 (by decide)).trans hs10
    have u11 := (hs' 11 (by decide)).trans hs11
    match j, ho, hj with
    | 0, ho, _ =>
      have e : o = smk10_o0 := (Option.some.inj ho).symm
      subst e
      exact smk10_s0 hF gA gb off m C c k G Q df w0 hk h1 h2 x w hB hdef u3 u10 u11 
    | 1, ho, _ =>
      have e : o = smk10_o1 := (Option.some.inj ho).symm
      subst e
      exact smk10_s1 hF gA gb off m C c k G Q df w0 hk h1 h2 x w hB hdef u3 u10 u11 
    | 2, ho, _ =>
      have e : o = smk10_o2 := (Option.some.inj ho).symm
      subst e
      exact smk10_s2 hF gA gb off m C c k G Q df w0 hk h1 h2 x w hB hdef u3 u10 u11 (hdeps { on := 0, ground := Ground.data } (by simp) rfl) (hdeps { on := 1, ground := Ground.data } (by simp) rfl)
    | 3, ho, _ =>
      have e : o = smk10_o3 := (Option.some.inj ho).symm
      subst e
      exact smk10_s3 hF gA gb off m C c k G Q df w0 hk h1 h2 x w hB hdef u3 u10 u11 (hdeps { on := 2, ground := Ground.data } (by simp) rfl)
    | 4, ho, _ =>
      have e : o = smk10_o4 := (Option.some.inj ho).symm
      subst e
      exact smk10_s4 hF gA gb off m C c k G Q df w0 hk h1 h2 x w hB hdef u3 u10 u11 
    | 5, ho, _ =>
      have e : o = smk10_o5 := (Option.some.inj ho).symm
      subst e
      exact smk10_s5 hF gA gb off m C c k G Q df w0 hk h1 h2 x w hB hdef u3 u10 u11 
    | 6, ho, _ =>
      have e : o = smk10_o6 := (Option.some.inj ho).symm
      subst e
      exact smk10_s6 hF gA gb off m C c k G Q df w0 hk h1 h2 x w hB hdef u3 u10 u11 (hdeps { on := 4, ground := Ground.data } (by simp) rfl) (hdeps { on := 5, ground := Ground.data } (by simp) rfl)
    | 7, ho, _ =>
      have e : o = smk10_o7 := (Option.some.inj ho).symm
      subst e
      exact smk10_s7 hF gA gb off m C c k G Q df w0 hk h1 h2 x w hB hdef u3 u10 u11 (hdeps { on := 6, ground := Ground.data } (by simp) rfl)
    | 8, ho, _ =>
      have e : o = smk10_o8 := (Option.some.inj ho).symm
      subst e
      exact smk10_s8 hF gA gb off m C c k G Q df w0 hk h1 h2 x w hB hdef u3 u10 u11 (hdeps { on := 3, ground := Ground.data } (by simp) rfl) (hdeps { on := 7, ground := Ground.data } (by simp) rfl)
    | k + 9, _, hj => omega
  · intro x w hB hdef hsz hs hv
    have hx := frame_sets x.tmps t0 hsz [60, 61, 62, 63, 64, 65, 66, 67, 68] (fun s hn => hs s (fun j hj e => hn (by rw [e]; exact smk10_slots j hj)))
    have hq := hQ (fun d => x.tmps.getD d undef) w hB (hv 8 (by decide))
    obtain ⟨T, Df⟩ := x
    dsimp only at hx hdef hq
    subst hdef
    rw [← hx] at hq
    exact hq
end Go.Proofs.YtmnjicpgdhnimaaDoor
