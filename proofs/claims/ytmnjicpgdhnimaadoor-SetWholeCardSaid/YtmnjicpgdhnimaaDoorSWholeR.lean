/-
  SetWhole's regions (written by tools/gen-swhole.py).
-/
import Derived.Test.YtmnjicpgdhnimaaDoorSOne
import Derived.Test.YtmnjicpgdhnimaaDoorSWholeM
namespace Go.Proofs.YtmnjicpgdhnimaaDoor
open Go.RowKit Go.Shelf
set_option linter.unusedVariables false
set_option linter.unusedSimpArgs false

abbrev swh9_o0 : Oper := { dst := some 19, op := Op.move (Operand.tmp 3), type := 43, pos := "outright.go:38", after := #[], guard := none }
abbrev swh9_o1 : Oper := { dst := some 20, op := Op.move (Operand.tmp 6), type := 3, pos := "outright.go:38", after := #[], guard := none }
abbrev swh9_o2 : Oper := { dst := some 21, op := Op.indexAddr 43 (Operand.tmp 19) (Operand.tmp 20), type := 0, pos := "outright.go:38", after := #[{ on := 0, ground := Ground.data }, { on := 1, ground := Ground.data }], guard := none }
abbrev swh9_o3 : Oper := { dst := some 22, op := Op.indexAddr 45 (Operand.tmp 21) (Operand.const (Value.int IntKind.i64 0)), type := 0, pos := "outright.go:38", after := #[{ on := 2, ground := Ground.data }], guard := none }
abbrev swh9_o4 : Oper := { dst := some 23, op := Op.load 5 (Operand.tmp 22), type := 5, pos := "outright.go:38", after := #[{ on := 3, ground := Ground.data }], guard := none }
abbrev swh9_o5 : Oper := { dst := some 24, op := Op.convert 5 3 (Operand.tmp 23), type := 3, pos := "outright.go:38", after := #[{ on := 4, ground := Ground.data }], guard := none }
abbrev swh9_o6 : Oper := { dst := some 25, op := Op.move (Operand.tmp 3), type := 43, pos := "outright.go:38", after := #[{ on := 12, ground := Ground.gcOnly Departure.lateStores }], guard := none }
abbrev swh9_o7 : Oper := { dst := some 26, op := Op.move (Operand.tmp 6), type := 3, pos := "outright.go:38", after := #[{ on := 12, ground := Ground.gcOnly Departure.lateStores }], guard := none }
abbrev swh9_o8 : Oper := { dst := some 27, op := Op.indexAddr 43 (Operand.tmp 25) (Operand.tmp 26), type := 0, pos := "outright.go:38", after := #[{ on := 6, ground := Ground.data }, { on := 7, ground := Ground.data }, { on := 12, ground := Ground.gcOnly Departure.lateStores }], guard := none }
abbrev swh9_o9 : Oper := { dst := some 28, op := Op.indexAddr 45 (Operand.tmp 27) (Operand.const (Value.int IntKind.i64 1)), type := 0, pos := "outright.go:38", after := #[{ on := 8, ground := Ground.data }, { on := 12, ground := Ground.gcOnly Departure.lateStores }], guard := none }
abbrev swh9_o10 : Oper := { dst := some 29, op := Op.load 5 (Operand.tmp 28), type := 5, pos := "outright.go:38", after := #[{ on := 9, ground := Ground.data }, { on := 12, ground := Ground.gcOnly Departure.lateStores }], guard := none }
abbrev swh9_o11 : Oper := { dst := some 30, op := Op.convert 5 3 (Operand.tmp 29), type := 3, pos := "outright.go:38", after := #[{ on := 10, ground := Ground.data }, { on := 12, ground := Ground.gcOnly Departure.lateStores }], guard := none }
abbrev swh9_o12 : Oper := { dst := some 7, op := Op.assign (Operand.tmp 24), type := 3, pos := "outright.go:38", after := #[{ on := 5, ground := Ground.data }, { on := 0, ground := Ground.phase }, { on := 1, ground := Ground.phase }, { on := 2, ground := Ground.phase }, { on := 3, ground := Ground.phase }, { on := 4, ground := Ground.phase }, { on := 5, ground := Ground.phase }, { on := 6, ground := Ground.textOnly Departure.lateStores }, { on := 7, ground := Ground.textOnly Departure.lateStores }, { on := 8, ground := Ground.textOnly Departure.lateStores }, { on := 9, ground := Ground.textOnly Departure.lateStores }, { on := 10, ground := Ground.textOnly Departure.lateStores }, { on := 11, ground := Ground.textOnly Departure.lateStores }], guard := none }
abbrev swh9_o13 : Oper := { dst := some 8, op := Op.assign (Operand.tmp 30), type := 3, pos := "outright.go:38", after := #[{ on := 11, ground := Ground.data }, { on := 12, ground := Ground.chain }, { on := 0, ground := Ground.phase }, { on := 1, ground := Ground.phase }, { on := 2, ground := Ground.phase }, { on := 3, ground := Ground.phase }, { on := 4, ground := Ground.phase }, { on := 5, ground := Ground.phase }, { on := 6, ground := Ground.phase }, { on := 7, ground := Ground.phase }, { on := 8, ground := Ground.phase }, { on := 9, ground := Ground.phase }, { on := 10, ground := Ground.phase }, { on := 11, ground := Ground.phase }, { on := 12, ground := Ground.phase }], guard := none }
def swh9_ops : Array Oper := #[swh9_o0, swh9_o1, swh9_o2, swh9_o3, swh9_o4, swh9_o5, swh9_o6, swh9_o7, swh9_o8, swh9_o9, swh9_o10, swh9_o11, swh9_o12, swh9_o13]
abbrev swh9_mem (s : Nat) : Prop := s ∈ [19, 20, 21, 22, 23, 24, 25, 26, 27, 28, 29, 30, 7, 8]
set_option maxRecDepth 100000 in
theorem swh9_slots : ∀ j, j < 14 → swh9_mem (slotOf swh9_ops j) := by
  intro j hj
  match j, hj with
  | 0, _ => exact (by decide : swh9_mem 19)
  | 1, _ => exact (by decide : swh9_mem 20)
  | 2, _ => exact (by decide : swh9_mem 21)
  | 3, _ => exact (by decide : swh9_mem 22)
  | 4, _ => exact (by decide : swh9_mem 23)
  | 5, _ => exact (by decide : swh9_mem 24)
  | 6, _ => exact (by decide : swh9_mem 25)
  | 7, _ => exact (by decide : swh9_mem 26)
  | 8, _ => exact (by decide : swh9_mem 27)
  | 9, _ => exact (by decide : swh9_mem 28)
  | 10, _ => exact (by decide : swh9_mem 29)
  | 11, _ => exact (by decide : swh9_mem 30)
  | 12, _ => exact (by decide : swh9_mem 7)
  | 13, _ => exact (by decide : swh9_mem 8)
  | k + 14, hj => omega
def swh9_val (g n C k lo hi : Nat) : Nat → Value → World → Prop
  | 0, v, w => v = .slice (some ⟨g, 0, none⟩) n C
  | 1, v, w => v = .int .i64 (k : Nat)
  | 2, v, w => v = .pointer (some ⟨g, k * 2, none⟩)
  | 3, v, w => v = .pointer (some ⟨g, k * 2, none⟩)
  | 4, v, w => v = .int .u8 (lo : Nat)
  | 5, v, w => v = .int .i64 (lo : Nat)
  | 6, v, w => v = .slice (some ⟨g, 0, none⟩) n C
  | 7, v, w => v = .int .i64 (k : Nat)
  | 8, v, w => v = .pointer (some ⟨g, k * 2, none⟩)
  | 9, v, w => v = .pointer (some ⟨g, k * 2 + 1, none⟩)
  | 10, v, w => v = .int .u8 (hi : Nat)
  | 11, v, w => v = .int .i64 (hi : Nat)
  | 12, v, w => v = .int .i64 (lo : Nat)
  | 13, v, w => v = .int .i64 (hi : Nat)
  | _, _, _ => True
theorem swh9_below (g n C k lo hi : Nat) (w w' : World) (hb : Below w.heap.size w w') : ∀ j v, swh9_val g n C k lo hi j v w → swh9_val g n C k lo hi j v w' := by
  intro j v h
  match j, h with
  | 0, h => exact h
  | 1, h => exact h
  | 2, h => exact h
  | 3, h => exact h
  | 4, h => exact h
  | 5, h => exact h
  | 6, h => exact h
  | 7, h => exact h
  | 8, h => exact h
  | 9, h => exact h
  | 10, h => exact h
  | 11, h => exact h
  | 12, h => exact h
  | 13, h => exact h
  | _ + 14, h => exact h
set_option maxRecDepth 100000 in
set_option maxHeartbeats 2000000 in
theorem swh9_s0 {Fc : Fence} (hF : Wide Fc) {nC : Nat} (g n C k lo hi : Nat) (Q : Exit → Act → World → Prop) (df : List Deferred) (w0 : World)
    (hh : Hid (k < n ∧ lo < 256 ∧ hi < 256))
    (c0 : ∀ W, Below w0.heap.size w0 W → W.cell? ⟨g, k * 2, none⟩ = some (.int .u8 (lo : Nat)))
    (c1 : ∀ W, Below w0.heap.size w0 W → W.cell? ⟨g, k * 2 + 1, none⟩ = some (.int .u8 (hi : Nat)))
    (x : Act) (w : World) (hB : Below w0.heap.size w0 w) (hdef : x.defers = df) (u3 : x.tmps.getD 3 undef = .slice (some ⟨g, 0, none⟩) n C) (u6 : x.tmps.getD 6 undef = .int .i64 (k : Nat))
    : wpOpIn Fc nC Tryd.prog swh9_ops Q 0 (fun a' w' => ∃ v, a' = x.put (some 19) v ∧ (v = .slice (some ⟨g, 0, none⟩) n C) ∧ Below w.heap.size w w') x w := by
  have ho : swh9_ops[0]? = some swh9_o0 := rfl
  simp only [Array.getD_eq_getD_getElem?] at u3 u6
  refine wpOpIn_plain ho rfl (oper_inK hF.fn (fun K hK => ?_))
  clear ho
  rw [Oper.semAt_plain Fc _ _ (by intro c h; cases h)]
  simp only [swh9_o0]
  go_simp
  exact hK _ _ ⟨_, act_putD x hdef _ _, rfl, Below.refl _ _⟩
set_option maxRecDepth 100000 in
set_option maxHeartbeats 2000000 in
theorem swh9_s1 {Fc : Fence} (hF : Wide Fc) {nC : Nat} (g n C k lo hi : Nat) (Q : Exit → Act → World → Prop) (df : List Deferred) (w0 : World)
    (hh : Hid (k < n ∧ lo < 256 ∧ hi < 256))
    (c0 : ∀ W, Below w0.heap.size w0 W → W.cell? ⟨g, k * 2, none⟩ = some (.int .u8 (lo : Nat)))
    (c1 : ∀ W, Below w0.heap.size w0 W → W.cell? ⟨g, k * 2 + 1, none⟩ = some (.int .u8 (hi : Nat)))
    (x : Act) (w : World) (hB : Below w0.heap.size w0 w) (hdef : x.defers = df) (u3 : x.tmps.getD 3 undef = .slice (some ⟨g, 0, none⟩) n C) (u6 : x.tmps.getD 6 undef = .int .i64 (k : Nat))
    : wpOpIn Fc nC Tryd.prog swh9_ops Q 1 (fun a' w' => ∃ v, a' = x.put (some 20) v ∧ (v = .int .i64 (k : Nat)) ∧ Below w.heap.size w w') x w := by
  have ho : swh9_ops[1]? = some swh9_o1 := rfl
  simp only [Array.getD_eq_getD_getElem?] at u3 u6
  refine wpOpIn_plain ho rfl (oper_inK hF.fn (fun K hK => ?_))
  clear ho
  rw [Oper.semAt_plain Fc _ _ (by intro c h; cases h)]
  simp only [swh9_o1]
  go_simp
  exact hK _ _ ⟨_, act_putD x hdef _ _, rfl, Below.refl _ _⟩
set_option maxRecDepth 100000 in
set_option maxHeartbeats 2000000 in
theorem swh9_s2 {Fc : Fence} (hF : Wide Fc) {nC : Nat} (g n C k lo hi : Nat) (Q : Exit → Act → World → Prop) (df : List Deferred) (w0 : World)
    (hh : Hid (k < n ∧ lo < 256 ∧ hi < 256))
    (c0 : ∀ W, Below w0.heap.size w0 W → W.cell? ⟨g, k * 2, none⟩ = some (.int .u8 (lo : Nat)))
    (c1 : ∀ W, Below w0.heap.size w0 W → W.cell? ⟨g, k * 2 + 1, none⟩ = some (.int .u8 (hi : Nat)))
    (x : Act) (w : World) (hB : Below w0.heap.size w0 w) (hdef : x.defers = df) (u3 : x.tmps.getD 3 undef = .slice (some ⟨g, 0, none⟩) n C) (u6 : x.tmps.getD 6 undef = .int .i64 (k : Nat))
    (p0 : swh9_val g n C k lo hi 0 (x.tmps.getD 19 undef) w)
    (p1 : swh9_val g n C k lo hi 1 (x.tmps.getD 20 undef) w)
    : wpOpIn Fc nC Tryd.prog swh9_ops Q 2 (fun a' w' => ∃ v, a' = x.put (some 21) v ∧ (v = .pointer (some ⟨g, k * 2, none⟩)) ∧ Below w.heap.size w w') x w := by
  have ho : swh9_ops[2]? = some swh9_o2 := rfl
  simp only [Array.getD_eq_getD_getElem?] at u3 u6
  have q0 : x.tmps.getD 19 undef = .slice (some ⟨g, 0, none⟩) n C := p0
  have q1 : x.tmps.getD 20 undef = .int .i64 (k : Nat) := p1
  simp only [Array.getD_eq_getD_getElem?] at q0 q1
  have i0 : (0 : Int) ≤ (k : Int) := by omega
  have i1 : (k : Int) < (n : Int) := by have := hh.out; omega
  refine wpOpIn_plain ho rfl (oper_inK hF.fn (fun K hK => ?_))
  clear ho
  rw [Oper.semAt_plain Fc _ _ (by intro c h; cases h)]
  simp only [swh9_o2]
  go_simp
  exact hK _ _ ⟨_, act_putD x hdef _ _, rfl, Below.refl _ _⟩
set_option maxRecDepth 100000 in
set_option maxHeartbeats 2000000 in
theorem swh9_s3 {Fc : Fence} (hF : Wide Fc) {nC : Nat} (g n C k lo hi : Nat) (Q : Exit → Act → World → Prop) (df : List Deferred) (w0 : World)
    (hh : Hid (k < n ∧ lo < 256 ∧ hi < 256))
    (c0 : ∀ W, Below w0.heap.size w0 W → W.cell? ⟨g, k * 2, none⟩ = some (.int .u8 (lo : Nat)))
    (c1 : ∀ W, Below w0.heap.size w0 W → W.cell? ⟨g, k * 2 + 1, none⟩ = some (.int .u8 (hi : Nat)))
    (x : Act) (w : World) (hB : Below w0.heap.size w0 w) (hdef : x.defers = df) (u3 : x.tmps.getD 3 undef = .slice (some ⟨g, 0, none⟩) n C) (u6 : x.tmps.getD 6 undef = .int .i64 (k : Nat))
    (p2 : swh9_val g n C k lo hi 2 (x.tmps.getD 21 undef) w)
    : wpOpIn Fc nC Tryd.prog swh9_ops Q 3 (fun a' w' => ∃ v, a' = x.put (some 22) v ∧ (v = .pointer (some ⟨g, k * 2, none⟩)) ∧ Below w.heap.size w w') x w := by
  have ho : swh9_ops[3]? = some swh9_o3 := rfl
  simp only [Array.getD_eq_getD_getElem?] at u3 u6
  have q2 : x.tmps.getD 21 undef = .pointer (some ⟨g, k * 2, none⟩) := p2
  simp only [Array.getD_eq_getD_getElem?] at q2
  refine wpOpIn_plain ho rfl (oper_inK hF.fn (fun K hK => ?_))
  clear ho
  rw [Oper.semAt_plain Fc _ _ (by intro c h; cases h)]
  simp only [swh9_o3]
  go_simp
  exact hK _ _ ⟨_, act_putD x hdef _ _, rfl, Below.refl _ _⟩
set_option maxRecDepth 100000 in
set_option maxHeartbeats 2000000 in
theorem swh9_s4 {Fc : Fence} (hF : Wide Fc) {nC : Nat} (g n C k lo hi : Nat) (Q : Exit → Act → World → Prop) (df : List Deferred) (w0 : World)
    (hh : Hid (k < n ∧ lo < 256 ∧ hi < 256))
    (c0 : ∀ W, Below w0.heap.size w0 W → W.cell? ⟨g, k * 2, none⟩ = some (.int .u8 (lo : Nat)))
    (c1 : ∀ W, Below w0.heap.size w0 W → W.cell? ⟨g, k * 2 + 1, none⟩ = some (.int .u8 (hi : Nat)))
    (x : Act) (w : World) (hB : Below w0.heap.size w0 w) (hdef : x.defers = df) (u3 : x.tmps.getD 3 undef = .slice (some ⟨g, 0, none⟩) n C) (u6 : x.tmps.getD 6 undef = .int .i64 (k : Nat))
    (p3 : swh9_val g n C k lo hi 3 (x.tmps.getD 22 undef) w)
    : wpOpIn Fc nC Tryd.prog swh9_ops Q 4 (fun a' w' => ∃ v, a' = x.put (some 23) v ∧ (v = .int .u8 (lo : Nat)) ∧ Below w.heap.size w w') x w := by
  have ho : swh9_ops[4]? = some swh9_o4 := rfl
  simp only [Array.getD_eq_getD_getElem?] at u3 u6
  have q3 : x.tmps.getD 22 undef = .pointer (some ⟨g, k * 2, none⟩) := p3
  simp only [Array.getD_eq_getD_getElem?] at q3
  have m := c0 w hB
  refine wpOpIn_plain ho rfl (oper_inK hF.fn (fun K hK => ?_))
  clear ho
  rw [Oper.semAt_plain Fc _ _ (by intro c h; cases h)]
  simp only [swh9_o4]
  go_simp
  exact hK _ _ ⟨_, act_putD x hdef _ _, rfl, Below.refl _ _⟩
set_option maxRecDepth 100000 in
set_option maxHeartbeats 2000000 in
theorem swh9_s5 {Fc : Fence} (hF : Wide Fc) {nC : Nat} (g n C k lo hi : Nat) (Q : Exit → Act → World → Prop) (df : List Deferred) (w0 : World)
    (hh : Hid (k < n ∧ lo < 256 ∧ hi < 256))
    (c0 : ∀ W, Below w0.heap.size w0 W → W.cell? ⟨g, k * 2, none⟩ = some (.int .u8 (lo : Nat)))
    (c1 : ∀ W, Below w0.heap.size w0 W → W.cell? ⟨g, k * 2 + 1, none⟩ = some (.int .u8 (hi : Nat)))
    (x : Act) (w : World) (hB : Below w0.heap.size w0 w) (hdef : x.defers = df) (u3 : x.tmps.getD 3 undef = .slice (some ⟨g, 0, none⟩) n C) (u6 : x.tmps.getD 6 undef = .int .i64 (k : Nat))
    (p4 : swh9_val g n C k lo hi 4 (x.tmps.getD 23 undef) w)
    : wpOpIn Fc nC Tryd.prog swh9_ops Q 5 (fun a' w' => ∃ v, a' = x.put (some 24) v ∧ (v = .int .i64 (lo : Nat)) ∧ Below w.heap.size w w') x w := by
  have ho : swh9_ops[5]? = some swh9_o5 := rfl
  simp only [Array.getD_eq_getD_getElem?] at u3 u6
  have q4 : x.tmps.getD 23 undef = .int .u8 (lo : Nat) := p4
  simp only [Array.getD_eq_getD_getElem?] at q4
  have m := IntWalk.i64_in (lo : Int) (by have := hh.out; omega)
  refine wpOpIn_plain ho rfl (oper_inK hF.fn (fun K hK => ?_))
  clear ho
  rw [Oper.semAt_plain Fc _ _ (by intro c h; cases h)]
  simp only [swh9_o5]
  go_simp
  exact hK _ _ ⟨_, act_putD x hdef _ _, rfl, Below.refl _ _⟩
set_option maxRecDepth 100000 in
set_option maxHeartbeats 2000000 in
theorem swh9_s6 {Fc : Fence} (hF : Wide Fc) {nC : Nat} (g n C k lo hi : Nat) (Q : Exit → Act → World → Prop) (df : List Deferred) (w0 : World)
    (hh : Hid (k < n ∧ lo < 256 ∧ hi < 256))
    (c0 : ∀ W, Below w0.heap.size w0 W → W.cell? ⟨g, k * 2, none⟩ = some (.int .u8 (lo : Nat)))
    (c1 : ∀ W, Below w0.heap.size w0 W → W.cell? ⟨g, k * 2 + 1, none⟩ = some (.int .u8 (hi : Nat)))
    (x : Act) (w : World) (hB : Below w0.heap.size w0 w) (hdef : x.defers = df) (u3 : x.tmps.getD 3 undef = .slice (some ⟨g, 0, none⟩) n C) (u6 : x.tmps.getD 6 undef = .int .i64 (k : Nat))
    : wpOpIn Fc nC Tryd.prog swh9_ops Q 6 (fun a' w' => ∃ v, a' = x.put (some 25) v ∧ (v = .slice (some ⟨g, 0, none⟩) n C) ∧ Below w.heap.size w w') x w := by
  have ho : swh9_ops[6]? = some swh9_o6 := rfl
  simp only [Array.getD_eq_getD_getElem?] at u3 u6
  refine wpOpIn_plain ho rfl (oper_inK hF.fn (fun K hK => ?_))
  clear ho
  rw [Oper.semAt_plain Fc _ _ (by intro c h; cases h)]
  simp only [swh9_o6]
  go_simp
  exact hK _ _ ⟨_, act_putD x hdef _ _, rfl, Below.refl _ _⟩
set_option maxRecDepth 100000 in
set_option maxHeartbeats 2000000 in
theorem swh9_s7 {Fc : Fence} (hF : Wide Fc) {nC : Nat} (g n C k lo hi : Nat) (Q : Exit → Act → World → Prop) (df : List Deferred) (w0 : World)
    (hh : Hid (k < n ∧ lo < 256 ∧ hi < 256))
    (c0 : ∀ W, Below w0.heap.size w0 W → W.cell? ⟨g, k * 2, none⟩ = some (.int .u8 (lo : Nat)))
    (c1 : ∀ W, Below w0.heap.size w0 W → W.cell? ⟨g, k * 2 + 1, none⟩ = some (.int .u8 (hi : Nat)))
    (x : Act) (w : World) (hB : Below w0.heap.size w0 w) (hdef : x.defers = df) (u3 : x.tmps.getD 3 undef = .slice (some ⟨g, 0, none⟩) n C) (u6 : x.tmps.getD 6 undef = .int .i64 (k : Nat))
    : wpOpIn Fc nC Tryd.prog swh9_ops Q 7 (fun a' w' => ∃ v, a' = x.put (some 26) v ∧ (v = .int .i64 (k : Nat)) ∧ Below w.heap.size w w') x w := by
  have ho : swh9_ops[7]? = some swh9_o7 := rfl
  simp only [Array.getD_eq_getD_getElem?] at u3 u6
  refine wpOpIn_plain ho rfl (oper_inK hF.fn (fun K hK => ?_))
  clear ho
  rw [Oper.semAt_plain Fc _ _ (by intro c h; cases h)]
  simp only [swh9_o7]
  go_simp
  exact hK _ _ ⟨_, act_putD x hdef _ _, rfl, Below.refl _ _⟩
set_option maxRecDepth 100000 in
set_option maxHeartbeats 2000000 in
theorem swh9_s8 {Fc : Fence} (hF : Wide Fc) {nC : Nat} (g n C k lo hi : Nat) (Q : Exit → Act → World → Prop) (df : List Deferred) (w0 : World)
    (hh : Hid (k < n ∧ lo < 256 ∧ hi < 256))
    (c0 : ∀ W, Below w0.heap.size w0 W → W.cell? ⟨g, k * 2, none⟩ = some (.int .u8 (lo : Nat)))
    (c1 : ∀ W, Below w0.heap.size w0 W → W.cell? ⟨g, k * 2 + 1, none⟩ = some (.int .u8 (hi : Nat)))
    (x : Act) (w : World) (hB : Below w0.heap.size w0 w) (hdef : x.defers = df) (u3 : x.tmps.getD 3 undef = .slice (some ⟨g, 0, none⟩) n C) (u6 : x.tmps.getD 6 undef = .int .i64 (k : Nat))
    (p6 : swh9_val g n C k lo hi 6 (x.tmps.getD 25 undef) w)
    (p7 : swh9_val g n C k lo hi 7 (x.tmps.getD 26 undef) w)
    : wpOpIn Fc nC Tryd.prog swh9_ops Q 8 (fun a' w' => ∃ v, a' = x.put (some 27) v ∧ (v = .pointer (some ⟨g, k * 2, none⟩)) ∧ Below w.heap.size w w') x w := by
  have ho : swh9_ops[8]? = some swh9_o8 := rfl
  simp only [Array.getD_eq_getD_getElem?] at u3 u6
  have q6 : x.tmps.getD 25 undef = .slice (some ⟨g, 0, none⟩) n C := p6
  have q7 : x.tmps.getD 26 undef = .int .i64 (k : Nat) := p7
  simp only [Array.getD_eq_getD_getElem?] at q6 q7
  have i0 : (0 : Int) ≤ (k : Int) := by omega
  have i1 : (k : Int) < (n : Int) := by have := hh.out; omega
  refine wpOpIn_plain ho rfl (oper_inK hF.fn (fun K hK => ?_))
  clear ho
  rw [Oper.semAt_plain Fc _ _ (by intro c h; cases h)]
  simp only [swh9_o8]
  go_simp
  exact hK _ _ ⟨_, act_putD x hdef _ _, rfl, Below.refl _ _⟩
set_option maxRecDepth 100000 in
set_option maxHeartbeats 2000000 in
theorem swh9_s9 {Fc : Fence} (hF : Wide Fc) {nC : Nat} (g n C k lo hi : Nat) (Q : Exit → Act → World → Prop) (df : List Deferred) (w0 : World)
    (hh : Hid (k < n ∧ lo < 256 ∧ hi < 256))
    (c0 : ∀ W, Below w0.heap.size w0 W → W.cell? ⟨g, k * 2, none⟩ = some (.int .u8 (lo : Nat)))
    (c1 : ∀ W, Below w0.heap.size w0 W → W.cell? ⟨g, k * 2 + 1, none⟩ = some (.int .u8 (hi : Nat)))
    (x : Act) (w : World) (hB : Below w0.heap.size w0 w) (hdef : x.defers = df) (u3 : x.tmps.getD 3 undef = .slice (some ⟨g, 0, none⟩) n C) (u6 : x.tmps.getD 6 undef = .int .i64 (k : Nat))
    (p8 : swh9_val g n C k lo hi 8 (x.tmps.getD 27 undef) w)
    : wpOpIn Fc nC Tryd.prog swh9_ops Q 9 (fun a' w' => ∃ v, a' = x.put (some 28) v ∧ (v = .pointer (some ⟨g, k * 2 + 1, none⟩)) ∧ Below w.heap.size w w') x w := by
  have ho : swh9_ops[9]? = some swh9_o9 := rfl
  simp only [Array.getD_eq_getD_getElem?] at u3 u6
  have q8 : x.tmps.getD 27 undef = .pointer (some ⟨g, k * 2, none⟩) := p8
  simp only [Array.getD_eq_getD_getElem?] at q8
  refine wpOpIn_plain ho rfl (oper_inK hF.fn (fun K hK => ?_))
  clear ho
  rw [Oper.semAt_plain Fc _ _ (by intro c h; cases h)]
  simp only [swh9_o9]
  go_simp
  exact hK _ _ ⟨_, act_putD x hdef _ _, rfl, Below.refl _ _⟩
set_option maxRecDepth 100000 in
set_option maxHeartbeats 2000000 in
theorem swh9_s10 {Fc : Fence} (hF : Wide Fc) {nC : Nat} (g n C k lo hi : Nat) (Q : Exit → Act → World → Prop) (df : List Deferred) (w0 : World)
    (hh : Hid (k < n ∧ lo < 256 ∧ hi < 256))
    (c0 : ∀ W, Below w0.heap.size w0 W → W.cell? ⟨g, k * 2, none⟩ = some (.int .u8 (lo : Nat)))
    (c1 : ∀ W, Below w0.heap.size w0 W → W.cell? ⟨g, k * 2 + 1, none⟩ = some (.int .u8 (hi : Nat)))
    (x : Act) (w : World) (hB : Below w0.heap.size w0 w) (hdef : x.defers = df) (u3 : x.tmps.getD 3 undef = .slice (some ⟨g, 0, none⟩) n C) (u6 : x.tmps.getD 6 undef = .int .i64 (k : Nat))
    (p9 : swh9_val g n C k lo hi 9 (x.tmps.getD 28 undef) w)
    : wpOpIn Fc nC Tryd.prog swh9_ops Q 10 (fun a' w' => ∃ v, a' = x.put (some 29) v ∧ (v = .int .u8 (hi : Nat)) ∧ Below w.heap.size w w') x w := by
  have ho : swh9_ops[10]? = some swh9_o10 := rfl
  simp only [Array.getD_eq_getD_getElem?] at u3 u6
  have q9 : x.tmps.getD 28 undef = .pointer (some ⟨g, k * 2 + 1, none⟩) := p9
  simp only [Array.getD_eq_getD_getElem?] at q9
  have m := c1 w hB
  refine wpOpIn_plain ho rfl (oper_inK hF.fn (fun K hK => ?_))
  clear ho
  rw [Oper.semAt_plain Fc _ _ (by intro c h; cases h)]
  simp only [swh9_o10]
  go_simp
  exact hK _ _ ⟨_, act_putD x hdef _ _, rfl, Below.refl _ _⟩
set_option maxRecDepth 100000 in
set_option maxHeartbeats 2000000 in
theorem swh9_s11 {Fc : Fence} (hF : Wide Fc) {nC : Nat} (g n C k lo hi : Nat) (Q : Exit → Act → World → Prop) (df : List Deferred) (w0 : World)
    (hh : Hid (k < n ∧ lo < 256 ∧ hi < 256))
    (c0 : ∀ W, Below w0.heap.size w0 W → W.cell? ⟨g, k * 2, none⟩ = some (.int .u8 (lo : Nat)))
    (c1 : ∀ W, Below w0.heap.size w0 W → W.cell? ⟨g, k * 2 + 1, none⟩ = some (.int .u8 (hi : Nat)))
    (x : Act) (w : World) (hB : Below w0.heap.size w0 w) (hdef : x.defers = df) (u3 : x.tmps.getD 3 undef = .slice (some ⟨g, 0, none⟩) n C) (u6 : x.tmps.getD 6 undef = .int .i64 (k : Nat))
    (p10 : swh9_val g n C k lo hi 10 (x.tmps.getD 29 undef) w)
    : wpOpIn Fc nC Tryd.prog swh9_ops Q 11 (fun a' w' => ∃ v, a' = x.put (some 30) v ∧ (v = .int .i64 (hi : Nat)) ∧ Below w.heap.size w w') x w := by
  have ho : swh9_ops[11]? = some swh9_o11 := rfl
  simp only [Array.getD_eq_getD_getElem?] at u3 u6
  have q10 : x.tmps.getD 29 undef = .int .u8 (hi : Nat) := p10
  simp only [Array.getD_eq_getD_getElem?] at q10
  have m := IntWalk.i64_in (hi : Int) (by have := hh.out; omega)
  refine wpOpIn_plain ho rfl (oper_inK hF.fn (fun K hK => ?_))
  clear ho
  rw [Oper.semAt_plain Fc _ _ (by intro c h; cases h)]
  simp only [swh9_o11]
  go_simp
  exact hK _ _ ⟨_, act_putD x hdef _ _, rfl, Below.refl _ _⟩
set_option maxRecDepth 100000 in
set_option maxHeartbeats 2000000 in
theorem swh9_s12 {Fc : Fence} (hF : Wide Fc) {nC : Nat} (g n C k lo hi : Nat) (Q : Exit → Act → World → Prop) (df : List Deferred) (w0 : World)
    (hh : Hid (k < n ∧ lo < 256 ∧ hi < 256))
    (c0 : ∀ W, Below w0.heap.size w0 W → W.cell? ⟨g, k * 2, none⟩ = some (.int .u8 (lo : Nat)))
    (c1 : ∀ W, Below w0.heap.size w0 W → W.cell? ⟨g, k * 2 + 1, none⟩ = some (.int .u8 (hi : Nat)))
    (x : Act) (w : World) (hB : Below w0.heap.size w0 w) (hdef : x.defers = df) (u3 : x.tmps.getD 3 undef = .slice (some ⟨g, 0, none⟩) n C) (u6 : x.tmps.getD 6 undef = .int .i64 (k : Nat))
    (p5 : swh9_val g n C k lo hi 5 (x.tmps.getD 24 undef) w)
    : wpOpIn Fc nC Tryd.prog swh9_ops Q 12 (fun a' w' => ∃ v, a' = x.put (some 7) v ∧ (v = .int .i64 (lo : Nat)) ∧ Below w.heap.size w w') x w := by
  have ho : swh9_ops[12]? = some swh9_o12 := rfl
  simp only [Array.getD_eq_getD_getElem?] at u3 u6
  have q5 : x.tmps.getD 24 undef = .int .i64 (lo : Nat) := p5
  simp only [Array.getD_eq_getD_getElem?] at q5
  refine wpOpIn_plain ho rfl (oper_inK hF.fn (fun K hK => ?_))
  clear ho
  rw [Oper.semAt_plain Fc _ _ (by intro c h; cases h)]
  simp only [swh9_o12]
  go_simp
  exact hK _ _ ⟨_, act_putD x hdef _ _, rfl, Below.refl _ _⟩
set_option maxRecDepth 100000 in
set_option maxHeartbeats 2000000 in
theorem swh9_s13 {Fc : Fence} (hF : Wide Fc) {nC : Nat} (g n C k lo hi : Nat) (Q : Exit → Act → World → Prop) (df : List Deferred) (w0 : World)
    (hh : Hid (k < n ∧ lo < 256 ∧ hi < 256))
    (c0 : ∀ W, Below w0.heap.size w0 W → W.cell? ⟨g, k * 2, none⟩ = some (.int .u8 (lo : Nat)))
    (c1 : ∀ W, Below w0.heap.size w0 W → W.cell? ⟨g, k * 2 + 1, none⟩ = some (.int .u8 (hi : Nat)))
    (x : Act) (w : World) (hB : Below w0.heap.size w0 w) (hdef : x.defers = df) (u3 : x.tmps.getD 3 undef = .slice (some ⟨g, 0, none⟩) n C) (u6 : x.tmps.getD 6 undef = .int .i64 (k : Nat))
    (p11 : swh9_val g n C k lo hi 11 (x.tmps.getD 30 undef) w)
    : wpOpIn Fc nC Tryd.prog swh9_ops Q 13 (fun a' w' => ∃ v, a' = x.put (some 8) v ∧ (v = .int .i64 (hi : Nat)) ∧ Below w.heap.size w w') x w := by
  have ho : swh9_ops[13]? = some swh9_o13 := rfl
  simp only [Array.getD_eq_getD_getElem?] at u3 u6
  have q11 : x.tmps.getD 30 undef = .int .i64 (hi : Nat) := p11
  simp only [Array.getD_eq_getD_getElem?] at q11
  refine wpOpIn_plain ho rfl (oper_inK hF.fn (fun K hK => ?_))
  clear ho
  rw [Oper.semAt_plain Fc _ _ (by intro c h; cases h)]
  simp only [swh9_o13]
  go_simp
  exact hK _ _ ⟨_, act_putD x hdef _ _, rfl, Below.refl _ _⟩

set_option maxRecDepth 100000 in
set_option maxHeartbeats 4000000 in
theorem swh9 {Fc : Fence} (hF : Wide Fc) {nC : Nat} (g n C k lo hi : Nat) (Q : Exit → Act → World → Prop) (t0 : Array Value) (df : List Deferred) (w0 : World) (ht : t0.size = 94)
    (hs3 : t0.getD 3 undef = .slice (some ⟨g, 0, none⟩) n C) (hs6 : t0.getD 6 undef = .int .i64 (k : Nat))
    (hh : Hid (k < n ∧ lo < 256 ∧ hi < 256))
    (c0 : ∀ W, Below w0.heap.size w0 W → W.cell? ⟨g, k * 2, none⟩ = some (.int .u8 (lo : Nat)))
    (c1 : ∀ W, Below w0.heap.size w0 W → W.cell? ⟨g, k * 2 + 1, none⟩ = some (.int .u8 (hi : Nat)))
    (hQ : ∀ (vs : Nat → Value) (w : World), Below w0.heap.size w0 w → (vs 7 = .int .i64 (lo : Nat)) → (vs 8 = .int .i64 (hi : Nat)) → Q .normal { tmps := [19, 20, 21, 22, 23, 24, 25, 26, 27, 28, 29, 30, 7, 8].foldl (fun y d => y.setIfInBounds d (vs d)) t0, defers := df } w) :
    (Code.region 9 swh9_ops true).wpIn Fc nC Tryd.prog Q { tmps := t0, defers := df } w0 := by
  refine wpIn_region_tail 14 (by decide) (by kernel_rfl) (fun a b => Below a.heap.size a b) (swh9_val g n C k lo hi) t0 df w0 (by rw [ht]; kernel_rfl) (by kernel_rfl) (by kernel_rfl) (by kernel_rfl) ((Below.refl _ _).drew) (fun _ _ _ h k => h.trans (k.mono h.size)) (swh9_below g n C k lo hi) ?_ ?_
  · intro j o ho hj x w hB hdef hsz hs hdeps
    have hs' : ∀ s, ¬ swh9_mem s → x.tmps.getD s undef = t0.getD s undef := fun s hn => hs s (fun j hj e => hn (by rw [e]; exact swh9_slots j hj))
    have u3 := (hs' 3 (by decide)).trans hs3
    have u6 := (hs' 6 (by decide)).trans hs6
    match j, ho, hj with
    | 0, ho, _ =>
      have e : o = swh9_o0 := (Option.some.inj ho).symm
      subst e
      exact swh9_s0 hF g n C k lo hi Q df w0 hh c0 c1 x w hB hdef u3 u6 
    | 1, ho, _ =>
      have e : o = swh9_o1 := (Option.some.inj ho).symm
      subst e
      exact swh9_s1 hF g n C k lo hi Q df w0 hh c0 c1 x w hB hdef u3 u6 
    | 2, ho, _ =>
      have e : o = swh9_o2 := (Option.some.inj ho).symm
      subst e
      exact swh9_s2 hF g n C k lo hi Q df w0 hh c0 c1 x w hB hdef u3 u6 (hdeps { on := 0, ground := Ground.data } (by simp) rfl) (hdeps { on := 1, ground := Ground.data } (by simp) rfl)
    | 3, ho, _ =>
      have e : o = swh9_o3 := (Option.some.inj ho).symm
      subst e
      exact swh9_s3 hF g n C k lo hi Q df w0 hh c0 c1 x w hB hdef u3 u6 (hdeps { on := 2, ground := Ground.data } (by simp) rfl)
    | 4, ho, _ =>
      have e : o = swh9_o4 := (Option.some.inj ho).symm
      subst e
      exact swh9_s4 hF g n C k lo hi Q df w0 hh c0 c1 x w hB hdef u3 u6 (hdeps { on := 3, ground := Ground.data } (by simp) rfl)
    | 5, ho, _ =>
      have e : o = swh9_o5 := (Option.some.inj ho).symm
      subst e
      exact swh9_s5 hF g n C k lo hi Q df w0 hh c0 c1 x w hB hdef u3 u6 (hdeps { on := 4, ground := Ground.data } (by simp) rfl)
    | 6, ho, _ =>
      have e : o = swh9_o6 := (Option.some.inj ho).symm
      subst e
      exact swh9_s6 hF g n C k lo hi Q df w0 hh c0 c1 x w hB hdef u3 u6 
    | 7, ho, _ =>
      have e : o = swh9_o7 := (Option.some.inj ho).symm
      subst e
      exact swh9_s7 hF g n C k lo hi Q df w0 hh c0 c1 x w hB hdef u3 u6 
    | 8, ho, _ =>
      have e : o = swh9_o8 := (Option.some.inj ho).symm
      subst e
      exact swh9_s8 hF g n C k lo hi Q df w0 hh c0 c1 x w hB hdef u3 u6 (hdeps { on := 6, ground := Ground.data } (by simp) rfl) (hdeps { on := 7, ground := Ground.data } (by simp) rfl)
    | 9, ho, _ =>
      have e : o = swh9_o9 := (Option.some.inj ho).symm
      subst e
      exact swh9_s9 hF g n C k lo hi Q df w0 hh c0 c1 x w hB hdef u3 u6 (hdeps { on := 8, ground := Ground.data } (by simp) rfl)
    | 10, ho, _ =>
      have e : o = swh9_o10 := (Option.some.inj ho).symm
      subst e
      exact swh9_s10 hF g n C k lo hi Q df w0 hh c0 c1 x w hB hdef u3 u6 (hdeps { on := 9, ground := Ground.data } (by simp) rfl)
    | 11, ho, _ =>
      have e : o = swh9_o11 := (Option.some.inj ho).symm
      subst e
      exact swh9_s11 hF g n C k lo hi Q df w0 hh c0 c1 x w hB hdef u3 u6 (hdeps { on := 10, ground := Ground.data } (by simp) rfl)
    | 12, ho, _ =>
      have e : o = swh9_o12 := (Option.some.inj ho).symm
      subst e
      exact swh9_s12 hF g n C k lo hi Q df w0 hh c0 c1 x w hB hdef u3 u6 (hdeps { on := 5, ground := Ground.data } (by simp) rfl)
    | 13, ho, _ =>
      have e : o = swh9_o13 := (Option.some.inj ho).symm
      subst e
      exact swh9_s13 hF g n C k lo hi Q df w0 hh c0 c1 x w hB hdef u3 u6 (hdeps { on := 11, ground := Ground.data } (by simp) rfl)
    | k + 14, _, hj => omega
  · intro x w hB hdef hsz hs hv
    have hx := frame_sets x.tmps t0 hsz [19, 20, 21, 22, 23, 24, 25, 26, 27, 28, 29, 30, 7, 8] (fun s hn => hs s (fun j hj e => hn (by rw [e]; exact swh9_slots j hj)))
    have hq := hQ (fun d => x.tmps.getD d undef) w hB (hv 12 (by decide)) (hv 13 (by decide))
    obtain ⟨T, Df⟩ := x
    dsimp only at hx hdef hq
    subst hdef
    rw [← hx] at hq
    exact hq
abbrev swh13_o0 : Oper := { dst := some 56, op := Op.move (Operand.tmp 4), type := 31, pos := "outright.go:43", after := #[], guard := none }
abbrev swh13_o1 : Oper := { dst := some 57, op := Op.move (Operand.tmp 3), type := 43, pos := "outright.go:43", after := #[], guard := none }
abbrev swh13_o2 : Oper := { dst := some 58, op := Op.move (Operand.tmp 6), type := 3, pos := "outright.go:43", after := #[], guard := none }
abbrev swh13_o3 : Oper := { dst := some 59, op := Op.indexAddr 43 (Operand.tmp 57) (Operand.tmp 58), type := 0, pos := "outright.go:43", after := #[{ on := 1, ground := Ground.data }, { on := 2, ground := Ground.data }], guard := none }
abbrev swh13_o4 : Oper := { dst := some 60, op := Op.indexAddr 45 (Operand.tmp 59) (Operand.const (Value.int IntKind.i64 0)), type := 0, pos := "outright.go:43", after := #[{ on := 3, ground := Ground.data }], guard := none }
abbrev swh13_o5 : Oper := { dst := some 61, op := Op.load 5 (Operand.tmp 60), type := 5, pos := "outright.go:43", after := #[{ on := 4, ground := Ground.data }], guard := none }
abbrev swh13_o6 : Oper := { dst := some 62, op := Op.move (Operand.tmp 3), type := 43, pos := "outright.go:43", after := #[], guard := none }
abbrev swh13_o7 : Oper := { dst := some 63, op := Op.move (Operand.tmp 6), type := 3, pos := "outright.go:43", after := #[], guard := none }
abbrev swh13_o8 : Oper := { dst := some 64, op := Op.indexAddr 43 (Operand.tmp 62) (Operand.tmp 63), type := 0, pos := "outright.go:43", after := #[{ on := 6, ground := Ground.data }, { on := 7, ground := Ground.data }], guard := none }
abbrev swh13_o9 : Oper := { dst := some 65, op := Op.indexAddr 45 (Operand.tmp 64) (Operand.const (Value.int IntKind.i64 1)), type := 0, pos := "outright.go:43", after := #[{ on := 8, ground := Ground.data }], guard := none }
abbrev swh13_o10 : Oper := { dst := some 66, op := Op.load 5 (Operand.tmp 65), type := 5, pos := "outright.go:43", after := #[{ on := 9, ground := Ground.data }], guard := none }
abbrev swh13_o11 : Oper := { dst := some 67, op := Op.call { callee := Callee.value (Operand.func 15), args := #[Operand.tmp 61, Operand.tmp 66], argTypes := #[5, 5] }, type := 24, pos := "outright.go:43", after := #[{ on := 5, ground := Ground.data }, { on := 10, ground := Ground.data }], guard := none }
abbrev swh13_o12 : Oper := { dst := some 68, op := Op.buildSlice 31 1 #[(0, Operand.tmp 67)], type := 31, pos := "outright.go:43", after := #[{ on := 11, ground := Ground.data }], guard := none }
abbrev swh13_o13 : Oper := { dst := some 69, op := Op.call { callee := Callee.builtin Builtin.append, args := #[Operand.tmp 56, Operand.tmp 68], argTypes := #[31, 31] }, type := 31, pos := "outright.go:43", after := #[{ on := 0, ground := Ground.data }, { on := 12, ground := Ground.data }, { on := 11, ground := Ground.chain }], guard := none }
abbrev swh13_o14 : Oper := { dst := some 4, op := Op.assign (Operand.tmp 69), type := 31, pos := "outright.go:43", after := #[{ on := 13, ground := Ground.data }, { on := 13, ground := Ground.chain }, { on := 0, ground := Ground.phase }, { on := 1, ground := Ground.phase }, { on := 2, ground := Ground.phase }, { on := 3, ground := Ground.phase }, { on := 4, ground := Ground.phase }, { on := 5, ground := Ground.phase }, { on := 6, ground := Ground.phase }, { on := 7, ground := Ground.phase }, { on := 8, ground := Ground.phase }, { on := 9, ground := Ground.phase }, { on := 10, ground := Ground.phase }, { on := 11, ground := Ground.phase }, { on := 12, ground := Ground.phase }, { on := 13, ground := Ground.phase }], guard := none }
def swh13_ops : Array Oper := #[swh13_o0, swh13_o1, swh13_o2, swh13_o3, swh13_o4, swh13_o5, swh13_o6, swh13_o7, swh13_o8, swh13_o9, swh13_o10, swh13_o11, swh13_o12, swh13_o13, swh13_o14]
abbrev swh13_mem (s : Nat) : Prop := s ∈ [56, 57, 58, 59, 60, 61, 62, 63, 64, 65, 66, 67, 68]
set_option maxRecDepth 100000 in
theorem swh13_slots : ∀ j, j < 13 → swh13_mem (slotOf swh13_ops j) := by
  intro j hj
  match j, hj with
  | 0, _ => exact (by decide : swh13_mem 56)
  | 1, _ => exact (by decide : swh13_mem 57)
  | 2, _ => exact (by decide : swh13_mem 58)
  | 3, _ => exact (by decide : swh13_mem 59)
  | 4, _ => exact (by decide : swh13_mem 60)
  | 5, _ => exact (by decide : swh13_mem 61)
  | 6, _ => exact (by decide : swh13_mem 62)
  | 7, _ => exact (by decide : swh13_mem 63)
  | 8, _ => exact (by decide : swh13_mem 64)
  | 9, _ => exact (by decide : swh13_mem 65)
  | 10, _ => exact (by decide : swh13_mem 66)
  | 11, _ => exact (by decide : swh13_mem 67)
  | 12, _ => exact (by decide : swh13_mem 68)
  | k + 13, hj => omega
def swh13_val (g n C k lo hi : Nat) (V : Value) : Nat → Value → World → Prop
  | 0, v, w => v = V
  | 1, v, w => v = .slice (some ⟨g, 0, none⟩) n C
  | 2, v, w => v = .int .i64 (k : Nat)
  | 3, v, w => v = .pointer (some ⟨g, k * 2, none⟩)
  | 4, v, w => v = .pointer (some ⟨g, k * 2, none⟩)
  | 5, v, w => v = .int .u8 (lo : Nat)
  | 6, v, w => v = .slice (some ⟨g, 0, none⟩) n C
  | 7, v, w => v = .int .i64 (k : Nat)
  | 8, v, w => v = .pointer (some ⟨g, k * 2, none⟩)
  | 9, v, w => v = .pointer (some ⟨g, k * 2 + 1, none⟩)
  | 10, v, w => v = .int .u8 (hi : Nat)
  | 11, v, w => v = sv (rng lo hi)
  | 12, v, w => ∃ g, v = .slice (some ⟨g, 0, none⟩) 1 1 ∧ SBox w g (rng lo hi)
  | _, _, _ => True
theorem swh13_below (g n C k lo hi : Nat) (V : Value) (w w' : World) (hb : Below w.heap.size w w') : ∀ j v, swh13_val g n C k lo hi V j v w → swh13_val g n C k lo hi V j v w' := by
  intro j v h
  match j, h with
  | 0, h => exact h
  | 1, h => exact h
  | 2, h => exact h
  | 3, h => exact h
  | 4, h => exact h
  | 5, h => exact h
  | 6, h => exact h
  | 7, h => exact h
  | 8, h => exact h
  | 9, h => exact h
  | 10, h => exact h
  | 11, h => exact h
  | 12, h => obtain ⟨g, h1, h2⟩ := h; exact ⟨g, h1, h2.below hb h2.lt⟩
  | _ + 13, h => exact h
set_option maxRecDepth 100000 in
set_option maxHeartbeats 2000000 in
theorem swh13_s0 {Fc : Fence} (hF : Wide Fc) {nC : Nat} (g n C k lo hi : Nat) (V : Value) (Q : Exit → Act → World → Prop) (df : List Deferred) (w0 : World)
    (hh : Hid (k < n ∧ lo < 256 ∧ hi < 256))
    (c0 : ∀ W, Below w0.heap.size w0 W → W.cell? ⟨g, k * 2, none⟩ = some (.int .u8 (lo : Nat)))
    (c1 : ∀ W, Below w0.heap.size w0 W → W.cell? ⟨g, k * 2 + 1, none⟩ = some (.int .u8 (hi : Nat)))
    (x : Act) (w : World) (hB : Below w0.heap.size w0 w) (hdef : x.defers = df) (u3 : x.tmps.getD 3 undef = .slice (some ⟨g, 0, none⟩) n C) (u4 : x.tmps.getD 4 undef = V) (u6 : x.tmps.getD 6 undef = .int .i64 (k : Nat))
    : wpOpIn Fc nC Tryd.prog swh13_ops Q 0 (fun a' w' => ∃ v, a' = x.put (some 56) v ∧ (v = V) ∧ Below w.heap.size w w') x w := by
  have ho : swh13_ops[0]? = some swh13_o0 := rfl
  simp only [Array.getD_eq_getD_getElem?] at u3 u4 u6
  refine wpOpIn_plain ho rfl (oper_inK hF.fn (fun K hK => ?_))
  clear ho
  rw [Oper.semAt_plain Fc _ _ (by intro c h; cases h)]
  simp only [swh13_o0]
  go_simp
  exact hK _ _ ⟨_, act_putD x hdef _ _, rfl, Below.refl _ _⟩
set_option maxRecDepth 100000 in
set_option maxHeartbeats 2000000 in
theorem swh13_s1 {Fc : Fence} (hF : Wide Fc) {nC : Nat} (g n C k lo hi : Nat) (V : Value) (Q : Exit → Act → World → Prop) (df : List Deferred) (w0 : World)
    (hh : Hid (k < n ∧ lo < 256 ∧ hi < 256))
    (c0 : ∀ W, Below w0.heap.size w0 W → W.cell? ⟨g, k * 2, none⟩ = some (.int .u8 (lo : Nat)))
    (c1 : ∀ W, Below w0.heap.size w0 W → W.cell? ⟨g, k * 2 + 1, none⟩ = some (.int .u8 (hi : Nat)))
    (x : Act) (w : World) (hB : Below w0.heap.size w0 w) (hdef : x.defers = df) (u3 : x.tmps.getD 3 undef = .slice (some ⟨g, 0, none⟩) n C) (u4 : x.tmps.getD 4 undef = V) (u6 : x.tmps.getD 6 undef = .int .i64 (k : Nat))
    : wpOpIn Fc nC Tryd.prog swh13_ops Q 1 (fun a' w' => ∃ v, a' = x.put (some 57) v ∧ (v = .slice (some ⟨g, 0, none⟩) n C) ∧ Below w.heap.size w w') x w := by
  have ho : swh13_ops[1]? = some swh13_o1 := rfl
  simp only [Array.getD_eq_getD_getElem?] at u3 u4 u6
  refine wpOpIn_plain ho rfl (oper_inK hF.fn (fun K hK => ?_))
  clear ho
  rw [Oper.semAt_plain Fc _ _ (by intro c h; cases h)]
  simp only [swh13_o1]
  go_simp
  exact hK _ _ ⟨_, act_putD x hdef _ _, rfl, Below.refl _ _⟩
set_option maxRecDepth 100000 in
set_option maxHeartbeats 2000000 in
theorem swh13_s2 {Fc : Fence} (hF : Wide Fc) {nC : Nat} (g n C k lo hi : Nat) (V : Value) (Q : Exit → Act → World → Prop) (df : List Deferred) (w0 : World)
    (hh : Hid (k < n ∧ lo < 256 ∧ hi < 256))
    (c0 : ∀ W, Below w0.heap.size w0 W → W.cell? ⟨g, k * 2, none⟩ = some (.int .u8 (lo : Nat)))
    (c1 : ∀ W, Below w0.heap.size w0 W → W.cell? ⟨g, k * 2 + 1, none⟩ = some (.int .u8 (hi : Nat)))
    (x : Act) (w : World) (hB : Below w0.heap.size w0 w) (hdef : x.defers = df) (u3 : x.tmps.getD 3 undef = .slice (some ⟨g, 0, none⟩) n C) (u4 : x.tmps.getD 4 undef = V) (u6 : x.tmps.getD 6 undef = .int .i64 (k : Nat))
    : wpOpIn Fc nC Tryd.prog swh13_ops Q 2 (fun a' w' => ∃ v, a' = x.put (some 58) v ∧ (v = .int .i64 (k : Nat)) ∧ Below w.heap.size w w') x w := by
  have ho : swh13_ops[2]? = some swh13_o2 := rfl
  simp only [Array.getD_eq_getD_getElem?] at u3 u4 u6
  refine wpOpIn_plain ho rfl (oper_inK hF.fn (fun K hK => ?_))
  clear ho
  rw [Oper.semAt_plain Fc _ _ (by intro c h; cases h)]
  simp only [swh13_o2]
  go_simp
  exact hK _ _ ⟨_, act_putD x hdef _ _, rfl, Below.refl _ _⟩
set_option maxRecDepth 100000 in
set_option maxHeartbeats 2000000 in
theorem swh13_s3 {Fc : Fence} (hF : Wide Fc) {nC : Nat} (g n C k lo hi : Nat) (V : Value) (Q : Exit → Act → World → Prop) (df : List Deferred) (w0 : World)
    (hh : Hid (k < n ∧ lo < 256 ∧ hi < 256))
    (c0 : ∀ W, Below w0.heap.size w0 W → W.cell? ⟨g, k * 2, none⟩ = some (.int .u8 (lo : Nat)))
    (c1 : ∀ W, Below w0.heap.size w0 W → W.cell? ⟨g, k * 2 + 1, none⟩ = some (.int .u8 (hi : Nat)))
    (x : Act) (w : World) (hB : Below w0.heap.size w0 w) (hdef : x.defers = df) (u3 : x.tmps.getD 3 undef = .slice (some ⟨g, 0, none⟩) n C) (u4 : x.tmps.getD 4 undef = V) (u6 : x.tmps.getD 6 undef = .int .i64 (k : Nat))
    (p1 : swh13_val g n C k lo hi V 1 (x.tmps.getD 57 undef) w)
    (p2 : swh13_val g n C k lo hi V 2 (x.tmps.getD 58 undef) w)
    : wpOpIn Fc nC Tryd.prog swh13_ops Q 3 (fun a' w' => ∃ v, a' = x.put (some 59) v ∧ (v = .pointer (some ⟨g, k * 2, none⟩)) ∧ Below w.heap.size w w') x w := by
  have ho : swh13_ops[3]? = some swh13_o3 := rfl
  simp only [Array.getD_eq_getD_getElem?] at u3 u4 u6
  have q1 : x.tmps.getD 57 undef = .slice (some ⟨g, 0, none⟩) n C := p1
  have q2 : x.tmps.getD 58 undef = .int .i64 (k : Nat) := p2
  simp only [Array.getD_eq_getD_getElem?] at q1 q2
  have i0 : (0 : Int) ≤ (k : Int) := by omega
  have i1 : (k : Int) < (n : Int) := by have := hh.out; omega
  refine wpOpIn_plain ho rfl (oper_inK hF.fn (fun K hK => ?_))
  clear ho
  rw [Oper.semAt_plain Fc _ _ (by intro c h; cases h)]
  simp only [swh13_o3]
  go_simp
  exact hK _ _ ⟨_, act_putD x hdef _ _, rfl, Below.refl _ _⟩
set_option maxRecDepth 100000 in
set_option maxHeartbeats 2000000 in
theorem swh13_s4 {Fc : Fence} (hF : Wide Fc) {nC : Nat} (g n C k lo hi : Nat) (V : Value) (Q : Exit → Act → World → Prop) (df : List Deferred) (w0 : World)
    (hh : Hid (k < n ∧ lo < 256 ∧ hi < 256))
    (c0 : ∀ W, Below w0.heap.size w0 W → W.cell? ⟨g, k * 2, none⟩ = some (.int .u8 (lo : Nat)))
    (c1 : ∀ W, Below w0.heap.size w0 W → W.cell? ⟨g, k * 2 + 1, none⟩ = some (.int .u8 (hi : Nat)))
    (x : Act) (w : World) (hB : Below w0.heap.size w0 w) (hdef : x.defers = df) (u3 : x.tmps.getD 3 undef = .slice (some ⟨g, 0, none⟩) n C) (u4 : x.tmps.getD 4 undef = V) (u6 : x.tmps.getD 6 undef = .int .i64 (k : Nat))
    (p3 : swh13_val g n C k lo hi V 3 (x.tmps.getD 59 undef) w)
    : wpOpIn Fc nC Tryd.prog swh13_ops Q 4 (fun a' w' => ∃ v, a' = x.put (some 60) v ∧ (v = .pointer (some ⟨g, k * 2, none⟩)) ∧ Below w.heap.size w w') x w := by
  have ho : swh13_ops[4]? = some swh13_o4 := rfl
  simp only [Array.getD_eq_getD_getElem?] at u3 u4 u6
  have q3 : x.tmps.getD 59 undef = .pointer (some ⟨g, k * 2, none⟩) := p3
  simp only [Array.getD_eq_getD_getElem?] at q3
  refine wpOpIn_plain ho rfl (oper_inK hF.fn (fun K hK => ?_))
  clear ho
  rw [Oper.semAt_plain Fc _ _ (by intro c h; cases h)]
  simp only [swh13_o4]
  go_simp
  exact hK _ _ ⟨_, act_putD x hdef _ _, rfl, Below.refl _ _⟩
set_option maxRecDepth 100000 in
set_option maxHeartbeats 2000000 in
theorem swh13_s5 {Fc : Fence} (hF : Wide Fc) {nC : Nat} (g n C k lo hi : Nat) (V : Value) (Q : Exit → Act → World → Prop) (df : List Deferred) (w0 : World)
    (hh : Hid (k < n ∧ lo < 256 ∧ hi < 256))
    (c0 : ∀ W, Below w0.heap.size w0 W → W.cell? ⟨g, k * 2, none⟩ = some (.int .u8 (lo : Nat)))
    (c1 : ∀ W, Below w0.heap.size w0 W → W.cell? ⟨g, k * 2 + 1, none⟩ = some (.int .u8 (hi : Nat)))
    (x : Act) (w : World) (hB : Below w0.heap.size w0 w) (hdef : x.defers = df) (u3 : x.tmps.getD 3 undef = .slice (some ⟨g, 0, none⟩) n C) (u4 : x.tmps.getD 4 undef = V) (u6 : x.tmps.getD 6 undef = .int .i64 (k : Nat))
    (p4 : swh13_val g n C k lo hi V 4 (x.tmps.getD 60 undef) w)
    : wpOpIn Fc nC Tryd.prog swh13_ops Q 5 (fun a' w' => ∃ v, a' = x.put (some 61) v ∧ (v = .int .u8 (lo : Nat)) ∧ Below w.heap.size w w') x w := by
  have ho : swh13_ops[5]? = some swh13_o5 := rfl
  simp only [Array.getD_eq_getD_getElem?] at u3 u4 u6
  have q4 : x.tmps.getD 60 undef = .pointer (some ⟨g, k * 2, none⟩) := p4
  simp only [Array.getD_eq_getD_getElem?] at q4
  have m := c0 w hB
  refine wpOpIn_plain ho rfl (oper_inK hF.fn (fun K hK => ?_))
  clear ho
  rw [Oper.semAt_plain Fc _ _ (by intro c h; cases h)]
  simp only [swh13_o5]
  go_simp
  exact hK _ _ ⟨_, act_putD x hdef _ _, rfl, Below.refl _ _⟩
set_option maxRecDepth 100000 in
set_option maxHeartbeats 2000000 in
theorem swh13_s6 {Fc : Fence} (hF : Wide Fc) {nC : Nat} (g n C k lo hi : Nat) (V : Value) (Q : Exit → Act → World → Prop) (df : List Deferred) (w0 : World)
    (hh : Hid (k < n ∧ lo < 256 ∧ hi < 256))
    (c0 : ∀ W, Below w0.heap.size w0 W → W.cell? ⟨g, k * 2, none⟩ = some (.int .u8 (lo : Nat)))
    (c1 : ∀ W, Below w0.heap.size w0 W → W.cell? ⟨g, k * 2 + 1, none⟩ = some (.int .u8 (hi : Nat)))
    (x : Act) (w : World) (hB : Below w0.heap.size w0 w) (hdef : x.defers = df) (u3 : x.tmps.getD 3 undef = .slice (some ⟨g, 0, none⟩) n C) (u4 : x.tmps.getD 4 undef = V) (u6 : x.tmps.getD 6 undef = .int .i64 (k : Nat))
    : wpOpIn Fc nC Tryd.prog swh13_ops Q 6 (fun a' w' => ∃ v, a' = x.put (some 62) v ∧ (v = .slice (some ⟨g, 0, none⟩) n C) ∧ Below w.heap.size w w') x w := by
  have ho : swh13_ops[6]? = some swh13_o6 := rfl
  simp only [Array.getD_eq_getD_getElem?] at u3 u4 u6
  refine wpOpIn_plain ho rfl (oper_inK hF.fn (fun K hK => ?_))
  clear ho
  rw [Oper.semAt_plain Fc _ _ (by intro c h; cases h)]
  simp only [swh13_o6]
  go_simp
  exact hK _ _ ⟨_, act_putD x hdef _ _, rfl, Below.refl _ _⟩
set_option maxRecDepth 100000 in
set_option maxHeartbeats 2000000 in
theorem swh13_s7 {Fc : Fence} (hF : Wide Fc) {nC : Nat} (g n C k lo hi : Nat) (V : Value) (Q : Exit → Act → World → Prop) (df : List Deferred) (w0 : World)
    (hh : Hid (k < n ∧ lo < 256 ∧ hi < 256))
    (c0 : ∀ W, Below w0.heap.size w0 W → W.cell? ⟨g, k * 2, none⟩ = some (.int .u8 (lo : Nat)))
    (c1 : ∀ W, Below w0.heap.size w0 W → W.cell? ⟨g, k * 2 + 1, none⟩ = some (.int .u8 (hi : Nat)))
    (x : Act) (w : World) (hB : Below w0.heap.size w0 w) (hdef : x.defers = df) (u3 : x.tmps.getD 3 undef = .slice (some ⟨g, 0, none⟩) n C) (u4 : x.tmps.getD 4 undef = V) (u6 : x.tmps.getD 6 undef = .int .i64 (k : Nat))
    : wpOpIn Fc nC Tryd.prog swh13_ops Q 7 (fun a' w' => ∃ v, a' = x.put (some 63) v ∧ (v = .int .i64 (k : Nat)) ∧ Below w.heap.size w w') x w := by
  have ho : swh13_ops[7]? = some swh13_o7 := rfl
  simp only [Array.getD_eq_getD_getElem?] at u3 u4 u6
  refine wpOpIn_plain ho rfl (oper_inK hF.fn (fun K hK => ?_))
  clear ho
  rw [Oper.semAt_plain Fc _ _ (by intro c h; cases h)]
  simp only [swh13_o7]
  go_simp
  exact hK _ _ ⟨_, act_putD x hdef _ _, rfl, Below.refl _ _⟩
set_option maxRecDepth 100000 in
set_option maxHeartbeats 2000000 in
theorem swh13_s8 {Fc : Fence} (hF : Wide Fc) {nC : Nat} (g n C k lo hi : Nat) (V : Value) (Q : Exit → Act → World → Prop) (df : List Deferred) (w0 : World)
    (hh : Hid (k < n ∧ lo < 256 ∧ hi < 256))
    (c0 : ∀ W, Below w0.heap.size w0 W → W.cell? ⟨g, k * 2, none⟩ = some (.int .u8 (lo : Nat)))
    (c1 : ∀ W, Below w0.heap.size w0 W → W.cell? ⟨g, k * 2 + 1, none⟩ = some (.int .u8 (hi : Nat)))
    (x : Act) (w : World) (hB : Below w0.heap.size w0 w) (hdef : x.defers = df) (u3 : x.tmps.getD 3 undef = .slice (some ⟨g, 0, none⟩) n C) (u4 : x.tmps.getD 4 undef = V) (u6 : x.tmps.getD 6 undef = .int .i64 (k : Nat))
    (p6 : swh13_val g n C k lo hi V 6 (x.tmps.getD 62 undef) w)
    (p7 : swh13_val g n C k lo hi V 7 (x.tmps.getD 63 undef) w)
    : wpOpIn Fc nC Tryd.prog swh13_ops Q 8 (fun a' w' => ∃ v, a' = x.put (some 64) v ∧ (v = .pointer (some ⟨g, k * 2, none⟩)) ∧ Below w.heap.size w w') x w := by
  have ho : swh13_ops[8]? = some swh13_o8 := rfl
  simp only [Array.getD_eq_getD_getElem?] at u3 u4 u6
  have q6 : x.tmps.getD 62 undef = .slice (some ⟨g, 0, none⟩) n C := p6
  have q7 : x.tmps.getD 63 undef = .int .i64 (k : Nat) := p7
  simp only [Array.getD_eq_getD_getElem?] at q6 q7
  have i0 : (0 : Int) ≤ (k : Int) := by omega
  have i1 : (k : Int) < (n : Int) := by have := hh.out; omega
  refine wpOpIn_plain ho rfl (oper_inK hF.fn (fun K hK => ?_))
  clear ho
  rw [Oper.semAt_plain Fc _ _ (by intro c h; cases h)]
  simp only [swh13_o8]
  go_simp
  exact hK _ _ ⟨_, act_putD x hdef _ _, rfl, Below.refl _ _⟩
set_option maxRecDepth 100000 in
set_option maxHeartbeats 2000000 in
theorem swh13_s9 {Fc : Fence} (hF : Wide Fc) {nC : Nat} (g n C k lo hi : Nat) (V : Value) (Q : Exit → Act → World → Prop) (df : List Deferred) (w0 : World)
    (hh : Hid (k < n ∧ lo < 256 ∧ hi < 256))
    (c0 : ∀ W, Below w0.heap.size w0 W → W.cell? ⟨g, k * 2, none⟩ = some (.int .u8 (lo : Nat)))
    (c1 : ∀ W, Below w0.heap.size w0 W → W.cell? ⟨g, k * 2 + 1, none⟩ = some (.int .u8 (hi : Nat)))
    (x : Act) (w : World) (hB : Below w0.heap.size w0 w) (hdef : x.defers = df) (u3 : x.tmps.getD 3 undef = .slice (some ⟨g, 0, none⟩) n C) (u4 : x.tmps.getD 4 undef = V) (u6 : x.tmps.getD 6 undef = .int .i64 (k : Nat))
    (p8 : swh13_val g n C k lo hi V 8 (x.tmps.getD 64 undef) w)
    : wpOpIn Fc nC Tryd.prog swh13_ops Q 9 (fun a' w' => ∃ v, a' = x.put (some 65) v ∧ (v = .pointer (some ⟨g, k * 2 + 1, none⟩)) ∧ Below w.heap.size w w') x w := by
  have ho : swh13_ops[9]? = some swh13_o9 := rfl
  simp only [Array.getD_eq_getD_getElem?] at u3 u4 u6
  have q8 : x.tmps.getD 64 undef = .pointer (some ⟨g, k * 2, none⟩) := p8
  simp only [Array.getD_eq_getD_getElem?] at q8
  refine wpOpIn_plain ho rfl (oper_inK hF.fn (fun K hK => ?_))
  clear ho
  rw [Oper.semAt_plain Fc _ _ (by intro c h; cases h)]
  simp only [swh13_o9]
  go_simp
  exact hK _ _ ⟨_, act_putD x hdef _ _, rfl, Below.refl _ _⟩
set_option maxRecDepth 100000 in
set_option maxHeartbeats 2000000 in
theorem swh13_s10 {Fc : Fence} (hF : Wide Fc) {nC : Nat} (g n C k lo hi : Nat) (V : Value) (Q : Exit → Act → World → Prop) (df : List Deferred) (w0 : World)
    (hh : Hid (k < n ∧ lo < 256 ∧ hi < 256))
    (c0 : ∀ W, Below w0.heap.size w0 W → W.cell? ⟨g, k * 2, none⟩ = some (.int .u8 (lo : Nat)))
    (c1 : ∀ W, Below w0.heap.size w0 W → W.cell? ⟨g, k * 2 + 1, none⟩ = some (.int .u8 (hi : Nat)))
    (x : Act) (w : World) (hB : Below w0.heap.size w0 w) (hdef : x.defers = df) (u3 : x.tmps.getD 3 undef = .slice (some ⟨g, 0, none⟩) n C) (u4 : x.tmps.getD 4 undef = V) (u6 : x.tmps.getD 6 undef = .int .i64 (k : Nat))
    (p9 : swh13_val g n C k lo hi V 9 (x.tmps.getD 65 undef) w)
    : wpOpIn Fc nC Tryd.prog swh13_ops Q 10 (fun a' w' => ∃ v, a' = x.put (some 66) v ∧ (v = .int .u8 (hi : Nat)) ∧ Below w.heap.size w w') x w := by
  have ho : swh13_ops[10]? = some swh13_o10 := rfl
  simp only [Array.getD_eq_getD_getElem?] at u3 u4 u6
  have q9 : x.tmps.getD 65 undef = .pointer (some ⟨g, k * 2 + 1, none⟩) := p9
  simp only [Array.getD_eq_getD_getElem?] at q9
  have m := c1 w hB
  refine wpOpIn_plain ho rfl (oper_inK hF.fn (fun K hK => ?_))
  clear ho
  rw [Oper.semAt_plain Fc _ _ (by intro c h; cases h)]
  simp only [swh13_o10]
  go_simp
  exact hK _ _ ⟨_, act_putD x hdef _ _, rfl, Below.refl _ _⟩
set_option maxRecDepth 100000 in
set_option maxHeartbeats 2000000 in
theorem swh13_s11 {Fc : Fence} (hF : Wide Fc) {nC : Nat} (g n C k lo hi : Nat) (V : Value) (Q : Exit → Act → World → Prop) (df : List Deferred) (w0 : World)
    (hh : Hid (k < n ∧ lo < 256 ∧ hi < 256))
    (c0 : ∀ W, Below w0.heap.size w0 W → W.cell? ⟨g, k * 2, none⟩ = some (.int .u8 (lo : Nat)))
    (c1 : ∀ W, Below w0.heap.size w0 W → W.cell? ⟨g, k * 2 + 1, none⟩ = some (.int .u8 (hi : Nat)))
    (x : Act) (w : World) (hB : Below w0.heap.size w0 w) (hdef : x.defers = df) (u3 : x.tmps.getD 3 undef = .slice (some ⟨g, 0, none⟩) n C) (u4 : x.tmps.getD 4 undef = V) (u6 : x.tmps.getD 6 undef = .int .i64 (k : Nat))
    (p5 : swh13_val g n C k lo hi V 5 (x.tmps.getD 61 undef) w)
    (p10 : swh13_val g n C k lo hi V 10 (x.tmps.getD 66 undef) w)
    : wpOpIn Fc nC Tryd.prog swh13_ops Q 11 (fun a' w' => ∃ v, a' = x.put (some 67) v ∧ (v = sv (rng lo hi)) ∧ Below w.heap.size w w') x w := by
  have ho : swh13_ops[11]? = some swh13_o11 := rfl
  simp only [Array.getD_eq_getD_getElem?] at u3 u4 u6
  have q5 : x.tmps.getD 61 undef = .int .u8 (lo : Nat) := p5
  have q10 : x.tmps.getD 66 undef = .int .u8 (hi : Nat) := p10
  simp only [Array.getD_eq_getD_getElem?] at q5 q10
  refine wpOpIn_plain ho rfl (oper_inK hF.fn (fun K hK => ?_))
  clear ho
  rw [Oper.semAt_plain Fc _ _ (by intro c h; cases h)]
  simp only [swh13_o11]
  go_simp
  refine ⟨hF.deep, (hF.call (range_any lo hi w hh.out.2.1 hh.out.2.2)).mono ?_⟩
  rintro e w' ⟨rfl, hb⟩
  exact hK _ _ ⟨_, act_putD x hdef _ _, rfl, hb⟩
set_option maxRecDepth 100000 in
set_option maxHeartbeats 2000000 in
theorem swh13_s12 {Fc : Fence} (hF : Wide Fc) {nC : Nat} (g n C k lo hi : Nat) (V : Value) (Q : Exit → Act → World → Prop) (df : List Deferred) (w0 : World)
    (hh : Hid (k < n ∧ lo < 256 ∧ hi < 256))
    (c0 : ∀ W, Below w0.heap.size w0 W → W.cell? ⟨g, k * 2, none⟩ = some (.int .u8 (lo : Nat)))
    (c1 : ∀ W, Below w0.heap.size w0 W → W.cell? ⟨g, k * 2 + 1, none⟩ = some (.int .u8 (hi : Nat)))
    (x : Act) (w : World) (hB : Below w0.heap.size w0 w) (hdef : x.defers = df) (u3 : x.tmps.getD 3 undef = .slice (some ⟨g, 0, none⟩) n C) (u4 : x.tmps.getD 4 undef = V) (u6 : x.tmps.getD 6 undef = .int .i64 (k : Nat))
    (p11 : swh13_val g n C k lo hi V 11 (x.tmps.getD 67 undef) w)
    : wpOpIn Fc nC Tryd.prog swh13_ops Q 12 (fun a' w' => ∃ v, a' = x.put (some 68) v ∧ (∃ g, v = .slice (some ⟨g, 0, none⟩) 1 1 ∧ SBox w' g (rng lo hi)) ∧ Below w.heap.size w w') x w := by
  have ho : swh13_ops[12]? = some swh13_o12 := rfl
  simp only [Array.getD_eq_getD_getElem?] at u3 u4 u6
  have q11 : x.tmps.getD 67 undef = sv (rng lo hi) := p11
  simp only [Array.getD_eq_getD_getElem?] at q11
  simp only [sv, st, sc] at q11
  refine wpOpIn_plain ho rfl (oper_inK hF.fn (fun K hK => ?_))
  clear ho
  rw [Oper.semAt_plain Fc _ _ (by intro c h; cases h)]
  simp only [swh13_o12]
  go_simp
  exact hK _ _ ⟨_, act_putD x hdef _ _, ⟨_, rfl, SBox.new w w.heap.size (rng lo hi) rfl⟩, below_alloc _ _⟩

set_option maxRecDepth 100000 in
set_option maxHeartbeats 4000000 in
theorem swh13 {Fc : Fence} (hF : Wide Fc) {nC : Nat} (g n C k lo hi : Nat) (V : Value) (Q : Exit → Act → World → Prop) (t0 : Array Value) (df : List Deferred) (w0 : World) (ht : t0.size = 94)
    (hs3 : t0.getD 3 undef = .slice (some ⟨g, 0, none⟩) n C) (hs4 : t0.getD 4 undef = V) (hs6 : t0.getD 6 undef = .int .i64 (k : Nat))
    (hh : Hid (k < n ∧ lo < 256 ∧ hi < 256))
    (c0 : ∀ W, Below w0.heap.size w0 W → W.cell? ⟨g, k * 2, none⟩ = some (.int .u8 (lo : Nat)))
    (c1 : ∀ W, Below w0.heap.size w0 W → W.cell? ⟨g, k * 2 + 1, none⟩ = some (.int .u8 (hi : Nat)))
    (hQ : ∀ (vs : Nat → Value) (w : World), Below w0.heap.size w0 w → (vs 56 = V) → (∃ g, (vs 68) = .slice (some ⟨g, 0, none⟩) 1 1 ∧ SBox w g (rng lo hi)) → wpOpIn Fc nC Tryd.prog swh13_ops Q 13 (fun a' w' => wpOpIn Fc nC Tryd.prog swh13_ops Q 14 (Q .normal) a' w') { tmps := [56, 57, 58, 59, 60, 61, 62, 63, 64, 65, 66, 67, 68].foldl (fun y d => y.setIfInBounds d (vs d)) t0, defers := df } w) :
    (Code.region 13 swh13_ops true).wpIn Fc nC Tryd.prog Q { tmps := t0, defers := df } w0 := by
  refine wpIn_region_tail 13 (by decide) (by kernel_rfl) (fun a b => Below a.heap.size a b) (swh13_val g n C k lo hi V) t0 df w0 (by rw [ht]; kernel_rfl) (by kernel_rfl) (by kernel_rfl) (by kernel_rfl) ((Below.refl _ _).drew) (fun _ _ _ h k => h.trans (k.mono h.size)) (swh13_below g n C k lo hi V) ?_ ?_
  · intro j o ho hj x w hB hdef hsz hs hdeps
    have hs' : ∀ s, ¬ swh13_mem s → x.tmps.getD s undef = t0.getD s undef := fun s hn => hs s (fun j hj e => hn (by rw [e]; exact swh13_slots j hj))
    have u3 := (hs' 3 (by decide)).trans hs3
    have u4 := (hs' 4 (by decide)).trans hs4
    have u6 := (hs' 6 (by decide)).trans hs6
    match j, ho, hj with
    | 0, ho, _ =>
      have e : o = swh13_o0 := (Option.some.inj ho).symm
      subst e
      exact swh13_s0 hF g n C k lo hi V Q df w0 hh c0 c1 x w hB hdef u3 u4 u6 
    | 1, ho, _ =>
      have e : o = swh13_o1 := (Option.some.inj ho).symm
      subst e
      exact swh13_s1 hF g n C k lo hi V Q df w0 hh c0 c1 x w hB hdef u3 u4 u6 
    | 2, ho, _ =>
      have e : o = swh13_o2 := (Option.some.inj ho).symm
      subst e
      exact swh13_s2 hF g n C k lo hi V Q df w0 hh c0 c1 x w hB hdef u3 u4 u6 
    | 3, ho, _ =>
      have e : o = swh13_o3 := (Option.some.inj ho).symm
      subst e
      exact swh13_s3 hF g n C k lo hi V Q df w0 hh c0 c1 x w hB hdef u3 u4 u6 (hdeps { on := 1, ground := Ground.data } (by simp) rfl) (hdeps { on := 2, ground := Ground.data } (by simp) rfl)
    | 4, ho, _ =>
      have e : o = swh13_o4 := (Option.some.inj ho).symm
      subst e
      exact swh13_s4 hF g n C k lo hi V Q df w0 hh c0 c1 x w hB hdef u3 u4 u6 (hdeps { on := 3, ground := Ground.data } (by simp) rfl)
    | 5, ho, _ =>
      have e : o = swh13_o5 := (Option.some.inj ho).symm
      subst e
      exact swh13_s5 hF g n C k lo hi V Q df w0 hh c0 c1 x w hB hdef u3 u4 u6 (hdeps { on := 4, ground := Ground.data } (by simp) rfl)
    | 6, ho, _ =>
      have e : o = swh13_o6 := (Option.some.inj ho).symm
      subst e
      exact swh13_s6 hF g n C k lo hi V Q df w0 hh c0 c1 x w hB hdef u3 u4 u6 
    | 7, ho, _ =>
      have e : o = swh13_o7 := (Option.some.inj ho).symm
      subst e
      exact swh13_s7 hF g n C k lo hi V Q df w0 hh c0 c1 x w hB hdef u3 u4 u6 
    | 8, ho, _ =>
      have e : o = swh13_o8 := (Option.some.inj ho).symm
      subst e
      exact swh13_s8 hF g n C k lo hi V Q df w0 hh c0 c1 x w hB hdef u3 u4 u6 (hdeps { on := 6, ground := Ground.data } (by simp) rfl) (hdeps { on := 7, ground := Ground.data } (by simp) rfl)
    | 9, ho, _ =>
      have e : o = swh13_o9 := (Option.some.inj ho).symm
      subst e
      exact swh13_s9 hF g n C k lo hi V Q df w0 hh c0 c1 x w hB hdef u3 u4 u6 (hdeps { on := 8, ground := Ground.data } (by simp) rfl)
    | 10, ho, _ =>
      have e : o = swh13_o10 := (Option.some.inj ho).symm
      subst e
      exact swh13_s10 hF g n C k lo hi V Q df w0 hh c0 c1 x w hB hdef u3 u4 u6 (hdeps { on := 9, ground := Ground.data } (by simp) rfl)
    | 11, ho, _ =>
      have e : o = swh13_o11 := (Option.some.inj ho).symm
      subst e
      exact swh13_s11 hF g n C k lo hi V Q df w0 hh c0 c1 x w hB hdef u3 u4 u6 (hdeps { on := 5, ground := Ground.data } (by simp) rfl) (hdeps { on := 10, ground := Ground.data } (by simp) rfl)
    | 12, ho, _ =>
      have e : o = swh13_o12 := (Option.some.inj ho).symm
      subst e
      exact swh13_s12 hF g n C k lo hi V Q df w0 hh c0 c1 x w hB hdef u3 u4 u6 (hdeps { on := 11, ground := Ground.data } (by simp) rfl)
    | k + 13, _, hj => omega
  · intro x w hB hdef hsz hs hv
    have hx := frame_sets x.tmps t0 hsz [56, 57, 58, 59, 60, 61, 62, 63, 64, 65, 66, 67, 68] (fun s hn => hs s (fun j hj e => hn (by rw [e]; exact swh13_slots j hj)))
    have hq := hQ (fun d => x.tmps.getD d undef) w hB (hv 0 (by decide)) (hv 12 (by decide))
    obtain ⟨T, Df⟩ := x
    dsimp only at hx hdef hq
    subst hdef
    rw [← hx] at hq
    exact hq
abbrev swh14_o0 : Oper := { dst := some 70, op := Op.move (Operand.tmp 4), type := 31, pos := "outright.go:45", after := #[], guard := none }
abbrev swh14_o1 : Oper := { dst := some 71, op := Op.call { callee := Callee.value (Operand.func 17), args := #[Operand.tmp 70], argTypes := #[31] }, type := 24, pos := "outright.go:45", after := #[{ on := 0, ground := Ground.data }], guard := none }
abbrev swh14_o2 : Oper := { dst := some 72, op := Op.load 24 (Operand.tmp 1), type := 24, pos := "outright.go:45", after := #[], guard := none }
abbrev swh14_o3 : Oper := { dst := some 73, op := Op.binOp BinOp.eql 24 (Operand.tmp 71) (Operand.tmp 72) 24, type := 4, pos := "outright.go:45", after := #[{ on := 1, ground := Ground.data }, { on := 2, ground := Ground.data }], guard := none }
abbrev swh14_o4 : Oper := { dst := some 74, op := Op.move (Operand.tmp 73), type := 4, pos := "outright.go:45", after := #[{ on := 3, ground := Ground.data }, { on := 1, ground := Ground.chain }], guard := none }
abbrev swh14_o5 : Oper := { dst := some 75, op := Op.load 24 (Operand.tmp 1), type := 24, pos := "outright.go:45", after := #[{ on := 4, ground := Ground.guard }], guard := some (4, true) }
abbrev swh14_o6 : Oper := { dst := some 76, op := Op.call { callee := Callee.value (Operand.func 8), args := #[Operand.tmp 75], argTypes := #[24] }, type := 25, pos := "outright.go:45", after := #[{ on := 5, ground := Ground.data }, { on := 4, ground := Ground.chain }, { on := 4, ground := Ground.guard }], guard := some (4, true) }
abbrev swh14_o7 : Oper := { dst := some 77, op := Op.call { callee := Callee.value (Operand.func 13), args := #[Operand.tmp 76], argTypes := #[25] }, type := 24, pos := "outright.go:45", after := #[{ on := 6, ground := Ground.data }, { on := 6, ground := Ground.chain }, { on := 4, ground := Ground.guard }], guard := some (4, true) }
abbrev swh14_o8 : Oper := { dst := some 78, op := Op.load 24 (Operand.tmp 1), type := 24, pos := "outright.go:45", after := #[{ on := 4, ground := Ground.guard }], guard := some (4, true) }
abbrev swh14_o9 : Oper := { dst := some 79, op := Op.binOp BinOp.eql 24 (Operand.tmp 77) (Operand.tmp 78) 24, type := 4, pos := "outright.go:45", after := #[{ on := 7, ground := Ground.data }, { on := 8, ground := Ground.data }, { on := 4, ground := Ground.guard }], guard := some (4, true) }
abbrev swh14_o10 : Oper := { dst := some 80, op := Op.pick (Operand.tmp 74) (Operand.tmp 79) (Operand.const (Value.bool false)), type := 4, pos := "outright.go:45", after := #[{ on := 4, ground := Ground.data }, { on := 9, ground := Ground.data }], guard := none }
abbrev swh14_o11 : Oper := { dst := some 81, op := Op.move (Operand.tmp 80), type := 4, pos := "outright.go:45", after := #[{ on := 10, ground := Ground.data }, { on := 7, ground := Ground.chain }], guard := none }
abbrev swh14_o12 : Oper := { dst := some 82, op := Op.move (Operand.tmp 5), type := 3, pos := "outright.go:45", after := #[{ on := 11, ground := Ground.guard }], guard := some (11, true) }
abbrev swh14_o13 : Oper := { dst := some 83, op := Op.load 24 (Operand.tmp 1), type := 24, pos := "outright.go:45", after := #[{ on := 11, ground := Ground.guard }], guard := some (11, true) }
abbrev swh14_o14 : Oper := { dst := some 84, op := Op.call { callee := Callee.value (Operand.func 25), args := #[Operand.tmp 83], argTypes := #[24] }, type := 3, pos := "outright.go:45", after := #[{ on := 13, ground := Ground.data }, { on := 11, ground := Ground.chain }, { on := 11, ground := Ground.guard }], guard := some (11, true) }
abbrev swh14_o15 : Oper := { dst := some 85, op := Op.binOp BinOp.eql 3 (Operand.tmp 82) (Operand.tmp 84) 3, type := 4, pos := "outright.go:45", after := #[{ on := 12, ground := Ground.data }, { on := 14, ground := Ground.data }, { on := 11, ground := Ground.guard }], guard := some (11, true) }
abbrev swh14_o16 : Oper := { dst := some 86, op := Op.pick (Operand.tmp 81) (Operand.tmp 85) (Operand.const (Value.bool false)), type := 4, pos := "outright.go:45", after := #[{ on := 11, ground := Ground.data }, { on := 15, ground := Ground.data }], guard := none }
abbrev swh14_o17 : Oper := { dst := some 87, op := Op.move (Operand.tmp 86), type := 4, pos := "outright.go:45", after := #[{ on := 16, ground := Ground.data }, { on := 14, ground := Ground.chain }], guard := none }
abbrev swh14_o18 : Oper := { dst := some 88, op := Op.load 24 (Operand.tmp 1), type := 24, pos := "outright.go:45", after := #[{ on := 17, ground := Ground.guard }], guard := some (17, true) }
abbrev swh14_o19 : Oper := { dst := some 89, op := Op.call { callee := Callee.value (Operand.func 8), args := #[Operand.tmp 88], argTypes := #[24] }, type := 25, pos := "outright.go:45", after := #[{ on := 18, ground := Ground.data }, { on := 17, ground := Ground.chain }, { on := 17, ground := Ground.guard }], guard := some (17, true) }
abbrev swh14_o20 : Oper := { dst := some 90, op := Op.call { callee := Callee.builtin Builtin.len, args := #[Operand.tmp 89], argTypes := #[25] }, type := 3, pos := "outright.go:45", after := #[{ on := 19, ground := Ground.data }, { on := 17, ground := Ground.guard }], guard := some (17, true) }
abbrev swh14_o21 : Oper := { dst := some 91, op := Op.move (Operand.tmp 5), type := 3, pos := "outright.go:45", after := #[{ on := 17, ground := Ground.guard }], guard := some (17, true) }
abbrev swh14_o22 : Oper := { dst := some 92, op := Op.binOp BinOp.eql 3 (Operand.tmp 90) (Operand.tmp 91) 3, type := 4, pos := "outright.go:45", after := #[{ on := 20, ground := Ground.data }, { on := 21, ground := Ground.data }, { on := 17, ground := Ground.guard }], guard := some (17, true) }
abbrev swh14_o23 : Oper := { dst := some 93, op := Op.pick (Operand.tmp 87) (Operand.tmp 92) (Operand.const (Value.bool false)), type := 4, pos := "outright.go:45", after := #[{ on := 17, ground := Ground.data }, { on := 22, ground := Ground.data }], guard := none }
abbrev swh14_o24 : Oper := { dst := some 2, op := Op.assign (Operand.tmp 93), type := 4, pos := "outright.go:45", after := #[{ on := 23, ground := Ground.data }, { on := 19, ground := Ground.chain }, { on := 0, ground := Ground.phase }, { on := 1, ground := Ground.phase }, { on := 2, ground := Ground.phase }, { on := 3, ground := Ground.phase }, { on := 4, ground := Ground.phase }, { on := 5, ground := Ground.phase }, { on := 6, ground := Ground.phase }, { on := 7, ground := Ground.phase }, { on := 8, ground := Ground.phase }, { on := 9, ground := Ground.phase }, { on := 10, ground := Ground.phase }, { on := 11, ground := Ground.phase }, { on := 12, ground := Ground.phase }, { on := 13, ground := Ground.phase }, { on := 14, ground := Ground.phase }, { on := 15, ground := Ground.phase }, { on := 16, ground := Ground.phase }, { on := 17, ground := Ground.phase }, { on := 18, ground := Ground.phase }, { on := 19, ground := Ground.phase }, { on := 20, ground := Ground.phase }, { on := 21, ground := Ground.phase }, { on := 22, ground := Ground.phase }, { on := 23, ground := Ground.phase }], guard := none }
def swh14_ops : Array Oper := #[swh14_o0, swh14_o1, swh14_o2, swh14_o3, swh14_o4, swh14_o5, swh14_o6, swh14_o7, swh14_o8, swh14_o9, swh14_o10, swh14_o11, swh14_o12, swh14_o13, swh14_o14, swh14_o15, swh14_o16, swh14_o17, swh14_o18, swh14_o19, swh14_o20, swh14_o21, swh14_o22, swh14_o23, swh14_o24]
abbrev swh14_mem (s : Nat) : Prop := s ∈ [70, 71, 72, 73, 74, 75, 76, 77, 78, 79, 80, 81, 82, 83, 84, 85, 86, 87, 88, 89, 90, 91, 92, 93, 2]
set_option maxRecDepth 100000 in
theorem swh14_slots : ∀ j, j < 25 → swh14_mem (slotOf swh14_ops j) := by
  intro j hj
  match j, hj with
  | 0, _ => exact (by decide : swh14_mem 70)
  | 1, _ => exact (by decide : swh14_mem 71)
  | 2, _ => exact (by decide : swh14_mem 72)
  | 3, _ => exact (by decide : swh14_mem 73)
  | 4, _ => exact (by decide : swh14_mem 74)
  | 5, _ => exact (by decide : swh14_mem 75)
  | 6, _ => exact (by decide : swh14_mem 76)
  | 7, _ => exact (by decide : swh14_mem 77)
  | 8, _ => exact (by decide : swh14_mem 78)
  | 9, _ => exact (by decide : swh14_mem 79)
  | 10, _ => exact (by decide : swh14_mem 80)
  | 11, _ => exact (by decide : swh14_mem 81)
  | 12, _ => exact (by decide : swh14_mem 82)
  | 13, _ => exact (by decide : swh14_mem 83)
  | 14, _ => exact (by decide : swh14_mem 84)
  | 15, _ => exact (by decide : swh14_mem 85)
  | 16, _ => exact (by decide : swh14_mem 86)
  | 17, _ => exact (by decide : swh14_mem 87)
  | 18, _ => exact (by decide : swh14_mem 88)
  | 19, _ => exact (by decide : swh14_mem 89)
  | 20, _ => exact (by decide : swh14_mem 90)
  | 21, _ => exact (by decide : swh14_mem 91)
  | 22, _ => exact (by decide : swh14_mem 92)
  | 23, _ => exact (by decide : swh14_mem 93)
  | 24, _ => exact (by decide : swh14_mem 2)
  | k + 25, hj => omega
def swh14_val (AA : Option Addr) (m CA b1 : Nat) (F : Nat → Nat → Bool) (H G : Nat → Bool) : Nat → Value → World → Prop
  | 0, v, w => v = .slice AA m CA
  | 1, v, w => v = sv (anyS F m)
  | 2, v, w => v = sv H
  | 3, v, w => v = .bool true
  | 4, v, w => v = .bool true
  | 5, v, w => v = sv H
  | 6, v, w => ∃ A C, v = .slice A (bl H 256).length C ∧ w.ownsRow 0 5 1 (.slice A (bl H 256).length C) (bl H 256).length (lc (bl H 256))
  | 7, v, w => v = sv G
  | 8, v, w => v = sv H
  | 9, v, w => v = .bool true
  | 10, v, w => v = .bool true
  | 11, v, w => v = .bool true
  | 12, v, w => v = .int .i64 ((bl H 256).length : Nat)
  | 13, v, w => v = sv H
  | 14, v, w => v = .int .i64 ((bl H 256).length : Nat)
  | 15, v, w => v = .bool true
  | 16, v, w => v = .bool true
  | 17, v, w => v = .bool true
  | 18, v, w => v = sv H
  | 19, v, w => ∃ A C, v = .slice A (bl H 256).length C ∧ w.ownsRow 0 5 1 (.slice A (bl H 256).length C) (bl H 256).length (lc (bl H 256))
  | 20, v, w => v = .int .i64 ((bl H 256).length : Nat)
  | 21, v, w => v = .int .i64 ((bl H 256).length : Nat)
  | 22, v, w => v = .bool true
  | 23, v, w => v = .bool true
  | 24, v, w => v = .bool true
  | _, _, _ => True
theorem swh14_below (AA : Option Addr) (m CA b1 : Nat) (F : Nat → Nat → Bool) (H G : Nat → Bool) (w w' : World) (hb : Below w.heap.size w w') : ∀ j v, swh14_val AA m CA b1 F H G j v w → swh14_val AA m CA b1 F H G j v w' := by
  intro j v h
  match j, h with
  | 0, h => exact h
  | 1, h => exact h
  | 2, h => exact h
  | 3, h => exact h
  | 4, h => exact h
  | 5, h => exact h
  | 6, h => obtain ⟨A, C, h1, h2⟩ := h; exact ⟨A, C, h1, owns_thruS h2 hb⟩
  | 7, h => exact h
  | 8, h => exact h
  | 9, h => exact h
  | 10, h => exact h
  | 11, h => exact h
  | 12, h => exact h
  | 13, h => exact h
  | 14, h => exact h
  | 15, h => exact h
  | 16, h => exact h
  | 17, h => exact h
  | 18, h => exact h
  | 19, h => obtain ⟨A, C, h1, h2⟩ := h; exact ⟨A, C, h1, owns_thruS h2 hb⟩
  | 20, h => exact h
  | 21, h => exact h
  | 22, h => exact h
  | 23, h => exact h
  | 24, h => exact h
  | _ + 25, h => exact h
set_option maxRecDepth 100000 in
set_option maxHeartbeats 2000000 in
theorem swh14_s0 {Fc : Fence} (hF : Wide Fc) {nC : Nat} (AA : Option Addr) (m CA b1 : Nat) (F : Nat → Nat → Bool) (H G : Nat → Bool) (Q : Exit → Act → World → Prop) (df : List Deferred) (w0 : World)
    (hS : SBox w0 b1 H) (hA : Sets w0 AA m F) (hm : Hid (m ≤ 1000)) (hU : ∀ b, b < 256 → anyS F m b = H b) (hT : Tab w0) (hGe : Hid (inz (fun i => (bl H 256).getD i 0) (bl H 256).length = G))
    (x : Act) (w : World) (hB : Below w0.heap.size w0 w) (hdef : x.defers = df) (u1 : x.tmps.getD 1 undef = .pointer (some ⟨b1, 0, none⟩)) (u4 : x.tmps.getD 4 undef = .slice AA m CA) (u5 : x.tmps.getD 5 undef = .int .i64 ((bl H 256).length : Nat))
    : wpOpIn Fc nC Tryd.prog swh14_ops Q 0 (fun a' w' => ∃ v, a' = x.put (some 70) v ∧ (v = .slice AA m CA) ∧ Below w.heap.size w w') x w := by
  have ho : swh14_ops[0]? = some swh14_o0 := rfl
  simp only [Array.getD_eq_getD_getElem?] at u1 u4 u5
  refine wpOpIn_plain ho rfl (oper_inK hF.fn (fun K hK => ?_))
  clear ho
  rw [Oper.semAt_plain Fc _ _ (by intro c h; cases h)]
  simp only [swh14_o0]
  go_simp
  exact hK _ _ ⟨_, act_putD x hdef _ _, rfl, Below.refl _ _⟩
set_option maxRecDepth 100000 in
set_option maxHeartbeats 2000000 in
theorem swh14_s1 {Fc : Fence} (hF : Wide Fc) {nC : Nat} (AA : Option Addr) (m CA b1 : Nat) (F : Nat → Nat → Bool) (H G : Nat → Bool) (Q : Exit → Act → World → Prop) (df : List Deferred) (w0 : World)
    (hS : SBox w0 b1 H) (hA : Sets w0 AA m F) (hm : Hid (m ≤ 1000)) (hU : ∀ b, b < 256 → anyS F m b = H b) (hT : Tab w0) (hGe : Hid (inz (fun i => (bl H 256).getD i 0) (bl H 256).length = G))
    (x : Act) (w : World) (hB : Below w0.heap.size w0 w) (hdef : x.defers = df) (u1 : x.tmps.getD 1 undef = .pointer (some ⟨b1, 0, none⟩)) (u4 : x.tmps.getD 4 undef = .slice AA m CA) (u5 : x.tmps.getD 5 undef = .int .i64 ((bl H 256).length : Nat))
    (p0 : swh14_val AA m CA b1 F H G 0 (x.tmps.getD 70 undef) w)
    : wpOpIn Fc nC Tryd.prog swh14_ops Q 1 (fun a' w' => ∃ v, a' = x.put (some 71) v ∧ (v = sv (anyS F m)) ∧ Below w.heap.size w w') x w := by
  have ho : swh14_ops[1]? = some swh14_o1 := rfl
  simp only [Array.getD_eq_getD_getElem?] at u1 u4 u5
  have q0 : x.tmps.getD 70 undef = .slice AA m CA := p0
  simp only [Array.getD_eq_getD_getElem?] at q0
  refine wpOpIn_plain ho rfl (oper_inK hF.fn (fun K hK => ?_))
  clear ho
  rw [Oper.semAt_plain Fc _ _ (by intro c h; cases h)]
  simp only [swh14_o1]
  go_simp
  refine ⟨hF.deep, (hF.call (union_any _ m CA F w (by have := hm.out; omega) (hA.below hB))).mono ?_⟩
  rintro e w' ⟨rfl, hb⟩
  exact hK _ _ ⟨_, act_putD x hdef _ _, rfl, hb⟩
set_option maxRecDepth 100000 in
set_option maxHeartbeats 2000000 in
theorem swh14_s2 {Fc : Fence} (hF : Wide Fc) {nC : Nat} (AA : Option Addr) (m CA b1 : Nat) (F : Nat → Nat → Bool) (H G : Nat → Bool) (Q : Exit → Act → World → Prop) (df : List Deferred) (w0 : World)
    (hS : SBox w0 b1 H) (hA : Sets w0 AA m F) (hm : Hid (m ≤ 1000)) (hU : ∀ b, b < 256 → anyS F m b = H b) (hT : Tab w0) (hGe : Hid (inz (fun i => (bl H 256).getD i 0) (bl H 256).length = G))
    (x : Act) (w : World) (hB : Below w0.heap.size w0 w) (hdef : x.defers = df) (u1 : x.tmps.getD 1 undef = .pointer (some ⟨b1, 0, none⟩)) (u4 : x.tmps.getD 4 undef = .slice AA m CA) (u5 : x.tmps.getD 5 undef = .int .i64 ((bl H 256).length : Nat))
    : wpOpIn Fc nC Tryd.prog swh14_ops Q 2 (fun a' w' => ∃ v, a' = x.put (some 72) v ∧ (v = sv H) ∧ Below w.heap.size w w') x w := by
  have ho : swh14_ops[2]? = some swh14_o2 := rfl
  simp only [Array.getD_eq_getD_getElem?] at u1 u4 u5
  have hsb := hS.below hB hS.lt
  have c0 := hsb.cell 0 (by omega)
  have c1 := hsb.cell 1 (by omega)
  have c2 := hsb.cell 2 (by omega)
  have c3 := hsb.cell 3 (by omega)
  refine wpOpIn_plain ho rfl (oper_inK hF.fn (fun K hK => ?_))
  clear ho
  rw [Oper.semAt_plain Fc _ _ (by intro c h; cases h)]
  simp only [swh14_o2]
  go_simp
  exact hK _ _ ⟨_, act_putD x hdef _ _, rfl, Below.refl _ _⟩
set_option maxRecDepth 100000 in
set_option maxHeartbeats 2000000 in
theorem swh14_s3 {Fc : Fence} (hF : Wide Fc) {nC : Nat} (AA : Option Addr) (m CA b1 : Nat) (F : Nat → Nat → Bool) (H G : Nat → Bool) (Q : Exit → Act → World → Prop) (df : List Deferred) (w0 : World)
    (hS : SBox w0 b1 H) (hA : Sets w0 AA m F) (hm : Hid (m ≤ 1000)) (hU : ∀ b, b < 256 → anyS F m b = H b) (hT : Tab w0) (hGe : Hid (inz (fun i => (bl H 256).getD i 0) (bl H 256).length = G))
    (x : Act) (w : World) (hB : Below w0.heap.size w0 w) (hdef : x.defers = df) (u1 : x.tmps.getD 1 undef = .pointer (some ⟨b1, 0, none⟩)) (u4 : x.tmps.getD 4 undef = .slice AA m CA) (u5 : x.tmps.getD 5 undef = .int .i64 ((bl H 256).length : Nat))
    (p1 : swh14_val AA m CA b1 F H G 1 (x.tmps.getD 71 undef) w)
    (p2 : swh14_val AA m CA b1 F H G 2 (x.tmps.getD 72 undef) w)
    : wpOpIn Fc nC Tryd.prog swh14_ops Q 3 (fun a' w' => ∃ v, a' = x.put (some 73) v ∧ (v = .bool true) ∧ Below w.heap.size w w') x w := by
  have ho : swh14_ops[3]? = some swh14_o3 := rfl
  simp only [Array.getD_eq_getD_getElem?] at u1 u4 u5
  have q1 : x.tmps.getD 71 undef = sv (anyS F m) := p1
  have q2 : x.tmps.getD 72 undef = sv H := p2
  simp only [Array.getD_eq_getD_getElem?] at q1 q2
  simp only [sv, st, sc] at q1 q2
  have he := fun W => eqSt (anyS F m) H W true ⟨fun _ => hU, fun _ => rfl⟩
  simp only [st, sc] at he
  refine wpOpIn_plain ho rfl (oper_inK hF.fn (fun K hK => ?_))
  clear ho
  rw [Oper.semAt_plain Fc _ _ (by intro c h; cases h)]
  simp only [swh14_o3]
  go_simp
  exact hK _ _ ⟨_, act_putD x hdef _ _, rfl, Below.refl _ _⟩
set_option maxRecDepth 100000 in
set_option maxHeartbeats 2000000 in
theorem swh14_s4 {Fc : Fence} (hF : Wide Fc) {nC : Nat} (AA : Option Addr) (m CA b1 : Nat) (F : Nat → Nat → Bool) (H G : Nat → Bool) (Q : Exit → Act → World → Prop) (df : List Deferred) (w0 : World)
    (hS : SBox w0 b1 H) (hA : Sets w0 AA m F) (hm : Hid (m ≤ 1000)) (hU : ∀ b, b < 256 → anyS F m b = H b) (hT : Tab w0) (hGe : Hid (inz (fun i => (bl H 256).getD i 0) (bl H 256).length = G))
    (x : Act) (w : World) (hB : Below w0.heap.size w0 w) (hdef : x.defers = df) (u1 : x.tmps.getD 1 undef = .pointer (some ⟨b1, 0, none⟩)) (u4 : x.tmps.getD 4 undef = .slice AA m CA) (u5 : x.tmps.getD 5 undef = .int .i64 ((bl H 256).length : Nat))
    (p3 : swh14_val AA m CA b1 F H G 3 (x.tmps.getD 73 undef) w)
    : wpOpIn Fc nC Tryd.prog swh14_ops Q 4 (fun a' w' => ∃ v, a' = x.put (some 74) v ∧ (v = .bool true) ∧ Below w.heap.size w w') x w := by
  have ho : swh14_ops[4]? = some swh14_o4 := rfl
  simp only [Array.getD_eq_getD_getElem?] at u1 u4 u5
  have q3 : x.tmps.getD 73 undef = .bool true := p3
  simp only [Array.getD_eq_getD_getElem?] at q3
  refine wpOpIn_plain ho rfl (oper_inK hF.fn (fun K hK => ?_))
  clear ho
  rw [Oper.semAt_plain Fc _ _ (by intro c h; cases h)]
  simp only [swh14_o4]
  go_simp
  exact hK _ _ ⟨_, act_putD x hdef _ _, rfl, Below.refl _ _⟩
set_option maxRecDepth 100000 in
set_option maxHeartbeats 2000000 in
theorem swh14_s5 {Fc : Fence} (hF : Wide Fc) {nC : Nat} (AA : Option Addr) (m CA b1 : Nat) (F : Nat → Nat → Bool) (H G : Nat → Bool) (Q : Exit → Act → World → Prop) (df : List Deferred) (w0 : World)
    (hS : SBox w0 b1 H) (hA : Sets w0 AA m F) (hm : Hid (m ≤ 1000)) (hU : ∀ b, b < 256 → anyS F m b = H b) (hT : Tab w0) (hGe : Hid (inz (fun i => (bl H 256).getD i 0) (bl H 256).length = G))
    (x : Act) (w : World) (hB : Below w0.heap.size w0 w) (hdef : x.defers = df) (u1 : x.tmps.getD 1 undef = .pointer (some ⟨b1, 0, none⟩)) (u4 : x.tmps.getD 4 undef = .slice AA m CA) (u5 : x.tmps.getD 5 undef = .int .i64 ((bl H 256).length : Nat))
    (p4 : swh14_val AA m CA b1 F H G 4 (x.tmps.getD 74 undef) w)
    : wpOpIn Fc nC Tryd.prog swh14_ops Q 5 (fun a' w' => ∃ v, a' = x.put (some 75) v ∧ (v = sv H) ∧ Below w.heap.size w w') x w := by
  have ho : swh14_ops[5]? = some swh14_o5 := rfl
  simp only [Array.getD_eq_getD_getElem?] at u1 u4 u5
  have q4 : x.tmps.getD 74 undef = .bool true := p4
  simp only [Array.getD_eq_getD_getElem?] at q4
  have e4 : (swh14_ops[4]?.bind fun x => x.dst) = some 74 := rfl
  have g4 := get_someT q4 (fun h => by cases h)
  have hsb := hS.below hB hS.lt
  have c0 := hsb.cell 0 (by omega)
  have c1 := hsb.cell 1 (by omega)
  have c2 := hsb.cell 2 (by omega)
  have c3 := hsb.cell 3 (by omega)
  refine wpOpIn_stepT hF ho (fun K hK => ?_)
  clear ho
  rw [Oper.semAt_plain Fc _ _ (by intro c h; cases h)]
  simp only [swh14_o5]
  go_simp
  exact hK _ _ ⟨_, act_putD x hdef _ _, rfl, Below.refl _ _⟩
set_option maxRecDepth 100000 in
set_option maxHeartbeats 2000000 in
theorem swh14_s6 {Fc : Fence} (hF : Wide Fc) {nC : Nat} (AA : Option Addr) (m CA b1 : Nat) (F : Nat → Nat → Bool) (H G : Nat → Bool) (Q : Exit → Act → World → Prop) (df : List Deferred) (w0 : World)
    (hS : SBox w0 b1 H) (hA : Sets w0 AA m F) (hm : Hid (m ≤ 1000)) (hU : ∀ b, b < 256 → anyS F m b = H b) (hT : Tab w0) (hGe : Hid (inz (fun i => (bl H 256).getD i 0) (bl H 256).length = G))
    (x : Act) (w : World) (hB : Below w0.heap.size w0 w) (hdef : x.defers = df) (u1 : x.tmps.getD 1 undef = .pointer (some ⟨b1, 0, none⟩)) (u4 : x.tmps.getD 4 undef = .slice AA m CA) (u5 : x.tmps.getD 5 undef = .int .i64 ((bl H 256).length : Nat))
    (p5 : swh14_val AA m CA b1 F H G 5 (x.tmps.getD 75 undef) w)
    (p4 : swh14_val AA m CA b1 F H G 4 (x.tmps.getD 74 undef) w)
    : wpOpIn Fc nC Tryd.prog swh14_ops Q 6 (fun a' w' => ∃ v, a' = x.put (some 76) v ∧ (∃ A C, v = .slice A (bl H 256).length C ∧ w'.ownsRow 0 5 1 (.slice A (bl H 256).length C) (bl H 256).length (lc (bl H 256))) ∧ Below w.heap.size w w') x w := by
  have ho : swh14_ops[6]? = some swh14_o6 := rfl
  simp only [Array.getD_eq_getD_getElem?] at u1 u4 u5
  have q5 : x.tmps.getD 75 undef = sv H := p5
  have q4 : x.tmps.getD 74 undef = .bool true := p4
  simp only [Array.getD_eq_getD_getElem?] at q5 q4
  have e4 : (swh14_ops[4]?.bind fun x => x.dst) = some 74 := rfl
  have g4 := get_someT q4 (fun h => by cases h)
  refine wpOpIn_stepT hF ho (fun K hK => ?_)
  clear ho
  rw [Oper.semAt_plain Fc _ _ (by intro c h; cases h)]
  simp only [swh14_o6]
  go_simp
  refine ⟨hF.deep, (hF.call (bytes_any H w (hT.below hB))).mono ?_⟩
  rintro e w' ⟨v, rfl, ho, hb⟩
  obtain ⟨A, C, rfl⟩ := owns_slice ho
  exact hK _ _ ⟨_, act_putD x hdef _ _, ⟨A, C, rfl, owns_lower ho (Nat.zero_le _)⟩, hb⟩
set_option maxRecDepth 100000 in
set_option maxHeartbeats 2000000 in
theorem swh14_s7 {Fc : Fence} (hF : Wide Fc) {nC : Nat} (AA : Option Addr) (m CA b1 : Nat) (F : Nat → Nat → Bool) (H G : Nat → Bool) (Q : Exit → Act → World → Prop) (df : List Deferred) (w0 : World)
    (hS : SBox w0 b1 H) (hA : Sets w0 AA m F) (hm : Hid (m ≤ 1000)) (hU : ∀ b, b < 256 → anyS F m b = H b) (hT : Tab w0) (hGe : Hid (inz (fun i => (bl H 256).getD i 0) (bl H 256).length = G))
    (x : Act) (w : World) (hB : Below w0.heap.size w0 w) (hdef : x.defers = df) (u1 : x.tmps.getD 1 undef = .pointer (some ⟨b1, 0, none⟩)) (u4 : x.tmps.getD 4 undef = .slice AA m CA) (u5 : x.tmps.getD 5 undef = .int .i64 ((bl H 256).length : Nat))
    (p6 : swh14_val AA m CA b1 F H G 6 (x.tmps.getD 76 undef) w)
    (p4 : swh14_val AA m CA b1 F H G 4 (x.tmps.getD 74 undef) w)
    : wpOpIn Fc nC Tryd.prog swh14_ops Q 7 (fun a' w' => ∃ v, a' = x.put (some 77) v ∧ (v = sv G) ∧ Below w.heap.size w w') x w := by
  have ho : swh14_ops[7]? = some swh14_o7 := rfl
  simp only [Array.getD_eq_getD_getElem?] at u1 u4 u5
  obtain ⟨A6, C6, q6, p6⟩ := p6
  have q6 : x.tmps.getD 76 undef = .slice A6 (bl H 256).length C6 := q6
  have q4 : x.tmps.getD 74 undef = .bool true := p4
  simp only [Array.getD_eq_getD_getElem?] at q6 q4
  have e4 : (swh14_ops[4]?.bind fun x => x.dst) = some 74 := rfl
  have g4 := get_someT q4 (fun h => by cases h)
  have hbl : (bl H 256).length ≤ 256 := bl_length_le H 256
  have hlt : ∀ b ∈ bl H 256, b < 256 := fun b hb => (mem_bl.1 hb).1
  obtain ⟨_, B6, D6, e6, _, _, _, _, bl6, _⟩ := owns_bl p6 hlt
  cases e6
  refine wpOpIn_stepT hF ho (fun K hK => ?_)
  clear ho
  rw [Oper.semAt_plain Fc _ _ (by intro c h; cases h)]
  simp only [swh14_o7]
  go_simp
  refine ⟨hF.deep, (hF.call (of_any _ _ _ (fun i => (bl H 256).getD i 0) w (by omega) bl6)).mono ?_⟩
  rintro e w' ⟨rfl, hb⟩
  exact hK _ _ ⟨_, act_putD x hdef _ _, by rw [hGe.out], hb⟩
set_option maxRecDepth 100000 in
set_option maxHeartbeats 2000000 in
theorem swh14_s8 {Fc : Fence} (hF : Wide Fc) {nC : Nat} (AA : Option Addr) (m CA b1 : Nat) (F : Nat → Nat → Bool) (H G : Nat → Bool) (Q : Exit → Act → World → Prop) (df : List Deferred) (w0 : World)
    (hS : SBox w0 b1 H) (hA : Sets w0 AA m F) (hm : Hid (m ≤ 1000)) (hU : ∀ b, b < 256 → anyS F m b = H b) (hT : Tab w0) (hGe : Hid (inz (fun i => (bl H 256).getD i 0) (bl H 256).length = G))
    (x : Act) (w : World) (hB : Below w0.heap.size w0 w) (hdef : x.defers = df) (u1 : x.tmps.getD 1 undef = .pointer (some ⟨b1, 0, none⟩)) (u4 : x.tmps.getD 4 undef = .slice AA m CA) (u5 : x.tmps.getD 5 undef = .int .i64 ((bl H 256).length : Nat))
    (p4 : swh14_val AA m CA b1 F H G 4 (x.tmps.getD 74 undef) w)
    : wpOpIn Fc nC Tryd.prog swh14_ops Q 8 (fun a' w' => ∃ v, a' = x.put (some 78) v ∧ (v = sv H) ∧ Below w.heap.size w w') x w := by
  have ho : swh14_ops[8]? = some swh14_o8 := rfl
  simp only [Array.getD_eq_getD_getElem?] at u1 u4 u5
  have q4 : x.tmps.getD 74 undef = .bool true := p4
  simp only [Array.getD_eq_getD_getElem?] at q4
  have e4 : (swh14_ops[4]?.bind fun x => x.dst) = some 74 := rfl
  have g4 := get_someT q4 (fun h => by cases h)
  have hsb := hS.below hB hS.lt
  have c0 := hsb.cell 0 (by omega)
  have c1 := hsb.cell 1 (by omega)
  have c2 := hsb.cell 2 (by omega)
  have c3 := hsb.cell 3 (by omega)
  refine wpOpIn_stepT hF ho (fun K hK => ?_)
  clear ho
  rw [Oper.semAt_plain Fc _ _ (by intro c h; cases h)]
  simp only [swh14_o8]
  go_simp
  exact hK _ _ ⟨_, act_putD x hdef _ _, rfl, Below.refl _ _⟩
set_option maxRecDepth 100000 in
set_option maxHeartbeats 2000000 in
theorem swh14_s9 {Fc : Fence} (hF : Wide Fc) {nC : Nat} (AA : Option Addr) (m CA b1 : Nat) (F : Nat → Nat → Bool) (H G : Nat → Bool) (Q : Exit → Act → World → Prop) (df : List Deferred) (w0 : World)
    (hS : SBox w0 b1 H) (hA : Sets w0 AA m F) (hm : Hid (m ≤ 1000)) (hU : ∀ b, b < 256 → anyS F m b = H b) (hT : Tab w0) (hGe : Hid (inz (fun i => (bl H 256).getD i 0) (bl H 256).length = G))
    (x : Act) (w : World) (hB : Below w0.heap.size w0 w) (hdef : x.defers = df) (u1 : x.tmps.getD 1 undef = .pointer (some ⟨b1, 0, none⟩)) (u4 : x.tmps.getD 4 undef = .slice AA m CA) (u5 : x.tmps.getD 5 undef = .int .i64 ((bl H 256).length : Nat))
    (p7 : swh14_val AA m CA b1 F H G 7 (x.tmps.getD 77 undef) w)
    (p8 : swh14_val AA m CA b1 F H G 8 (x.tmps.getD 78 undef) w)
    (p4 : swh14_val AA m CA b1 F H G 4 (x.tmps.getD 74 undef) w)
    : wpOpIn Fc nC Tryd.prog swh14_ops Q 9 (fun a' w' => ∃ v, a' = x.put (some 79) v ∧ (v = .bool true) ∧ Below w.heap.size w w') x w := by
  have ho : swh14_ops[9]? = some swh14_o9 := rfl
  simp only [Array.getD_eq_getD_getElem?] at u1 u4 u5
  have q7 : x.tmps.getD 77 undef = sv G := p7
  have q8 : x.tmps.getD 78 undef = sv H := p8
  have q4 : x.tmps.getD 74 undef = .bool true := p4
  simp only [Array.getD_eq_getD_getElem?] at q7 q8 q4
  have e4 : (swh14_ops[4]?.bind fun x => x.dst) = some 74 := rfl
  have g4 := get_someT q4 (fun h => by cases h)
  simp only [sv, st, sc] at q7 q8
  have he := fun W => eqSt G H W true ⟨fun _ => fun b hb => by rw [← hGe.out]; exact of_bytes H b hb, fun _ => rfl⟩
  simp only [st, sc] at he
  refine wpOpIn_stepT hF ho (fun K hK => ?_)
  clear ho
  rw [Oper.semAt_plain Fc _ _ (by intro c h; cases h)]
  simp only [swh14_o9]
  go_simp
  exact hK _ _ ⟨_, act_putD x hdef _ _, rfl, Below.refl _ _⟩
set_option maxRecDepth 100000 in
set_option maxHeartbeats 2000000 in
theorem swh14_s10 {Fc : Fence} (hF : Wide Fc) {nC : Nat} (AA : Option Addr) (m CA b1 : Nat) (F : Nat → Nat → Bool) (H G : Nat → Bool) (Q : Exit → Act → World → Prop) (df : List Deferred) (w0 : World)
    (hS : SBox w0 b1 H) (hA : Sets w0 AA m F) (hm : Hid (m ≤ 1000)) (hU : ∀ b, b < 256 → anyS F m b = H b) (hT : Tab w0) (hGe : Hid (inz (fun i => (bl H 256).getD i 0) (bl H 256).length = G))
    (x : Act) (w : World) (hB : Below w0.heap.size w0 w) (hdef : x.defers = df) (u1 : x.tmps.getD 1 undef = .pointer (some ⟨b1, 0, none⟩)) (u4 : x.tmps.getD 4 undef = .slice AA m CA) (u5 : x.tmps.getD 5 undef = .int .i64 ((bl H 256).length : Nat))
    (p4 : swh14_val AA m CA b1 F H G 4 (x.tmps.getD 74 undef) w)
    (p9 : swh14_val AA m CA b1 F H G 9 (x.tmps.getD 79 undef) w)
    : wpOpIn Fc nC Tryd.prog swh14_ops Q 10 (fun a' w' => ∃ v, a' = x.put (some 80) v ∧ (v = .bool true) ∧ Below w.heap.size w w') x w := by
  have ho : swh14_ops[10]? = some swh14_o10 := rfl
  simp only [Array.getD_eq_getD_getElem?] at u1 u4 u5
  have q4 : x.tmps.getD 74 undef = .bool true := p4
  have q9 : x.tmps.getD 79 undef = .bool true := p9
  simp only [Array.getD_eq_getD_getElem?] at q4 q9
  refine wpOpIn_plain ho rfl (oper_inK hF.fn (fun K hK => ?_))
  clear ho
  rw [Oper.semAt_plain Fc _ _ (by intro c h; cases h)]
  simp only [swh14_o10]
  go_simp
  exact hK _ _ ⟨_, act_putD x hdef _ _, rfl, Below.refl _ _⟩
set_option maxRecDepth 100000 in
set_option maxHeartbeats 2000000 in
theorem swh14_s11 {Fc : Fence} (hF : Wide Fc) {nC : Nat} (AA : Option Addr) (m CA b1 : Nat) (F : Nat → Nat → Bool) (H G : Nat → Bool) (Q : Exit → Act → World → Prop) (df : List Deferred) (w0 : World)
    (hS : SBox w0 b1 H) (hA : Sets w0 AA m F) (hm : Hid (m ≤ 1000)) (hU : ∀ b, b < 256 → anyS F m b = H b) (hT : Tab w0) (hGe : Hid (inz (fun i => (bl H 256).getD i 0) (bl H 256).length = G))
    (x : Act) (w : World) (hB : Below w0.heap.size w0 w) (hdef : x.defers = df) (u1 : x.tmps.getD 1 undef = .pointer (some ⟨b1, 0, none⟩)) (u4 : x.tmps.getD 4 undef = .slice AA m CA) (u5 : x.tmps.getD 5 undef = .int .i64 ((bl H 256).length : Nat))
    (p10 : swh14_val AA m CA b1 F H G 10 (x.tmps.getD 80 undef) w)
    : wpOpIn Fc nC Tryd.prog swh14_ops Q 11 (fun a' w' => ∃ v, a' = x.put (some 81) v ∧ (v = .bool true) ∧ Below w.heap.size w w') x w := by
  have ho : swh14_ops[11]? = some swh14_o11 := rfl
  simp only [Array.getD_eq_getD_getElem?] at u1 u4 u5
  have q10 : x.tmps.getD 80 undef = .bool true := p10
  simp only [Array.getD_eq_getD_getElem?] at q10
  refine wpOpIn_plain ho rfl (oper_inK hF.fn (fun K hK => ?_))
  clear ho
  rw [Oper.semAt_plain Fc _ _ (by intro c h; cases h)]
  simp only [swh14_o11]
  go_simp
  exact hK _ _ ⟨_, act_putD x hdef _ _, rfl, Below.refl _ _⟩
set_option maxRecDepth 100000 in
set_option maxHeartbeats 2000000 in
theorem swh14_s12 {Fc : Fence} (hF : Wide Fc) {nC : Nat} (AA : Option Addr) (m CA b1 : Nat) (F : Nat → Nat → Bool) (H G : Nat → Bool) (Q : Exit → Act → World → Prop) (df : List Deferred) (w0 : World)
    (hS : SBox w0 b1 H) (hA : Sets w0 AA m F) (hm : Hid (m ≤ 1000)) (hU : ∀ b, b < 256 → anyS F m b = H b) (hT : Tab w0) (hGe : Hid (inz (fun i => (bl H 256).getD i 0) (bl H 256).length = G))
    (x : Act) (w : World) (hB : Below w0.heap.size w0 w) (hdef : x.defers = df) (u1 : x.tmps.getD 1 undef = .pointer (some ⟨b1, 0, none⟩)) (u4 : x.tmps.getD 4 undef = .slice AA m CA) (u5 : x.tmps.getD 5 undef = .int .i64 ((bl H 256).length : Nat))
    (p11 : swh14_val AA m CA b1 F H G 11 (x.tmps.getD 81 undef) w)
    : wpOpIn Fc nC Tryd.prog swh14_ops Q 12 (fun a' w' => ∃ v, a' = x.put (some 82) v ∧ (v = .int .i64 ((bl H 256).length : Nat)) ∧ Below w.heap.size w w') x w := by
  have ho : swh14_ops[12]? = some swh14_o12 := rfl
  simp only [Array.getD_eq_getD_getElem?] at u1 u4 u5
  have q11 : x.tmps.getD 81 undef = .bool true := p11
  simp only [Array.getD_eq_getD_getElem?] at q11
  have e11 : (swh14_ops[11]?.bind fun x => x.dst) = some 81 := rfl
  have g11 := get_someT q11 (fun h => by cases h)
  refine wpOpIn_stepT hF ho (fun K hK => ?_)
  clear ho
  rw [Oper.semAt_plain Fc _ _ (by intro c h; cases h)]
  simp only [swh14_o12]
  go_simp
  exact hK _ _ ⟨_, act_putD x hdef _ _, rfl, Below.refl _ _⟩
set_option maxRecDepth 100000 in
set_option maxHeartbeats 2000000 in
theorem swh14_s13 {Fc : Fence} (hF : Wide Fc) {nC : Nat} (AA : Option Addr) (m CA b1 : Nat) (F : Nat → Nat → Bool) (H G : Nat → Bool) (Q : Exit → Act → World → Prop) (df : List Deferred) (w0 : World)
    (hS : SBox w0 b1 H) (hA : Sets w0 AA m F) (hm : Hid (m ≤ 1000)) (hU : ∀ b, b < 256 → anyS F m b = H b) (hT : Tab w0) (hGe : Hid (inz (fun i => (bl H 256).getD i 0) (bl H 256).length = G))
    (x : Act) (w : World) (hB : Below w0.heap.size w0 w) (hdef : x.defers = df) (u1 : x.tmps.getD 1 undef = .pointer (some ⟨b1, 0, none⟩)) (u4 : x.tmps.getD 4 undef = .slice AA m CA) (u5 : x.tmps.getD 5 undef = .int .i64 ((bl H 256).length : Nat))
    (p11 : swh14_val AA m CA b1 F H G 11 (x.tmps.getD 81 undef) w)
    : wpOpIn Fc nC Tryd.prog swh14_ops Q 13 (fun a' w' => ∃ v, a' = x.put (some 83) v ∧ (v = sv H) ∧ Below w.heap.size w w') x w := by
  have ho : swh14_ops[13]? = some swh14_o13 := rfl
  simp only [Array.getD_eq_getD_getElem?] at u1 u4 u5
  have q11 : x.tmps.getD 81 undef = .bool true := p11
  simp only [Array.getD_eq_getD_getElem?] at q11
  have e11 : (swh14_ops[11]?.bind fun x => x.dst) = some 81 := rfl
  have g11 := get_someT q11 (fun h => by cases h)
  have hsb := hS.below hB hS.lt
  have c0 := hsb.cell 0 (by omega)
  have c1 := hsb.cell 1 (by omega)
  have c2 := hsb.cell 2 (by omega)
  have c3 := hsb.cell 3 (by omega)
  refine wpOpIn_stepT hF ho (fun K hK => ?_)
  clear ho
  rw [Oper.semAt_plain Fc _ _ (by intro c h; cases h)]
  simp only [swh14_o13]
  go_simp
  exact hK _ _ ⟨_, act_putD x hdef _ _, rfl, Below.refl _ _⟩
set_option maxRecDepth 100000 in
set_option maxHeartbeats 2000000 in
theorem swh14_s14 {Fc : Fence} (hF : Wide Fc) {nC : Nat} (AA : Option Addr) (m CA b1 : Nat) (F : Nat → Nat → Bool) (H G : Nat → Bool) (Q : Exit → Act → World → Prop) (df : List Deferred) (w0 : World)
    (hS : SBox w0 b1 H) (hA : Sets w0 AA m F) (hm : Hid (m ≤ 1000)) (hU : ∀ b, b < 256 → anyS F m b = H b) (hT : Tab w0) (hGe : Hid (inz (fun i => (bl H 256).getD i 0) (bl H 256).length = G))
    (x : Act) (w : World) (hB : Below w0.heap.size w0 w) (hdef : x.defers = df) (u1 : x.tmps.getD 1 undef = .pointer (some ⟨b1, 0, none⟩)) (u4 : x.tmps.getD 4 undef = .slice AA m CA) (u5 : x.tmps.getD 5 undef = .int .i64 ((bl H 256).length : Nat))
    (p13 : swh14_val AA m CA b1 F H G 13 (x.tmps.getD 83 undef) w)
    (p11 : swh14_val AA m CA b1 F H G 11 (x.tmps.getD 81 undef) w)
    : wpOpIn Fc nC Tryd.prog swh14_ops Q 14 (fun a' w' => ∃ v, a' = x.put (some 84) v ∧ (v = .int .i64 ((bl H 256).length : Nat)) ∧ Below w.heap.size w w') x w := by
  have ho : swh14_ops[14]? = some swh14_o14 := rfl
  simp only [Array.getD_eq_getD_getElem?] at u1 u4 u5
  have q13 : x.tmps.getD 83 undef = sv H := p13
  have q11 : x.tmps.getD 81 undef = .bool true := p11
  simp only [Array.getD_eq_getD_getElem?] at q13 q11
  have e11 : (swh14_ops[11]?.bind fun x => x.dst) = some 81 := rfl
  have g11 := get_someT q11 (fun h => by cases h)
  refine wpOpIn_stepT hF ho (fun K hK => ?_)
  clear ho
  rw [Oper.semAt_plain Fc _ _ (by intro c h; cases h)]
  simp only [swh14_o14]
  go_simp
  refine ⟨hF.deep, (hF.call (count_any H w)).mono ?_⟩
  rintro e w' ⟨rfl, hb⟩
  exact hK _ _ ⟨_, act_putD x hdef _ _, rfl, hb⟩
set_option maxRecDepth 100000 in
set_option maxHeartbeats 2000000 in
theorem swh14_s15 {Fc : Fence} (hF : Wide Fc) {nC : Nat} (AA : Option Addr) (m CA b1 : Nat) (F : Nat → Nat → Bool) (H G : Nat → Bool) (Q : Exit → Act → World → Prop) (df : List Deferred) (w0 : World)
    (hS : SBox w0 b1 H) (hA : Sets w0 AA m F) (hm : Hid (m ≤ 1000)) (hU : ∀ b, b < 256 → anyS F m b = H b) (hT : Tab w0) (hGe : Hid (inz (fun i => (bl H 256).getD i 0) (bl H 256).length = G))
    (x : Act) (w : World) (hB : Below w0.heap.size w0 w) (hdef : x.defers = df) (u1 : x.tmps.getD 1 undef = .pointer (some ⟨b1, 0, none⟩)) (u4 : x.tmps.getD 4 undef = .slice AA m CA) (u5 : x.tmps.getD 5 undef = .int .i64 ((bl H 256).length : Nat))
    (p12 : swh14_val AA m CA b1 F H G 12 (x.tmps.getD 82 undef) w)
    (p14 : swh14_val AA m CA b1 F H G 14 (x.tmps.getD 84 undef) w)
    (p11 : swh14_val AA m CA b1 F H G 11 (x.tmps.getD 81 undef) w)
    : wpOpIn Fc nC Tryd.prog swh14_ops Q 15 (fun a' w' => ∃ v, a' = x.put (some 85) v ∧ (v = .bool true) ∧ Below w.heap.size w w') x w := by
  have ho : swh14_ops[15]? = some swh14_o15 := rfl
  simp only [Array.getD_eq_getD_getElem?] at u1 u4 u5
  have q12 : x.tmps.getD 82 undef = .int .i64 ((bl H 256).length : Nat) := p12
  have q14 : x.tmps.getD 84 undef = .int .i64 ((bl H 256).length : Nat) := p14
  have q11 : x.tmps.getD 81 undef = .bool true := p11
  simp only [Array.getD_eq_getD_getElem?] at q12 q14 q11
  have e11 : (swh14_ops[11]?.bind fun x => x.dst) = some 81 := rfl
  have g11 := get_someT q11 (fun h => by cases h)
  refine wpOpIn_stepT hF ho (fun K hK => ?_)
  clear ho
  rw [Oper.semAt_plain Fc _ _ (by intro c h; cases h)]
  simp only [swh14_o15]
  go_simp
  exact hK _ _ ⟨_, act_putD x hdef _ _, rfl, Below.refl _ _⟩
set_option maxRecDepth 100000 in
set_option maxHeartbeats 2000000 in
theorem swh14_s16 {Fc : Fence} (hF : Wide Fc) {nC : Nat} (AA : Option Addr) (m CA b1 : Nat) (F : Nat → Nat → Bool) (H G : Nat → Bool) (Q : Exit → Act → World → Prop) (df : List Deferred) (w0 : World)
    (hS : SBox w0 b1 H) (hA : Sets w0 AA m F) (hm : Hid (m ≤ 1000)) (hU : ∀ b, b < 256 → anyS F m b = H b) (hT : Tab w0) (hGe : Hid (inz (fun i => (bl H 256).getD i 0) (bl H 256).length = G))
    (x : Act) (w : World) (hB : Below w0.heap.size w0 w) (hdef : x.defers = df) (u1 : x.tmps.getD 1 undef = .pointer (some ⟨b1, 0, none⟩)) (u4 : x.tmps.getD 4 undef = .slice AA m CA) (u5 : x.tmps.getD 5 undef = .int .i64 ((bl H 256).length : Nat))
    (p11 : swh14_val AA m CA b1 F H G 11 (x.tmps.getD 81 undef) w)
    (p15 : swh14_val AA m CA b1 F H G 15 (x.tmps.getD 85 undef) w)
    : wpOpIn Fc nC Tryd.prog swh14_ops Q 16 (fun a' w' => ∃ v, a' = x.put (some 86) v ∧ (v = .bool true) ∧ Below w.heap.size w w') x w := by
  have ho : swh14_ops[16]? = some swh14_o16 := rfl
  simp only [Array.getD_eq_getD_getElem?] at u1 u4 u5
  have q11 : x.tmps.getD 81 undef = .bool true := p11
  have q15 : x.tmps.getD 85 undef = .bool true := p15
  simp only [Array.getD_eq_getD_getElem?] at q11 q15
  refine wpOpIn_plain ho rfl (oper_inK hF.fn (fun K hK => ?_))
  clear ho
  rw [Oper.semAt_plain Fc _ _ (by intro c h; cases h)]
  simp only [swh14_o16]
  go_simp
  exact hK _ _ ⟨_, act_putD x hdef _ _, rfl, Below.refl _ _⟩
set_option maxRecDepth 100000 in
set_option maxHeartbeats 2000000 in
theorem swh14_s17 {Fc : Fence} (hF : Wide Fc) {nC : Nat} (AA : Option Addr) (m CA b1 : Nat) (F : Nat → Nat → Bool) (H G : Nat → Bool) (Q : Exit → Act → World → Prop) (df : List Deferred) (w0 : World)
    (hS : SBox w0 b1 H) (hA : Sets w0 AA m F) (hm : Hid (m ≤ 1000)) (hU : ∀ b, b < 256 → anyS F m b = H b) (hT : Tab w0) (hGe : Hid (inz (fun i => (bl H 256).getD i 0) (bl H 256).length = G))
    (x : Act) (w : World) (hB : Below w0.heap.size w0 w) (hdef : x.defers = df) (u1 : x.tmps.getD 1 undef = .pointer (some ⟨b1, 0, none⟩)) (u4 : x.tmps.getD 4 undef = .slice AA m CA) (u5 : x.tmps.getD 5 undef = .int .i64 ((bl H 256).length : Nat))
    (p16 : swh14_val AA m CA b1 F H G 16 (x.tmps.getD 86 undef) w)
    : wpOpIn Fc nC Tryd.prog swh14_ops Q 17 (fun a' w' => ∃ v, a' = x.put (some 87) v ∧ (v = .bool true) ∧ Below w.heap.size w w') x w := by
  have ho : swh14_ops[17]? = some swh14_o17 := rfl
  simp only [Array.getD_eq_getD_getElem?] at u1 u4 u5
  have q16 : x.tmps.getD 86 undef = .bool true := p16
  simp only [Array.getD_eq_getD_getElem?] at q16
  refine wpOpIn_plain ho rfl (oper_inK hF.fn (fun K hK => ?_))
  clear ho
  rw [Oper.semAt_plain Fc _ _ (by intro c h; cases h)]
  simp only [swh14_o17]
  go_simp
  exact hK _ _ ⟨_, act_putD x hdef _ _, rfl, Below.refl _ _⟩
set_option maxRecDepth 100000 in
set_option maxHeartbeats 2000000 in
theorem swh14_s18 {Fc : Fence} (hF : Wide Fc) {nC : Nat} (AA : Option Addr) (m CA b1 : Nat) (F : Nat → Nat → Bool) (H G : Nat → Bool) (Q : Exit → Act → World → Prop) (df : List Deferred) (w0 : World)
    (hS : SBox w0 b1 H) (hA : Sets w0 AA m F) (hm : Hid (m ≤ 1000)) (hU : ∀ b, b < 256 → anyS F m b = H b) (hT : Tab w0) (hGe : Hid (inz (fun i => (bl H 256).getD i 0) (bl H 256).length = G))
    (x : Act) (w : World) (hB : Below w0.heap.size w0 w) (hdef : x.defers = df) (u1 : x.tmps.getD 1 undef = .pointer (some ⟨b1, 0, none⟩)) (u4 : x.tmps.getD 4 undef = .slice AA m CA) (u5 : x.tmps.getD 5 undef = .int .i64 ((bl H 256).length : Nat))
    (p17 : swh14_val AA m CA b1 F H G 17 (x.tmps.getD 87 undef) w)
    : wpOpIn Fc nC Tryd.prog swh14_ops Q 18 (fun a' w' => ∃ v, a' = x.put (some 88) v ∧ (v = sv H) ∧ Below w.heap.size w w') x w := by
  have ho : swh14_ops[18]? = some swh14_o18 := rfl
  simp only [Array.getD_eq_getD_getElem?] at u1 u4 u5
  have q17 : x.tmps.getD 87 undef = .bool true := p17
  simp only [Array.getD_eq_getD_getElem?] at q17
  have e17 : (swh14_ops[17]?.bind fun x => x.dst) = some 87 := rfl
  have g17 := get_someT q17 (fun h => by cases h)
  have hsb := hS.below hB hS.lt
  have c0 := hsb.cell 0 (by omega)
  have c1 := hsb.cell 1 (by omega)
  have c2 := hsb.cell 2 (by omega)
  have c3 := hsb.cell 3 (by omega)
  refine wpOpIn_stepT hF ho (fun K hK => ?_)
  clear ho
  rw [Oper.semAt_plain Fc _ _ (by intro c h; cases h)]
  simp only [swh14_o18]
  go_simp
  exact hK _ _ ⟨_, act_putD x hdef _ _, rfl, Below.refl _ _⟩
set_option maxRecDepth 100000 in
set_option maxHeartbeats 2000000 in
theorem swh14_s19 {Fc : Fence} (hF : Wide Fc) {nC : Nat} (AA : Option Addr) (m CA b1 : Nat) (F : Nat → Nat → Bool) (H G : Nat → Bool) (Q : Exit → Act → World → Prop) (df : List Deferred) (w0 : World)
    (hS : SBox w0 b1 H) (hA : Sets w0 AA m F) (hm : Hid (m ≤ 1000)) (hU : ∀ b, b < 256 → anyS F m b = H b) (hT : Tab w0) (hGe : Hid (inz (fun i => (bl H 256).getD i 0) (bl H 256).length = G))
    (x : Act) (w : World) (hB : Below w0.heap.size w0 w) (hdef : x.defers = df) (u1 : x.tmps.getD 1 undef = .pointer (some ⟨b1, 0, none⟩)) (u4 : x.tmps.getD 4 undef = .slice AA m CA) (u5 : x.tmps.getD 5 undef = .int .i64 ((bl H 256).length : Nat))
    (p18 : swh14_val AA m CA b1 F H G 18 (x.tmps.getD 88 undef) w)
    (p17 : swh14_val AA m CA b1 F H G 17 (x.tmps.getD 87 undef) w)
    : wpOpIn Fc nC Tryd.prog swh14_ops Q 19 (fun a' w' => ∃ v, a' = x.put (some 89) v ∧ (∃ A C, v = .slice A (bl H 256).length C ∧ w'.ownsRow 0 5 1 (.slice A (bl H 256).length C) (bl H 256).length (lc (bl H 256))) ∧ Below w.heap.size w w') x w := by
  have ho : swh14_ops[19]? = some swh14_o19 := rfl
  simp only [Array.getD_eq_getD_getElem?] at u1 u4 u5
  have q18 : x.tmps.getD 88 undef = sv H := p18
  have q17 : x.tmps.getD 87 undef = .bool true := p17
  simp only [Array.getD_eq_getD_getElem?] at q18 q17
  have e17 : (swh14_ops[17]?.bind fun x => x.dst) = some 87 := rfl
  have g17 := get_someT q17 (fun h => by cases h)
  refine wpOpIn_stepT hF ho (fun K hK => ?_)
  clear ho
  rw [Oper.semAt_plain Fc _ _ (by intro c h; cases h)]
  simp only [swh14_o19]
  go_simp
  refine ⟨hF.deep, (hF.call (bytes_any H w (hT.below hB))).mono ?_⟩
  rintro e w' ⟨v, rfl, ho, hb⟩
  obtain ⟨A, C, rfl⟩ := owns_slice ho
  exact hK _ _ ⟨_, act_putD x hdef _ _, ⟨A, C, rfl, owns_lower ho (Nat.zero_le _)⟩, hb⟩
set_option maxRecDepth 100000 in
set_option maxHeartbeats 2000000 in
theorem swh14_s20 {Fc : Fence} (hF : Wide Fc) {nC : Nat} (AA : Option Addr) (m CA b1 : Nat) (F : Nat → Nat → Bool) (H G : Nat → Bool) (Q : Exit → Act → World → Prop) (df : List Deferred) (w0 : World)
    (hS : SBox w0 b1 H) (hA : Sets w0 AA m F) (hm : Hid (m ≤ 1000)) (hU : ∀ b, b < 256 → anyS F m b = H b) (hT : Tab w0) (hGe : Hid (inz (fun i => (bl H 256).getD i 0) (bl H 256).length = G))
    (x : Act) (w : World) (hB : Below w0.heap.size w0 w) (hdef : x.defers = df) (u1 : x.tmps.getD 1 undef = .pointer (some ⟨b1, 0, none⟩)) (u4 : x.tmps.getD 4 undef = .slice AA m CA) (u5 : x.tmps.getD 5 undef = .int .i64 ((bl H 256).length : Nat))
    (p19 : swh14_val AA m CA b1 F H G 19 (x.tmps.getD 89 undef) w)
    (p17 : swh14_val AA m CA b1 F H G 17 (x.tmps.getD 87 undef) w)
    : wpOpIn Fc nC Tryd.prog swh14_ops Q 20 (fun a' w' => ∃ v, a' = x.put (some 90) v ∧ (v = .int .i64 ((bl H 256).length : Nat)) ∧ Below w.heap.size w w') x w := by
  have ho : swh14_ops[20]? = some swh14_o20 := rfl
  simp only [Array.getD_eq_getD_getElem?] at u1 u4 u5
  obtain ⟨A19, C19, q19, p19⟩ := p19
  have q19 : x.tmps.getD 89 undef = .slice A19 (bl H 256).length C19 := q19
  have q17 : x.tmps.getD 87 undef = .bool true := p17
  simp only [Array.getD_eq_getD_getElem?] at q19 q17
  have e17 : (swh14_ops[17]?.bind fun x => x.dst) = some 87 := rfl
  have g17 := get_someT q17 (fun h => by cases h)
  refine wpOpIn_stepT hF ho (fun K hK => ?_)
  clear ho
  rw [Oper.semAt_plain Fc _ _ (by intro c h; cases h)]
  simp only [swh14_o20]
  go_simp
  exact hK _ _ ⟨_, act_putD x hdef _ _, rfl, Below.refl _ _⟩
set_option maxRecDepth 100000 in
set_option maxHeartbeats 2000000 in
theorem swh14_s21 {Fc : Fence} (hF : Wide Fc) {nC : Nat} (AA : Option Addr) (m CA b1 : Nat) (F : Nat → Nat → Bool) (H G : Nat → Bool) (Q : Exit → Act → World → Prop) (df : List Deferred) (w0 : World)
    (hS : SBox w0 b1 H) (hA : Sets w0 AA m F) (hm : Hid (m ≤ 1000)) (hU : ∀ b, b < 256 → anyS F m b = H b) (hT : Tab w0) (hGe : Hid (inz (fun i => (bl H 256).getD i 0) (bl H 256).length = G))
    (x : Act) (w : World) (hB : Below w0.heap.size w0 w) (hdef : x.defers = df) (u1 : x.tmps.getD 1 undef = .pointer (some ⟨b1, 0, none⟩)) (u4 : x.tmps.getD 4 undef = .slice AA m CA) (u5 : x.tmps.getD 5 undef = .int .i64 ((bl H 256).length : Nat))
    (p17 : swh14_val AA m CA b1 F H G 17 (x.tmps.getD 87 undef) w)
    : wpOpIn Fc nC Tryd.prog swh14_ops Q 21 (fun a' w' => ∃ v, a' = x.put (some 91) v ∧ (v = .int .i64 ((bl H 256).length : Nat)) ∧ Below w.heap.size w w') x w := by
  have ho : swh14_ops[21]? = some swh14_o21 := rfl
  simp only [Array.getD_eq_getD_getElem?] at u1 u4 u5
  have q17 : x.tmps.getD 87 undef = .bool true := p17
  simp only [Array.getD_eq_getD_getElem?] at q17
  have e17 : (swh14_ops[17]?.bind fun x => x.dst) = some 87 := rfl
  have g17 := get_someT q17 (fun h => by cases h)
  refine wpOpIn_stepT hF ho (fun K hK => ?_)
  clear ho
  rw [Oper.semAt_plain Fc _ _ (by intro c h; cases h)]
  simp only [swh14_o21]
  go_simp
  exact hK _ _ ⟨_, act_putD x hdef _ _, rfl, Below.refl _ _⟩
set_option maxRecDepth 100000 in
set_option maxHeartbeats 2000000 in
theorem swh14_s22 {Fc : Fence} (hF : Wide Fc) {nC : Nat} (AA : Option Addr) (m CA b1 : Nat) (F : Nat → Nat → Bool) (H G : Nat → Bool) (Q : Exit → Act → World → Prop) (df : List Deferred) (w0 : World)
    (hS : SBox w0 b1 H) (hA : Sets w0 AA m F) (hm : Hid (m ≤ 1000)) (hU : ∀ b, b < 256 → anyS F m b = H b) (hT : Tab w0) (hGe : Hid (inz (fun i => (bl H 256).getD i 0) (bl H 256).length = G))
    (x : Act) (w : World) (hB : Below w0.heap.size w0 w) (hdef : x.defers = df) (u1 : x.tmps.getD 1 undef = .pointer (some ⟨b1, 0, none⟩)) (u4 : x.tmps.getD 4 undef = .slice AA m CA) (u5 : x.tmps.getD 5 undef = .int .i64 ((bl H 256).length : Nat))
    (p20 : swh14_val AA m CA b1 F H G 20 (x.tmps.getD 90 undef) w)
    (p21 : swh14_val AA m CA b1 F H G 21 (x.tmps.getD 91 undef) w)
    (p17 : swh14_val AA m CA b1 F H G 17 (x.tmps.getD 87 undef) w)
    : wpOpIn Fc nC Tryd.prog swh14_ops Q 22 (fun a' w' => ∃ v, a' = x.put (some 92) v ∧ (v = .bool true) ∧ Below w.heap.size w w') x w := by
  have ho : swh14_ops[22]? = some swh14_o22 := rfl
  simp only [Array.getD_eq_getD_getElem?] at u1 u4 u5
  have q20 : x.tmps.getD 90 undef = .int .i64 ((bl H 256).length : Nat) := p20
  have q21 : x.tmps.getD 91 undef = .int .i64 ((bl H 256).length : Nat) := p21
  have q17 : x.tmps.getD 87 undef = .bool true := p17
  simp only [Array.getD_eq_getD_getElem?] at q20 q21 q17
  have e17 : (swh14_ops[17]?.bind fun x => x.dst) = some 87 := rfl
  have g17 := get_someT q17 (fun h => by cases h)
  refine wpOpIn_stepT hF ho (fun K hK => ?_)
  clear ho
  rw [Oper.semAt_plain Fc _ _ (by intro c h; cases h)]
  simp only [swh14_o22]
  go_simp
  exact hK _ _ ⟨_, act_putD x hdef _ _, rfl, Below.refl _ _⟩
set_option maxRecDepth 100000 in
set_option maxHeartbeats 2000000 in
theorem swh14_s23 {Fc : Fence} (hF : Wide Fc) {nC : Nat} (AA : Option Addr) (m CA b1 : Nat) (F : Nat → Nat → Bool) (H G : Nat → Bool) (Q : Exit → Act → World → Prop) (df : List Deferred) (w0 : World)
    (hS : SBox w0 b1 H) (hA : Sets w0 AA m F) (hm : Hid (m ≤ 1000)) (hU : ∀ b, b < 256 → anyS F m b = H b) (hT : Tab w0) (hGe : Hid (inz (fun i => (bl H 256).getD i 0) (bl H 256).length = G))
    (x : Act) (w : World) (hB : Below w0.heap.size w0 w) (hdef : x.defers = df) (u1 : x.tmps.getD 1 undef = .pointer (some ⟨b1, 0, none⟩)) (u4 : x.tmps.getD 4 undef = .slice AA m CA) (u5 : x.tmps.getD 5 undef = .int .i64 ((bl H 256).length : Nat))
    (p17 : swh14_val AA m CA b1 F H G 17 (x.tmps.getD 87 undef) w)
    (p22 : swh14_val AA m CA b1 F H G 22 (x.tmps.getD 92 undef) w)
    : wpOpIn Fc nC Tryd.prog swh14_ops Q 23 (fun a' w' => ∃ v, a' = x.put (some 93) v ∧ (v = .bool true) ∧ Below w.heap.size w w') x w := by
  have ho : swh14_ops[23]? = some swh14_o23 := rfl
  simp only [Array.getD_eq_getD_getElem?] at u1 u4 u5
  have q17 : x.tmps.getD 87 undef = .bool true := p17
  have q22 : x.tmps.getD 92 undef = .bool true := p22
  simp only [Array.getD_eq_getD_getElem?] at q17 q22
  refine wpOpIn_plain ho rfl (oper_inK hF.fn (fun K hK => ?_))
  clear ho
  rw [Oper.semAt_plain Fc _ _ (by intro c h; cases h)]
  simp only [swh14_o23]
  go_simp
  exact hK _ _ ⟨_, act_putD x hdef _ _, rfl, Below.refl _ _⟩
set_option maxRecDepth 100000 in
set_option maxHeartbeats 2000000 in
theorem swh14_s24 {Fc : Fence} (hF : Wide Fc) {nC : Nat} (AA : Option Addr) (m CA b1 : Nat) (F : Nat → Nat → Bool) (H G : Nat → Bool) (Q : Exit → Act → World → Prop) (df : List Deferred) (w0 : World)
    (hS : SBox w0 b1 H) (hA : Sets w0 AA m F) (hm : Hid (m ≤ 1000)) (hU : ∀ b, b < 256 → anyS F m b = H b) (hT : Tab w0) (hGe : Hid (inz (fun i => (bl H 256).getD i 0) (bl H 256).length = G))
    (x : Act) (w : World) (hB : Below w0.heap.size w0 w) (hdef : x.defers = df) (u1 : x.tmps.getD 1 undef = .pointer (some ⟨b1, 0, none⟩)) (u4 : x.tmps.getD 4 undef = .slice AA m CA) (u5 : x.tmps.getD 5 undef = .int .i64 ((bl H 256).length : Nat))
    (p23 : swh14_val AA m CA b1 F H G 23 (x.tmps.getD 93 undef) w)
    : wpOpIn Fc nC Tryd.prog swh14_ops Q 24 (fun a' w' => ∃ v, a' = x.put (some 2) v ∧ (v = .bool true) ∧ Below w.heap.size w w') x w := by
  have ho : swh14_ops[24]? = some swh14_o24 := rfl
  simp only [Array.getD_eq_getD_getElem?] at u1 u4 u5
  have q23 : x.tmps.getD 93 undef = .bool true := p23
  simp only [Array.getD_eq_getD_getElem?] at q23
  refine wpOpIn_plain ho rfl (oper_inK hF.fn (fun K hK => ?_))
  clear ho
  rw [Oper.semAt_plain Fc _ _ (by intro c h; cases h)]
  simp only [swh14_o24]
  go_simp
  exact hK _ _ ⟨_, act_putD x hdef _ _, rfl, Below.refl _ _⟩

set_option maxRecDepth 100000 in
set_option maxHeartbeats 4000000 in
theorem swh14 {Fc : Fence} (hF : Wide Fc) {nC : Nat} (AA : Option Addr) (m CA b1 : Nat) (F : Nat → Nat → Bool) (H G : Nat → Bool) (Q : Exit → Act → World → Prop) (t0 : Array Value) (df : List Deferred) (w0 : World) (ht : t0.size = 94)
    (hs1 : t0.getD 1 undef = .pointer (some ⟨b1, 0, none⟩)) (hs4 : t0.getD 4 undef = .slice AA m CA) (hs5 : t0.getD 5 undef = .int .i64 ((bl H 256).length : Nat))
    (hS : SBox w0 b1 H) (hA : Sets w0 AA m F) (hm : Hid (m ≤ 1000)) (hU : ∀ b, b < 256 → anyS F m b = H b) (hT : Tab w0) (hGe : Hid (inz (fun i => (bl H 256).getD i 0) (bl H 256).length = G))
    (hQ : ∀ (vs : Nat → Value) (w : World), Below w0.heap.size w0 w → (vs 2 = .bool true) → Q .normal { tmps := [70, 71, 72, 73, 74, 75, 76, 77, 78, 79, 80, 81, 82, 83, 84, 85, 86, 87, 88, 89, 90, 91, 92, 93, 2].foldl (fun y d => y.setIfInBounds d (vs d)) t0, defers := df } w) :
    (Code.region 14 swh14_ops true).wpIn Fc nC Tryd.prog Q { tmps := t0, defers := df } w0 := by
  refine wpIn_region_tail 25 (by decide) (by kernel_rfl) (fun a b => Below a.heap.size a b) (swh14_val AA m CA b1 F H G) t0 df w0 (by rw [ht]; kernel_rfl) (by kernel_rfl) (by kernel_rfl) (by kernel_rfl) ((Below.refl _ _).drew) (fun _ _ _ h k => h.trans (k.mono h.size)) (swh14_below AA m CA b1 F H G) ?_ ?_
  · intro j o ho hj x w hB hdef hsz hs hdeps
    have hs' : ∀ s, ¬ swh14_mem s → x.tmps.getD s undef = t0.getD s undef := fun s hn => hs s (fun j hj e => hn (by rw [e]; exact swh14_slots j hj))
    have u1 := (hs' 1 (by decide)).trans hs1
    have u4 := (hs' 4 (by decide)).trans hs4
    have u5 := (hs' 5 (by decide)).trans hs5
    match j, ho, hj with
    | 0, ho, _ =>
      have e : o = swh14_o0 := (Option.some.inj ho).symm
      subst e
      exact swh14_s0 hF AA m CA b1 F H G Q df w0 hS hA hm hU hT hGe x w hB hdef u1 u4 u5 
    | 1, ho, _ =>
      have e : o = swh14_o1 := (Option.some.inj ho).symm
      subst e
      exact swh14_s1 hF AA m CA b1 F H G Q df w0 hS hA hm hU hT hGe x w hB hdef u1 u4 u5 (hdeps { on := 0, ground := Ground.data } (by simp) rfl)
    | 2, ho, _ =>
      have e : o = swh14_o2 := (Option.some.inj ho).symm
      subst e
      exact swh14_s2 hF AA m CA b1 F H G Q df w0 hS hA hm hU hT hGe x w hB hdef u1 u4 u5 
    | 3, ho, _ =>
      have e : o = swh14_o3 := (Option.some.inj ho).symm
      subst e
      exact swh14_s3 hF AA m CA b1 F H G Q df w0 hS hA hm hU hT hGe x w hB hdef u1 u4 u5 (hdeps { on := 1, ground := Ground.data } (by simp) rfl) (hdeps { on := 2, ground := Ground.data } (by simp) rfl)
    | 4, ho, _ =>
      have e : o = swh14_o4 := (Option.some.inj ho).symm
      subst e
      exact swh14_s4 hF AA m CA b1 F H G Q df w0 hS hA hm hU hT hGe x w hB hdef u1 u4 u5 (hdeps { on := 3, ground := Ground.data } (by simp) rfl)
    | 5, ho, _ =>
      have e : o = swh14_o5 := (Option.some.inj ho).symm
      subst e
      exact swh14_s5 hF AA m CA b1 F H G Q df w0 hS hA hm hU hT hGe x w hB hdef u1 u4 u5 (hdeps { on := 4, ground := Ground.guard } (by simp) rfl)
    | 6, ho, _ =>
      have e : o = swh14_o6 := (Option.some.inj ho).symm
      subst e
      exact swh14_s6 hF AA m CA b1 F H G Q df w0 hS hA hm hU hT hGe x w hB hdef u1 u4 u5 (hdeps { on := 5, ground := Ground.data } (by simp) rfl) (hdeps { on := 4, ground := Ground.guard } (by simp) rfl)
    | 7, ho, _ =>
      have e : o = swh14_o7 := (Option.some.inj ho).symm
      subst e
      exact swh14_s7 hF AA m CA b1 F H G Q df w0 hS hA hm hU hT hGe x w hB hdef u1 u4 u5 (hdeps { on := 6, ground := Ground.data } (by simp) rfl) (hdeps { on := 4, ground := Ground.guard } (by simp) rfl)
    | 8, ho, _ =>
      have e : o = swh14_o8 := (Option.some.inj ho).symm
      subst e
      exact swh14_s8 hF AA m CA b1 F H G Q df w0 hS hA hm hU hT hGe x w hB hdef u1 u4 u5 (hdeps { on := 4, ground := Ground.guard } (by simp) rfl)
    | 9, ho, _ =>
      have e : o = swh14_o9 := (Option.some.inj ho).symm
      subst e
      exact swh14_s9 hF AA m CA b1 F H G Q df w0 hS hA hm hU hT hGe x w hB hdef u1 u4 u5 (hdeps { on := 7, ground := Ground.data } (by simp) rfl) (hdeps { on := 8, ground := Ground.data } (by simp) rfl) (hdeps { on := 4, ground := Ground.guard } (by simp) rfl)
    | 10, ho, _ =>
      have e : o = swh14_o10 := (Option.some.inj ho).symm
      subst e
      exact swh14_s10 hF AA m CA b1 F H G Q df w0 hS hA hm hU hT hGe x w hB hdef u1 u4 u5 (hdeps { on := 4, ground := Ground.data } (by simp) rfl) (hdeps { on := 9, ground := Ground.data } (by simp) rfl)
    | 11, ho, _ =>
      have e : o = swh14_o11 := (Option.some.inj ho).symm
      subst e
      exact swh14_s11 hF AA m CA b1 F H G Q df w0 hS hA hm hU hT hGe x w hB hdef u1 u4 u5 (hdeps { on := 10, ground := Ground.data } (by simp) rfl)
    | 12, ho, _ =>
      have e : o = swh14_o12 := (Option.some.inj ho).symm
      subst e
      exact swh14_s12 hF AA m CA b1 F H G Q df w0 hS hA hm hU hT hGe x w hB hdef u1 u4 u5 (hdeps { on := 11, ground := Ground.guard } (by simp) rfl)
    | 13, ho, _ =>
      have e : o = swh14_o13 := (Option.some.inj ho).symm
      subst e
      exact swh14_s13 hF AA m CA b1 F H G Q df w0 hS hA hm hU hT hGe x w hB hdef u1 u4 u5 (hdeps { on := 11, ground := Ground.guard } (by simp) rfl)
    | 14, ho, _ =>
      have e : o = swh14_o14 := (Option.some.inj ho).symm
      subst e
      exact swh14_s14 hF AA m CA b1 F H G Q df w0 hS hA hm hU hT hGe x w hB hdef u1 u4 u5 (hdeps { on := 13, ground := Ground.data } (by simp) rfl) (hdeps { on := 11, ground := Ground.guard } (by simp) rfl)
    | 15, ho, _ =>
      have e : o = swh14_o15 := (Option.some.inj ho).symm
      subst e
      exact swh14_s15 hF AA m CA b1 F H G Q df w0 hS hA hm hU hT hGe x w hB hdef u1 u4 u5 (hdeps { on := 12, ground := Ground.data } (by simp) rfl) (hdeps { on := 14, ground := Ground.data } (by simp) rfl) (hdeps { on := 11, ground := Ground.guard } (by simp) rfl)
    | 16, ho, _ =>
      have e : o = swh14_o16 := (Option.some.inj ho).symm
      subst e
      exact swh14_s16 hF AA m CA b1 F H G Q df w0 hS hA hm hU hT hGe x w hB hdef u1 u4 u5 (hdeps { on := 11, ground := Ground.data } (by simp) rfl) (hdeps { on := 15, ground := Ground.data } (by simp) rfl)
    | 17, ho, _ =>
      have e : o = swh14_o17 := (Option.some.inj ho).symm
      subst e
      exact swh14_s17 hF AA m CA b1 F H G Q df w0 hS hA hm hU hT hGe x w hB hdef u1 u4 u5 (hdeps { on := 16, ground := Ground.data } (by simp) rfl)
    | 18, ho, _ =>
      have e : o = swh14_o18 := (Option.some.inj ho).symm
      subst e
      exact swh14_s18 hF AA m CA b1 F H G Q df w0 hS hA hm hU hT hGe x w hB hdef u1 u4 u5 (hdeps { on := 17, ground := Ground.guard } (by simp) rfl)
    | 19, ho, _ =>
      have e : o = swh14_o19 := (Option.some.inj ho).symm
      subst e
      exact swh14_s19 hF AA m CA b1 F H G Q df w0 hS hA hm hU hT hGe x w hB hdef u1 u4 u5 (hdeps { on := 18, ground := Ground.data } (by simp) rfl) (hdeps { on := 17, ground := Ground.guard } (by simp) rfl)
    | 20, ho, _ =>
      have e : o = swh14_o20 := (Option.some.inj ho).symm
      subst e
      exact swh14_s20 hF AA m CA b1 F H G Q df w0 hS hA hm hU hT hGe x w hB hdef u1 u4 u5 (hdeps { on := 19, ground := Ground.data } (by simp) rfl) (hdeps { on := 17, ground := Ground.guard } (by simp) rfl)
    | 21, ho, _ =>
      have e : o = swh14_o21 := (Option.some.inj ho).symm
      subst e
      exact swh14_s21 hF AA m CA b1 F H G Q df w0 hS hA hm hU hT hGe x w hB hdef u1 u4 u5 (hdeps { on := 17, ground := Ground.guard } (by simp) rfl)
    | 22, ho, _ =>
      have e : o = swh14_o22 := (Option.some.inj ho).symm
      subst e
      exact swh14_s22 hF AA m CA b1 F H G Q df w0 hS hA hm hU hT hGe x w hB hdef u1 u4 u5 (hdeps { on := 20, ground := Ground.data } (by simp) rfl) (hdeps { on := 21, ground := Ground.data } (by simp) rfl) (hdeps { on := 17, ground := Ground.guard } (by simp) rfl)
    | 23, ho, _ =>
      have e : o = swh14_o23 := (Option.some.inj ho).symm
      subst e
      exact swh14_s23 hF AA m CA b1 F H G Q df w0 hS hA hm hU hT hGe x w hB hdef u1 u4 u5 (hdeps { on := 17, ground := Ground.data } (by simp) rfl) (hdeps { on := 22, ground := Ground.data } (by simp) rfl)
    | 24, ho, _ =>
      have e : o = swh14_o24 := (Option.some.inj ho).symm
      subst e
      exact swh14_s24 hF AA m CA b1 F H G Q df w0 hS hA hm hU hT hGe x w hB hdef u1 u4 u5 (hdeps { on := 23, ground := Ground.data } (by simp) rfl)
    | k + 25, _, hj => omega
  · intro x w hB hdef hsz hs hv
    have hx := frame_sets x.tmps t0 hsz [70, 71, 72, 73, 74, 75, 76, 77, 78, 79, 80, 81, 82, 83, 84, 85, 86, 87, 88, 89, 90, 91, 92, 93, 2] (fun s hn => hs s (fun j hj e => hn (by rw [e]; exact swh14_slots j hj)))
    have hq := hQ (fun d => x.tmps.getD d undef) w hB (hv 24 (by decide))
    obtain ⟨T, Df⟩ := x
    dsimp only at hx hdef hq
    subst hdef
    rw [← hx] at hq
    exact hq
end Go.Proofs.YtmnjicpgdhnimaaDoor
