/-
  SetAlgebra's regions (written by tools/gen-salg.py).
-/
import Derived.Test.YtmnjicpgdhnimaaDoorSOne
import Derived.Test.YtmnjicpgdhnimaaDoorSAlgM
namespace Go.Proofs.YtmnjicpgdhnimaaDoor
open Go.RowKit Go.Shelf
set_option linter.unusedVariables false
set_option linter.unusedSimpArgs false

abbrev salg3_o0 : Oper := { dst := some 15, op := Op.load 24 (Operand.tmp 3), type := 24, pos := "outright.go:15", after := #[], guard := none }
abbrev salg3_o1 : Oper := { dst := some 16, op := Op.load 24 (Operand.tmp 4), type := 24, pos := "outright.go:15", after := #[], guard := none }
abbrev salg3_o2 : Oper := { dst := some 17, op := Op.load 24 (Operand.tmp 5), type := 24, pos := "outright.go:15", after := #[], guard := none }
abbrev salg3_o3 : Oper := { dst := some 18, op := Op.buildSlice 31 3 #[(0, Operand.tmp 15), (1, Operand.tmp 16), (2, Operand.tmp 17)], type := 31, pos := "outright.go:15", after := #[{ on := 0, ground := Ground.data }, { on := 1, ground := Ground.data }, { on := 2, ground := Ground.data }], guard := none }
abbrev salg3_o4 : Oper := { dst := some 19, op := Op.call { callee := Callee.value (Operand.func 17), args := #[Operand.tmp 18], argTypes := #[31] }, type := 24, pos := "outright.go:15", after := #[{ on := 3, ground := Ground.data }], guard := none }
abbrev salg3_o5 : Oper := { dst := some 20, op := Op.load 24 (Operand.tmp 3), type := 24, pos := "outright.go:15", after := #[], guard := none }
abbrev salg3_o6 : Oper := { dst := some 21, op := Op.load 24 (Operand.tmp 4), type := 24, pos := "outright.go:15", after := #[], guard := none }
abbrev salg3_o7 : Oper := { dst := some 22, op := Op.load 24 (Operand.tmp 5), type := 24, pos := "outright.go:15", after := #[], guard := none }
abbrev salg3_o8 : Oper := { dst := some 23, op := Op.buildSlice 31 3 #[(0, Operand.tmp 20), (1, Operand.tmp 21), (2, Operand.tmp 22)], type := 31, pos := "outright.go:15", after := #[{ on := 5, ground := Ground.data }, { on := 6, ground := Ground.data }, { on := 7, ground := Ground.data }], guard := none }
abbrev salg3_o9 : Oper := { dst := some 24, op := Op.call { callee := Callee.value (Operand.func 19), args := #[Operand.tmp 23], argTypes := #[31] }, type := 24, pos := "outright.go:15", after := #[{ on := 8, ground := Ground.data }, { on := 4, ground := Ground.chain }], guard := none }
abbrev salg3_o10 : Oper := { dst := some 25, op := Op.load 24 (Operand.tmp 3), type := 24, pos := "outright.go:15", after := #[], guard := none }
abbrev salg3_o11 : Oper := { dst := some 26, op := Op.call { callee := Callee.value (Operand.func 22), args := #[Operand.tmp 25], argTypes := #[24] }, type := 24, pos := "outright.go:15", after := #[{ on := 10, ground := Ground.data }, { on := 9, ground := Ground.chain }], guard := none }
abbrev salg3_o12 : Oper := { dst := some 7, op := Op.alloc 24, type := 0, pos := "outright.go:15", after := #[], guard := none }
abbrev salg3_o13 : Oper := { dst := some 8, op := Op.alloc 24, type := 0, pos := "outright.go:15", after := #[], guard := none }
abbrev salg3_o14 : Oper := { dst := some 9, op := Op.alloc 24, type := 0, pos := "outright.go:15", after := #[], guard := none }
abbrev salg3_o15 : Oper := { dst := none, op := Op.store 24 (Operand.tmp 7) (Operand.tmp 19), type := 0, pos := "outright.go:15", after := #[{ on := 12, ground := Ground.data }, { on := 4, ground := Ground.data }, { on := 11, ground := Ground.chain }, { on := 0, ground := Ground.phase }, { on := 1, ground := Ground.phase }, { on := 2, ground := Ground.phase }, { on := 3, ground := Ground.phase }, { on := 4, ground := Ground.phase }, { on := 5, ground := Ground.textOnly Departure.lateStores }, { on := 6, ground := Ground.textOnly Departure.lateStores }, { on := 7, ground := Ground.textOnly Departure.lateStores }, { on := 8, ground := Ground.textOnly Departure.lateStores }, { on := 9, ground := Ground.textOnly Departure.lateStoresUnsure }, { on := 10, ground := Ground.textOnly Departure.lateStores }, { on := 11, ground := Ground.textOnly Departure.lateStoresUnsure }, { on := 12, ground := Ground.phase }, { on := 13, ground := Ground.phase }, { on := 14, ground := Ground.phase }], guard := none }
abbrev salg3_o16 : Oper := { dst := none, op := Op.store 24 (Operand.tmp 8) (Operand.tmp 24), type := 0, pos := "outright.go:15", after := #[{ on := 13, ground := Ground.data }, { on := 9, ground := Ground.data }, { on := 15, ground := Ground.chain }, { on := 0, ground := Ground.phase }, { on := 1, ground := Ground.phase }, { on := 2, ground := Ground.phase }, { on := 3, ground := Ground.phase }, { on := 4, ground := Ground.phase }, { on := 5, ground := Ground.phase }, { on := 6, ground := Ground.phase }, { on := 7, ground := Ground.phase }, { on := 8, ground := Ground.phase }, { on := 9, ground := Ground.phase }, { on := 10, ground := Ground.textOnly Departure.lateStores }, { on := 11, ground := Ground.textOnly Departure.lateStoresUnsure }, { on := 12, ground := Ground.phase }, { on := 13, ground := Ground.phase }, { on := 14, ground := Ground.phase }, { on := 15, ground := Ground.phase }], guard := none }
abbrev salg3_o17 : Oper := { dst := none, op := Op.store 24 (Operand.tmp 9) (Operand.tmp 26), type := 0, pos := "outright.go:15", after := #[{ on := 14, ground := Ground.data }, { on := 11, ground := Ground.data }, { on := 16, ground := Ground.chain }, { on := 0, ground := Ground.phase }, { on := 1, ground := Ground.phase }, { on := 2, ground := Ground.phase }, { on := 3, ground := Ground.phase }, { on := 4, ground := Ground.phase }, { on := 5, ground := Ground.phase }, { on := 6, ground := Ground.phase }, { on := 7, ground := Ground.phase }, { on := 8, ground := Ground.phase }, { on := 9, ground := Ground.phase }, { on := 10, ground := Ground.phase }, { on := 11, ground := Ground.phase }, { on := 12, ground := Ground.phase }, { on := 13, ground := Ground.phase }, { on := 14, ground := Ground.phase }, { on := 15, ground := Ground.phase }, { on := 16, ground := Ground.phase }], guard := none }
def salg3_ops : Array Oper := #[salg3_o0, salg3_o1, salg3_o2, salg3_o3, salg3_o4, salg3_o5, salg3_o6, salg3_o7, salg3_o8, salg3_o9, salg3_o10, salg3_o11, salg3_o12, salg3_o13, salg3_o14, salg3_o15, salg3_o16, salg3_o17]
abbrev salg3_mem (s : Nat) : Prop := s ∈ [15, 16, 17, 18, 19, 20, 21, 22, 23, 24, 25, 26, 7, 8, 9]
set_option maxRecDepth 100000 in
theorem salg3_slots : ∀ j, j < 15 → salg3_mem (slotOf salg3_ops j) := by
  intro j hj
  match j, hj with
  | 0, _ => exact (by decide : salg3_mem 15)
  | 1, _ => exact (by decide : salg3_mem 16)
  | 2, _ => exact (by decide : salg3_mem 17)
  | 3, _ => exact (by decide : salg3_mem 18)
  | 4, _ => exact (by decide : salg3_mem 19)
  | 5, _ => exact (by decide : salg3_mem 20)
  | 6, _ => exact (by decide : salg3_mem 21)
  | 7, _ => exact (by decide : salg3_mem 22)
  | 8, _ => exact (by decide : salg3_mem 23)
  | 9, _ => exact (by decide : salg3_mem 24)
  | 10, _ => exact (by decide : salg3_mem 25)
  | 11, _ => exact (by decide : salg3_mem 26)
  | 12, _ => exact (by decide : salg3_mem 7)
  | 13, _ => exact (by decide : salg3_mem 8)
  | 14, _ => exact (by decide : salg3_mem 9)
  | k + 15, hj => omega
def salg3_val (b3 b4 b5 : Nat) (A B C : Nat → Bool) (N0 : Nat) : Nat → Value → World → Prop
  | 0, v, w => v = sv A
  | 1, v, w => v = sv B
  | 2, v, w => v = sv C
  | 3, v, w => ∃ g, v = .slice (some ⟨g, 0, none⟩) 3 3 ∧ Sets w (some ⟨g, 0, none⟩) 3 (three A B C)
  | 4, v, w => v = sv (anyS (three A B C) 3)
  | 5, v, w => v = sv A
  | 6, v, w => v = sv B
  | 7, v, w => v = sv C
  | 8, v, w => ∃ g, v = .slice (some ⟨g, 0, none⟩) 3 3 ∧ Sets w (some ⟨g, 0, none⟩) 3 (three A B C)
  | 9, v, w => v = sv (allS (three A B C) 3)
  | 10, v, w => v = sv A
  | 11, v, w => v = sv (fun b => !A b)
  | 12, v, w => ∃ g, v = .pointer (some ⟨g, 0, none⟩) ∧ SBox w g nobs ∧ N0 ≤ g
  | 13, v, w => ∃ g, v = .pointer (some ⟨g, 0, none⟩) ∧ SBox w g nobs ∧ N0 ≤ g
  | 14, v, w => ∃ g, v = .pointer (some ⟨g, 0, none⟩) ∧ SBox w g nobs ∧ N0 ≤ g
  | _, _, _ => True
theorem salg3_below (b3 b4 b5 : Nat) (A B C : Nat → Bool) (N0 : Nat) (w w' : World) (hb : Below w.heap.size w w') : ∀ j v, salg3_val b3 b4 b5 A B C N0 j v w → salg3_val b3 b4 b5 A B C N0 j v w' := by
  intro j v h
  match j, h with
  | 0, h => exact h
  | 1, h => exact h
  | 2, h => exact h
  | 3, h => obtain ⟨g, h1, h2⟩ := h; exact ⟨g, h1, h2.below hb⟩
  | 4, h => exact h
  | 5, h => exact h
  | 6, h => exact h
  | 7, h => exact h
  | 8, h => obtain ⟨g, h1, h2⟩ := h; exact ⟨g, h1, h2.below hb⟩
  | 9, h => exact h
  | 10, h => exact h
  | 11, h => exact h
  | 12, h => obtain ⟨g, h1, h2, h3⟩ := h; exact ⟨g, h1, h2.below hb h2.lt, h3⟩
  | 13, h => obtain ⟨g, h1, h2, h3⟩ := h; exact ⟨g, h1, h2.below hb h2.lt, h3⟩
  | 14, h => obtain ⟨g, h1, h2, h3⟩ := h; exact ⟨g, h1, h2.below hb h2.lt, h3⟩
  | _ + 15, h => exact h
set_option maxRecDepth 100000 in
set_option maxHeartbeats 2000000 in
theorem salg3_s0 {F : Fence} (hF : Wide F) {n : Nat} (b3 b4 b5 : Nat) (A B C : Nat → Bool) (N0 : Nat) (Q : Exit → Act → World → Prop) (df : List Deferred) (w0 : World)
    (h3 : SBox w0 b3 A) (h4 : SBox w0 b4 B) (h5 : SBox w0 b5 C) (hT : Tab w0)
    (hN0 : w0.heap.size = N0)
    (x : Act) (w : World) (hB : Below w0.heap.size w0 w) (hdef : x.defers = df) (u3 : x.tmps.getD 3 undef = .pointer (some ⟨b3, 0, none⟩)) (u4 : x.tmps.getD 4 undef = .pointer (some ⟨b4, 0, none⟩)) (u5 : x.tmps.getD 5 undef = .pointer (some ⟨b5, 0, none⟩))
    : wpOpIn F n Tryd.prog salg3_ops Q 0 (fun a' w' => ∃ v, a' = x.put (some 15) v ∧ (v = sv A) ∧ Below w.heap.size w w') x w := by
  have ho : salg3_ops[0]? = some salg3_o0 := rfl
  simp only [Array.getD_eq_getD_getElem?] at u3 u4 u5
  have hsb := h3.below hB h3.lt
  have c0 := hsb.cell 0 (by omega)
  have c1 := hsb.cell 1 (by omega)
  have c2 := hsb.cell 2 (by omega)
  have c3 := hsb.cell 3 (by omega)
  refine wpOpIn_plain ho rfl (oper_inK hF.fn (fun K hK => ?_))
  clear ho
  rw [Oper.semAt_plain F _ _ (by intro c h; cases h)]
  simp only [salg3_o0]
  go_simp
  exact hK _ _ ⟨_, act_putD x hdef _ _, rfl, Below.refl _ _⟩
set_option maxRecDepth 100000 in
set_option maxHeartbeats 2000000 in
theorem salg3_s1 {F : Fence} (hF : Wide F) {n : Nat} (b3 b4 b5 : Nat) (A B C : Nat → Bool) (N0 : Nat) (Q : Exit → Act → World → Prop) (df : List Deferred) (w0 : World)
    (h3 : SBox w0 b3 A) (h4 : SBox w0 b4 B) (h5 : SBox w0 b5 C) (hT : Tab w0)
    (hN0 : w0.heap.size = N0)
    (x : Act) (w : World) (hB : Below w0.heap.size w0 w) (hdef : x.defers = df) (u3 : x.tmps.getD 3 undef = .pointer (some ⟨b3, 0, none⟩)) (u4 : x.tmps.getD 4 undef = .pointer (some ⟨b4, 0, none⟩)) (u5 : x.tmps.getD 5 undef = .pointer (some ⟨b5, 0, none⟩))
    : wpOpIn F n Tryd.prog salg3_ops Q 1 (fun a' w' => ∃ v, a' = x.put (some 16) v ∧ (v = sv B) ∧ Below w.heap.size w w') x w := by
  have ho : salg3_ops[1]? = some salg3_o1 := rfl
  simp only [Array.getD_eq_getD_getElem?] at u3 u4 u5
  have hsb := h4.below hB h4.lt
  have c0 := hsb.cell 0 (by omega)
  have c1 := hsb.cell 1 (by omega)
  have c2 := hsb.cell 2 (by omega)
  have c3 := hsb.cell 3 (by omega)
  refine wpOpIn_plain ho rfl (oper_inK hF.fn (fun K hK => ?_))
  clear ho
  rw [Oper.semAt_plain F _ _ (by intro c h; cases h)]
  simp only [salg3_o1]
  go_simp
  exact hK _ _ ⟨_, act_putD x hdef _ _, rfl, Below.refl _ _⟩
set_option maxRecDepth 100000 in
set_option maxHeartbeats 2000000 in
theorem salg3_s2 {F : Fence} (hF : Wide F) {n : Nat} (b3 b4 b5 : Nat) (A B C : Nat → Bool) (N0 : Nat) (Q : Exit → Act → World → Prop) (df : List Deferred) (w0 : World)
    (h3 : SBox w0 b3 A) (h4 : SBox w0 b4 B) (h5 : SBox w0 b5 C) (hT : Tab w0)
    (hN0 : w0.heap.size = N0)
    (x : Act) (w : World) (hB : Below w0.heap.size w0 w) (hdef : x.defers = df) (u3 : x.tmps.getD 3 undef = .pointer (some ⟨b3, 0, none⟩)) (u4 : x.tmps.getD 4 undef = .pointer (some ⟨b4, 0, none⟩)) (u5 : x.tmps.getD 5 undef = .pointer (some ⟨b5, 0, none⟩))
    : wpOpIn F n Tryd.prog salg3_ops Q 2 (fun a' w' => ∃ v, a' = x.put (some 17) v ∧ (v = sv C) ∧ Below w.heap.size w w') x w := by
  have ho : salg3_ops[2]? = some salg3_o2 := rfl
  simp only [Array.getD_eq_getD_getElem?] at u3 u4 u5
  have hsb := h5.below hB h5.lt
  have c0 := hsb.cell 0 (by omega)
  have c1 := hsb.cell 1 (by omega)
  have c2 := hsb.cell 2 (by omega)
  have c3 := hsb.cell 3 (by omega)
  refine wpOpIn_plain ho rfl (oper_inK hF.fn (fun K hK => ?_))
  clear ho
  rw [Oper.semAt_plain F _ _ (by intro c h; cases h)]
  simp only [salg3_o2]
  go_simp
  exact hK _ _ ⟨_, act_putD x hdef _ _, rfl, Below.refl _ _⟩
set_option maxRecDepth 100000 in
set_option maxHeartbeats 2000000 in
theorem salg3_s3 {F : Fence} (hF : Wide F) {n : Nat} (b3 b4 b5 : Nat) (A B C : Nat → Bool) (N0 : Nat) (Q : Exit → Act → World → Prop) (df : List Deferred) (w0 : World)
    (h3 : SBox w0 b3 A) (h4 : SBox w0 b4 B) (h5 : SBox w0 b5 C) (hT : Tab w0)
    (hN0 : w0.heap.size = N0)
    (x : Act) (w : World) (hB : Below w0.heap.size w0 w) (hdef : x.defers = df) (u3 : x.tmps.getD 3 undef = .pointer (some ⟨b3, 0, none⟩)) (u4 : x.tmps.getD 4 undef = .pointer (some ⟨b4, 0, none⟩)) (u5 : x.tmps.getD 5 undef = .pointer (some ⟨b5, 0, none⟩))
    (p0 : salg3_val b3 b4 b5 A B C N0 0 (x.tmps.getD 15 undef) w)
    (p1 : salg3_val b3 b4 b5 A B C N0 1 (x.tmps.getD 16 undef) w)
    (p2 : salg3_val b3 b4 b5 A B C N0 2 (x.tmps.getD 17 undef) w)
    : wpOpIn F n Tryd.prog salg3_ops Q 3 (fun a' w' => ∃ v, a' = x.put (some 18) v ∧ (∃ g, v = .slice (some ⟨g, 0, none⟩) 3 3 ∧ Sets w' (some ⟨g, 0, none⟩) 3 (three A B C)) ∧ Below w.heap.size w w') x w := by
  have ho : salg3_ops[3]? = some salg3_o3 := rfl
  simp only [Array.getD_eq_getD_getElem?] at u3 u4 u5
  have q0 : x.tmps.getD 15 undef = sv A := p0
  have q1 : x.tmps.getD 16 undef = sv B := p1
  have q2 : x.tmps.getD 17 undef = sv C := p2
  simp only [Array.getD_eq_getD_getElem?] at q0 q1 q2
  simp only [sv, st, sc] at q0 q1 q2
  refine wpOpIn_plain ho rfl (oper_inK hF.fn (fun K hK => ?_))
  clear ho
  rw [Oper.semAt_plain F _ _ (by intro c h; cases h)]
  simp only [salg3_o3]
  go_simp
  exact hK _ _ ⟨_, act_putD x hdef _ _, ⟨_, rfl, three_sets w w.heap.size rfl A B C _⟩, below_alloc _ _⟩
set_option maxRecDepth 100000 in
set_option maxHeartbeats 2000000 in
theorem salg3_s4 {F : Fence} (hF : Wide F) {n : Nat} (b3 b4 b5 : Nat) (A B C : Nat → Bool) (N0 : Nat) (Q : Exit → Act → World → Prop) (df : List Deferred) (w0 : World)
    (h3 : SBox w0 b3 A) (h4 : SBox w0 b4 B) (h5 : SBox w0 b5 C) (hT : Tab w0)
    (hN0 : w0.heap.size = N0)
    (x : Act) (w : World) (hB : Below w0.heap.size w0 w) (hdef : x.defers = df) (u3 : x.tmps.getD 3 undef = .pointer (some ⟨b3, 0, none⟩)) (u4 : x.tmps.getD 4 undef = .pointer (some ⟨b4, 0, none⟩)) (u5 : x.tmps.getD 5 undef = .pointer (some ⟨b5, 0, none⟩))
    (p3 : salg3_val b3 b4 b5 A B C N0 3 (x.tmps.getD 18 undef) w)
    : wpOpIn F n Tryd.prog salg3_ops Q 4 (fun a' w' => ∃ v, a' = x.put (some 19) v ∧ (v = sv (anyS (three A B C) 3)) ∧ Below w.heap.size w w') x w := by
  have ho : salg3_ops[4]? = some salg3_o4 := rfl
  simp only [Array.getD_eq_getD_getElem?] at u3 u4 u5
  obtain ⟨g3, q3, p3⟩ := p3
  have q3 : x.tmps.getD 18 undef = .slice (some ⟨g3, 0, none⟩) 3 3 := q3
  simp only [Array.getD_eq_getD_getElem?] at q3
  refine wpOpIn_plain ho rfl (oper_inK hF.fn (fun K hK => ?_))
  clear ho
  rw [Oper.semAt_plain F _ _ (by intro c h; cases h)]
  simp only [salg3_o4]
  go_simp
  refine ⟨hF.deep, (hF.call (union_any _ 3 3 (three A B C) w (by omega) p3)).mono ?_⟩
  rintro e w' ⟨rfl, hb⟩
  exact hK _ _ ⟨_, act_putD x hdef _ _, rfl, hb⟩
set_option maxRecDepth 100000 in
set_option maxHeartbeats 2000000 in
theorem salg3_s5 {F : Fence} (hF : Wide F) {n : Nat} (b3 b4 b5 : Nat) (A B C : Nat → Bool) (N0 : Nat) (Q : Exit → Act → World → Prop) (df : List Deferred) (w0 : World)
    (h3 : SBox w0 b3 A) (h4 : SBox w0 b4 B) (h5 : SBox w0 b5 C) (hT : Tab w0)
    (hN0 : w0.heap.size = N0)
    (x : Act) (w : World) (hB : Below w0.heap.size w0 w) (hdef : x.defers = df) (u3 : x.tmps.getD 3 undef = .pointer (some ⟨b3, 0, none⟩)) (u4 : x.tmps.getD 4 undef = .pointer (some ⟨b4, 0, none⟩)) (u5 : x.tmps.getD 5 undef = .pointer (some ⟨b5, 0, none⟩))
    : wpOpIn F n Tryd.prog salg3_ops Q 5 (fun a' w' => ∃ v, a' = x.put (some 20) v ∧ (v = sv A) ∧ Below w.heap.size w w') x w := by
  have ho : salg3_ops[5]? = some salg3_o5 := rfl
  simp only [Array.getD_eq_getD_getElem?] at u3 u4 u5
  have hsb := h3.below hB h3.lt
  have c0 := hsb.cell 0 (by omega)
  have c1 := hsb.cell 1 (by omega)
  have c2 := hsb.cell 2 (by omega)
  have c3 := hsb.cell 3 (by omega)
  refine wpOpIn_plain ho rfl (oper_inK hF.fn (fun K hK => ?_))
  clear ho
  rw [Oper.semAt_plain F _ _ (by intro c h; cases h)]
  simp only [salg3_o5]
  go_simp
  exact hK _ _ ⟨_, act_putD x hdef _ _, rfl, Below.refl _ _⟩
set_option maxRecDepth 100000 in
set_option maxHeartbeats 2000000 in
theorem salg3_s6 {F : Fence} (hF : Wide F) {n : Nat} (b3 b4 b5 : Nat) (A B C : Nat → Bool) (N0 : Nat) (Q : Exit → Act → World → Prop) (df : List Deferred) (w0 : World)
    (h3 : SBox w0 b3 A) (h4 : SBox w0 b4 B) (h5 : SBox w0 b5 C) (hT : Tab w0)
    (hN0 : w0.heap.size = N0)
    (x : Act) (w : World) (hB : Below w0.heap.size w0 w) (hdef : x.defers = df) (u3 : x.tmps.getD 3 undef = .pointer (some ⟨b3, 0, none⟩)) (u4 : x.tmps.getD 4 undef = .pointer (some ⟨b4, 0, none⟩)) (u5 : x.tmps.getD 5 undef = .pointer (some ⟨b5, 0, none⟩))
    : wpOpIn F n Tryd.prog salg3_ops Q 6 (fun a' w' => ∃ v, a' = x.put (some 21) v ∧ (v = sv B) ∧ Below w.heap.size w w') x w := by
  have ho : salg3_ops[6]? = some salg3_o6 := rfl
  simp only [Array.getD_eq_getD_getElem?] at u3 u4 u5
  have hsb := h4.below hB h4.lt
  have c0 := hsb.cell 0 (by omega)
  have c1 := hsb.cell 1 (by omega)
  have c2 := hsb.cell 2 (by omega)
  have c3 := hsb.cell 3 (by omega)
  refine wpOpIn_plain ho rfl (oper_inK hF.fn (fun K hK => ?_))
  clear ho
  rw [Oper.semAt_plain F _ _ (by intro c h; cases h)]
  simp only [salg3_o6]
  go_simp
  exact hK _ _ ⟨_, act_putD x hdef _ _, rfl, Below.refl _ _⟩
set_option maxRecDepth 100000 in
set_option maxHeartbeats 2000000 in
theorem salg3_s7 {F : Fence} (hF : Wide F) {n : Nat} (b3 b4 b5 : Nat) (A B C : Nat → Bool) (N0 : Nat) (Q : Exit → Act → World → Prop) (df : List Deferred) (w0 : World)
    (h3 : SBox w0 b3 A) (h4 : SBox w0 b4 B) (h5 : SBox w0 b5 C) (hT : Tab w0)
    (hN0 : w0.heap.size = N0)
    (x : Act) (w : World) (hB : Below w0.heap.size w0 w) (hdef : x.defers = df) (u3 : x.tmps.getD 3 undef = .pointer (some ⟨b3, 0, none⟩)) (u4 : x.tmps.getD 4 undef = .pointer (some ⟨b4, 0, none⟩)) (u5 : x.tmps.getD 5 undef = .pointer (some ⟨b5, 0, none⟩))
    : wpOpIn F n Tryd.prog salg3_ops Q 7 (fun a' w' => ∃ v, a' = x.put (some 22) v ∧ (v = sv C) ∧ Below w.heap.size w w') x w := by
  have ho : salg3_ops[7]? = some salg3_o7 := rfl
  simp only [Array.getD_eq_getD_getElem?] at u3 u4 u5
  have hsb := h5.below hB h5.lt
  have c0 := hsb.cell 0 (by omega)
  have c1 := hsb.cell 1 (by omega)
  have c2 := hsb.cell 2 (by omega)
  have c3 := hsb.cell 3 (by omega)
  refine wpOpIn_plain ho rfl (oper_inK hF.fn (fun K hK => ?_))
  clear ho
  rw [Oper.semAt_plain F _ _ (by intro c h; cases h)]
  simp only [salg3_o7]
  go_simp
  exact hK _ _ ⟨_, act_putD x hdef _ _, rfl, Below.refl _ _⟩
set_option maxRecDepth 100000 in
set_option maxHeartbeats 2000000 in
theorem salg3_s8 {F : Fence} (hF : Wide F) {n : Nat} (b3 b4 b5 : Nat) (A B C : Nat → Bool) (N0 : Nat) (Q : Exit → Act → World → Prop) (df : List Deferred) (w0 : World)
    (h3 : SBox w0 b3 A) (h4 : SBox w0 b4 B) (h5 : SBox w0 b5 C) (hT : Tab w0)
    (hN0 : w0.heap.size = N0)
    (x : Act) (w : World) (hB : Below w0.heap.size w0 w) (hdef : x.defers = df) (u3 : x.tmps.getD 3 undef = .pointer (some ⟨b3, 0, none⟩)) (u4 : x.tmps.getD 4 undef = .pointer (some ⟨b4, 0, none⟩)) (u5 : x.tmps.getD 5 undef = .pointer (some ⟨b5, 0, none⟩))
    (p5 : salg3_val b3 b4 b5 A B C N0 5 (x.tmps.getD 20 undef) w)
    (p6 : salg3_val b3 b4 b5 A B C N0 6 (x.tmps.getD 21 undef) w)
    (p7 : salg3_val b3 b4 b5 A B C N0 7 (x.tmps.getD 22 undef) w)
    : wpOpIn F n Tryd.prog salg3_ops Q 8 (fun a' w' => ∃ v, a' = x.put (some 23) v ∧ (∃ g, v = .slice (some ⟨g, 0, none⟩) 3 3 ∧ Sets w' (some ⟨g, 0, none⟩) 3 (three A B C)) ∧ Below w.heap.size w w') x w := by
  have ho : salg3_ops[8]? = some salg3_o8 := rfl
  simp only [Array.getD_eq_getD_getElem?] at u3 u4 u5
  have q5 : x.tmps.getD 20 undef = sv A := p5
  have q6 : x.tmps.getD 21 undef = sv B := p6
  have q7 : x.tmps.getD 22 undef = sv C := p7
  simp only [Array.getD_eq_getD_getElem?] at q5 q6 q7
  simp only [sv, st, sc] at q5 q6 q7
  refine wpOpIn_plain ho rfl (oper_inK hF.fn (fun K hK => ?_))
  clear ho
  rw [Oper.semAt_plain F _ _ (by intro c h; cases h)]
  simp only [salg3_o8]
  go_simp
  exact hK _ _ ⟨_, act_putD x hdef _ _, ⟨_, rfl, three_sets w w.heap.size rfl A B C _⟩, below_alloc _ _⟩
set_option maxRecDepth 100000 in
set_option maxHeartbeats 2000000 in
theorem salg3_s9 {F : Fence} (hF : Wide F) {n : Nat} (b3 b4 b5 : Nat) (A B C : Nat → Bool) (N0 : Nat) (Q : Exit → Act → World → Prop) (df : List Deferred) (w0 : World)
    (h3 : SBox w0 b3 A) (h4 : SBox w0 b4 B) (h5 : SBox w0 b5 C) (hT : Tab w0)
    (hN0 : w0.heap.size = N0)
    (x : Act) (w : World) (hB : Below w0.heap.size w0 w) (hdef : x.defers = df) (u3 : x.tmps.getD 3 undef = .pointer (some ⟨b3, 0, none⟩)) (u4 : x.tmps.getD 4 undef = .pointer (some ⟨b4, 0, none⟩)) (u5 : x.tmps.getD 5 undef = .pointer (some ⟨b5, 0, none⟩))
    (p8 : salg3_val b3 b4 b5 A B C N0 8 (x.tmps.getD 23 undef) w)
    : wpOpIn F n Tryd.prog salg3_ops Q 9 (fun a' w' => ∃ v, a' = x.put (some 24) v ∧ (v = sv (allS (three A B C) 3)) ∧ Below w.heap.size w w') x w := by
  have ho : salg3_ops[9]? = some salg3_o9 := rfl
  simp only [Array.getD_eq_getD_getElem?] at u3 u4 u5
  obtain ⟨g8, q8, p8⟩ := p8
  have q8 : x.tmps.getD 23 undef = .slice (some ⟨g8, 0, none⟩) 3 3 := q8
  simp only [Array.getD_eq_getD_getElem?] at q8
  refine wpOpIn_plain ho rfl (oper_inK hF.fn (fun K hK => ?_))
  clear ho
  rw [Oper.semAt_plain F _ _ (by intro c h; cases h)]
  simp only [salg3_o9]
  go_simp
  refine ⟨hF.deep, (hF.call (meet_any _ 3 3 (three A B C) w (by omega) p8 (hT.below hB))).mono ?_⟩
  rintro e w' ⟨rfl, hb⟩
  exact hK _ _ ⟨_, act_putD x hdef _ _, rfl, hb⟩
set_option maxRecDepth 100000 in
set_option maxHeartbeats 2000000 in
theorem salg3_s10 {F : Fence} (hF : Wide F) {n : Nat} (b3 b4 b5 : Nat) (A B C : Nat → Bool) (N0 : Nat) (Q : Exit → Act → World → Prop) (df : List Deferred) (w0 : World)
    (h3 : SBox w0 b3 A) (h4 : SBox w0 b4 B) (h5 : SBox w0 b5 C) (hT : Tab w0)
    (hN0 : w0.heap.size = N0)
    (x : Act) (w : World) (hB : Below w0.heap.size w0 w) (hdef : x.defers = df) (u3 : x.tmps.getD 3 undef = .pointer (some ⟨b3, 0, none⟩)) (u4 : x.tmps.getD 4 undef = .pointer (some ⟨b4, 0, none⟩)) (u5 : x.tmps.getD 5 undef = .pointer (some ⟨b5, 0, none⟩))
    : wpOpIn F n Tryd.prog salg3_ops Q 10 (fun a' w' => ∃ v, a' = x.put (some 25) v ∧ (v = sv A) ∧ Below w.heap.size w w') x w := by
  have ho : salg3_ops[10]? = some salg3_o10 := rfl
  simp only [Array.getD_eq_getD_getElem?] at u3 u4 u5
  have hsb := h3.below hB h3.lt
  have c0 := hsb.cell 0 (by omega)
  have c1 := hsb.cell 1 (by omega)
  have c2 := hsb.cell 2 (by omega)
  have c3 := hsb.cell 3 (by omega)
  refine wpOpIn_plain ho rfl (oper_inK hF.fn (fun K hK => ?_))
  clear ho
  rw [Oper.semAt_plain F _ _ (by intro c h; cases h)]
  simp only [salg3_o10]
  go_simp
  exact hK _ _ ⟨_, act_putD x hdef _ _, rfl, Below.refl _ _⟩
set_option maxRecDepth 100000 in
set_option maxHeartbeats 2000000 in
theorem salg3_s11 {F : Fence} (hF : Wide F) {n : Nat} (b3 b4 b5 : Nat) (A B C : Nat → Bool) (N0 : Nat) (Q : Exit → Act → World → Prop) (df : List Deferred) (w0 : World)
    (h3 : SBox w0 b3 A) (h4 : SBox w0 b4 B) (h5 : SBox w0 b5 C) (hT : Tab w0)
    (hN0 : w0.heap.size = N0)
    (x : Act) (w : World) (hB : Below w0.heap.size w0 w) (hdef : x.defers = df) (u3 : x.tmps.getD 3 undef = .pointer (some ⟨b3, 0, none⟩)) (u4 : x.tmps.getD 4 undef = .pointer (some ⟨b4, 0, none⟩)) (u5 : x.tmps.getD 5 undef = .pointer (some ⟨b5, 0, none⟩))
    (p10 : salg3_val b3 b4 b5 A B C N0 10 (x.tmps.getD 25 undef) w)
    : wpOpIn F n Tryd.prog salg3_ops Q 11 (fun a' w' => ∃ v, a' = x.put (some 26) v ∧ (v = sv (fun b => !A b)) ∧ Below w.heap.size w w') x w := by
  have ho : salg3_ops[11]? = some salg3_o11 := rfl
  simp only [Array.getD_eq_getD_getElem?] at u3 u4 u5
  have q10 : x.tmps.getD 25 undef = sv A := p10
  simp only [Array.getD_eq_getD_getElem?] at q10
  refine wpOpIn_plain ho rfl (oper_inK hF.fn (fun K hK => ?_))
  clear ho
  rw [Oper.semAt_plain F _ _ (by intro c h; cases h)]
  simp only [salg3_o11]
  go_simp
  refine ⟨hF.deep, (hF.call (not_any A w)).mono ?_⟩
  rintro e w' ⟨rfl, hb⟩
  exact hK _ _ ⟨_, act_putD x hdef _ _, rfl, hb⟩
set_option maxRecDepth 100000 in
set_option maxHeartbeats 2000000 in
theorem salg3_s12 {F : Fence} (hF : Wide F) {n : Nat} (b3 b4 b5 : Nat) (A B C : Nat → Bool) (N0 : Nat) (Q : Exit → Act → World → Prop) (df : List Deferred) (w0 : World)
    (h3 : SBox w0 b3 A) (h4 : SBox w0 b4 B) (h5 : SBox w0 b5 C) (hT : Tab w0)
    (hN0 : w0.heap.size = N0)
    (x : Act) (w : World) (hB : Below w0.heap.size w0 w) (hdef : x.defers = df) (u3 : x.tmps.getD 3 undef = .pointer (some ⟨b3, 0, none⟩)) (u4 : x.tmps.getD 4 undef = .pointer (some ⟨b4, 0, none⟩)) (u5 : x.tmps.getD 5 undef = .pointer (some ⟨b5, 0, none⟩))
    : wpOpIn F n Tryd.prog salg3_ops Q 12 (fun a' w' => ∃ v, a' = x.put (some 7) v ∧ (∃ g, v = .pointer (some ⟨g, 0, none⟩) ∧ SBox w' g nobs ∧ N0 ≤ g) ∧ Below w.heap.size w w' ∧ ∃ g, v = .pointer (some ⟨g, 0, none⟩) ∧ w.heap.size ≤ g) x w := by
  have ho : salg3_ops[12]? = some salg3_o12 := rfl
  simp only [Array.getD_eq_getD_getElem?] at u3 u4 u5
  refine wpOpIn_plain ho rfl (oper_inK hF.fn (fun K hK => ?_))
  clear ho
  rw [Oper.semAt_plain F _ _ (by intro c h; cases h)]
  simp only [salg3_o12]
  go_simp
  exact hK _ _ ⟨_, act_putD x hdef _ _, ⟨_, rfl, SBox.new w w.heap.size nobs rfl, hN0 ▸ hB.size⟩, below_alloc _ _, ⟨_, rfl, Nat.le_refl _⟩⟩
set_option maxRecDepth 100000 in
set_option maxHeartbeats 2000000 in
theorem salg3_s13 {F : Fence} (hF : Wide F) {n : Nat} (b3 b4 b5 : Nat) (A B C : Nat → Bool) (N0 : Nat) (Q : Exit → Act → World → Prop) (df : List Deferred) (w0 : World)
    (h3 : SBox w0 b3 A) (h4 : SBox w0 b4 B) (h5 : SBox w0 b5 C) (hT : Tab w0)
    (hN0 : w0.heap.size = N0)
    (x : Act) (w : World) (hB : Below w0.heap.size w0 w) (hdef : x.defers = df) (u3 : x.tmps.getD 3 undef = .pointer (some ⟨b3, 0, none⟩)) (u4 : x.tmps.getD 4 undef = .pointer (some ⟨b4, 0, none⟩)) (u5 : x.tmps.getD 5 undef = .pointer (some ⟨b5, 0, none⟩))
    : wpOpIn F n Tryd.prog salg3_ops Q 13 (fun a' w' => ∃ v, a' = x.put (some 8) v ∧ (∃ g, v = .pointer (some ⟨g, 0, none⟩) ∧ SBox w' g nobs ∧ N0 ≤ g) ∧ Below w.heap.size w w' ∧ ∃ g, v = .pointer (some ⟨g, 0, none⟩) ∧ w.heap.size ≤ g) x w := by
  have ho : salg3_ops[13]? = some salg3_o13 := rfl
  simp only [Array.getD_eq_getD_getElem?] at u3 u4 u5
  refine wpOpIn_plain ho rfl (oper_inK hF.fn (fun K hK => ?_))
  clear ho
  rw [Oper.semAt_plain F _ _ (by intro c h; cases h)]
  simp only [salg3_o13]
  go_simp
  exact hK _ _ ⟨_, act_putD x hdef _ _, ⟨_, rfl, SBox.new w w.heap.size nobs rfl, hN0 ▸ hB.size⟩, below_alloc _ _, ⟨_, rfl, Nat.le_refl _⟩⟩
set_option maxRecDepth 100000 in
set_option maxHeartbeats 2000000 in
theorem salg3_s14 {F : Fence} (hF : Wide F) {n : Nat} (b3 b4 b5 : Nat) (A B C : Nat → Bool) (N0 : Nat) (Q : Exit → Act → World → Prop) (df : List Deferred) (w0 : World)
    (h3 : SBox w0 b3 A) (h4 : SBox w0 b4 B) (h5 : SBox w0 b5 C) (hT : Tab w0)
    (hN0 : w0.heap.size = N0)
    (x : Act) (w : World) (hB : Below w0.heap.size w0 w) (hdef : x.defers = df) (u3 : x.tmps.getD 3 undef = .pointer (some ⟨b3, 0, none⟩)) (u4 : x.tmps.getD 4 undef = .pointer (some ⟨b4, 0, none⟩)) (u5 : x.tmps.getD 5 undef = .pointer (some ⟨b5, 0, none⟩))
    : wpOpIn F n Tryd.prog salg3_ops Q 14 (fun a' w' => ∃ v, a' = x.put (some 9) v ∧ (∃ g, v = .pointer (some ⟨g, 0, none⟩) ∧ SBox w' g nobs ∧ N0 ≤ g) ∧ Below w.heap.size w w' ∧ ∃ g, v = .pointer (some ⟨g, 0, none⟩) ∧ w.heap.size ≤ g) x w := by
  have ho : salg3_ops[14]? = some salg3_o14 := rfl
  simp only [Array.getD_eq_getD_getElem?] at u3 u4 u5
  refine wpOpIn_plain ho rfl (oper_inK hF.fn (fun K hK => ?_))
  clear ho
  rw [Oper.semAt_plain F _ _ (by intro c h; cases h)]
  simp only [salg3_o14]
  go_simp
  exact hK _ _ ⟨_, act_putD x hdef _ _, ⟨_, rfl, SBox.new w w.heap.size nobs rfl, hN0 ▸ hB.size⟩, below_alloc _ _, ⟨_, rfl, Nat.le_refl _⟩⟩

set_option maxRecDepth 100000 in
set_option maxHeartbeats 4000000 in
theorem salg3 {F : Fence} (hF : Wide F) {n : Nat} (b3 b4 b5 : Nat) (A B C : Nat → Bool) (N0 : Nat) (Q : Exit → Act → World → Prop) (t0 : Array Value) (df : List Deferred) (w0 : World) (ht : t0.size = 143)
    (hs3 : t0.getD 3 undef = .pointer (some ⟨b3, 0, none⟩)) (hs4 : t0.getD 4 undef = .pointer (some ⟨b4, 0, none⟩)) (hs5 : t0.getD 5 undef = .pointer (some ⟨b5, 0, none⟩))
    (h3 : SBox w0 b3 A) (h4 : SBox w0 b4 B) (h5 : SBox w0 b5 C) (hT : Tab w0)
    (hN0 : w0.heap.size = N0)
    (hQ : ∀ (vs : Nat → Value) (w : World), Below w0.heap.size w0 w → (vs 19 = sv (anyS (three A B C) 3)) → (vs 24 = sv (allS (three A B C) 3)) → (vs 26 = sv (fun b => !A b)) → (∃ g, (vs 7) = .pointer (some ⟨g, 0, none⟩) ∧ SBox w g nobs ∧ N0 ≤ g) → (∃ g, (vs 8) = .pointer (some ⟨g, 0, none⟩) ∧ SBox w g nobs ∧ N0 ≤ g) → (∃ g, (vs 9) = .pointer (some ⟨g, 0, none⟩) ∧ SBox w g nobs ∧ N0 ≤ g) → vs 7 ≠ vs 8 → vs 7 ≠ vs 9 → vs 8 ≠ vs 9 → wpOpIn F n Tryd.prog salg3_ops Q 15 (fun a' w' => wpOpIn F n Tryd.prog salg3_ops Q 16 (fun a' w' => wpOpIn F n Tryd.prog salg3_ops Q 17 (Q .normal) a' w') a' w') { tmps := [15, 16, 17, 18, 19, 20, 21, 22, 23, 24, 25, 26, 7, 8, 9].foldl (fun y d => y.setIfInBounds d (vs d)) t0, defers := df } w) :
    (Code.region 3 salg3_ops true).wpIn F n Tryd.prog Q { tmps := t0, defers := df } w0 := by
  refine wpIn_region_tailD 15 (by decide) (by kernel_rfl) (fun a b => Below a.heap.size a b) (salg3_val b3 b4 b5 A B C N0) (fun i j v u => i ∈ [12, 13, 14] → j ∈ [12, 13, 14] → v ≠ u) t0 df w0 (by rw [ht]; kernel_rfl) (by kernel_rfl) (by kernel_rfl) (by kernel_rfl) ((Below.refl _ _).drew) (fun _ _ _ h k => h.trans (k.mono h.size)) (salg3_below b3 b4 b5 A B C N0) (fun _ _ _ _ h a b e => h b a e.symm) ?_ ?_
  · intro j o ho hj x w hB hdef hsz hs hdeps
    have hs' : ∀ s, ¬ salg3_mem s → x.tmps.getD s undef = t0.getD s undef := fun s hn => hs s (fun j hj e => hn (by rw [e]; exact salg3_slots j hj))
    have u3 := (hs' 3 (by decide)).trans hs3
    have u4 := (hs' 4 (by decide)).trans hs4
    have u5 := (hs' 5 (by decide)).trans hs5
    match j, ho, hj with
    | 0, ho, _ =>
      have e : o = salg3_o0 := (Option.some.inj ho).symm
      subst e
      exact wpOpIn_mono (fun _ _ ⟨v, e1, e2, e3⟩ => ⟨v, e1, e2, e3, fun _ _ _ _ _ h => absurd h (by decide)⟩) (salg3_s0 hF b3 b4 b5 A B C N0 Q df w0 h3 h4 h5 hT hN0 x w hB hdef u3 u4 u5 )
    | 1, ho, _ =>
      have e : o = salg3_o1 := (Option.some.inj ho).symm
      subst e
      exact wpOpIn_mono (fun _ _ ⟨v, e1, e2, e3⟩ => ⟨v, e1, e2, e3, fun _ _ _ _ _ h => absurd h (by decide)⟩) (salg3_s1 hF b3 b4 b5 A B C N0 Q df w0 h3 h4 h5 hT hN0 x w hB hdef u3 u4 u5 )
    | 2, ho, _ =>
      have e : o = salg3_o2 := (Option.some.inj ho).symm
      subst e
      exact wpOpIn_mono (fun _ _ ⟨v, e1, e2, e3⟩ => ⟨v, e1, e2, e3, fun _ _ _ _ _ h => absurd h (by decide)⟩) (salg3_s2 hF b3 b4 b5 A B C N0 Q df w0 h3 h4 h5 hT hN0 x w hB hdef u3 u4 u5 )
    | 3, ho, _ =>
      have e : o = salg3_o3 := (Option.some.inj ho).symm
      subst e
      exact wpOpIn_mono (fun _ _ ⟨v, e1, e2, e3⟩ => ⟨v, e1, e2, e3, fun _ _ _ _ _ h => absurd h (by decide)⟩) (salg3_s3 hF b3 b4 b5 A B C N0 Q df w0 h3 h4 h5 hT hN0 x w hB hdef u3 u4 u5 (hdeps { on := 0, ground := Ground.data } (by simp) rfl) (hdeps { on := 1, ground := Ground.data } (by simp) rfl) (hdeps { on := 2, ground := Ground.data } (by simp) rfl))
    | 4, ho, _ =>
      have e : o = salg3_o4 := (Option.some.inj ho).symm
      subst e
      exact wpOpIn_mono (fun _ _ ⟨v, e1, e2, e3⟩ => ⟨v, e1, e2, e3, fun _ _ _ _ _ h => absurd h (by decide)⟩) (salg3_s4 hF b3 b4 b5 A B C N0 Q df w0 h3 h4 h5 hT hN0 x w hB hdef u3 u4 u5 (hdeps { on := 3, ground := Ground.data } (by simp) rfl))
    | 5, ho, _ =>
      have e : o = salg3_o5 := (Option.some.inj ho).symm
      subst e
      exact wpOpIn_mono (fun _ _ ⟨v, e1, e2, e3⟩ => ⟨v, e1, e2, e3, fun _ _ _ _ _ h => absurd h (by decide)⟩) (salg3_s5 hF b3 b4 b5 A B C N0 Q df w0 h3 h4 h5 hT hN0 x w hB hdef u3 u4 u5 )
    | 6, ho, _ =>
      have e : o = salg3_o6 := (Option.some.inj ho).symm
      subst e
      exact wpOpIn_mono (fun _ _ ⟨v, e1, e2, e3⟩ => ⟨v, e1, e2, e3, fun _ _ _ _ _ h => absurd h (by decide)⟩) (salg3_s6 hF b3 b4 b5 A B C N0 Q df w0 h3 h4 h5 hT hN0 x w hB hdef u3 u4 u5 )
    | 7, ho, _ =>
      have e : o = salg3_o7 := (Option.some.inj ho).symm
      subst e
      exact wpOpIn_mono (fun _ _ ⟨v, e1, e2, e3⟩ => ⟨v, e1, e2, e3, fun _ _ _ _ _ h => absurd h (by decide)⟩) (salg3_s7 hF b3 b4 b5 A B C N0 Q df w0 h3 h4 h5 hT hN0 x w hB hdef u3 u4 u5 )
    | 8, ho, _ =>
      have e : o = salg3_o8 := (Option.some.inj ho).symm
      subst e
      exact wpOpIn_mono (fun _ _ ⟨v, e1, e2, e3⟩ => ⟨v, e1, e2, e3, fun _ _ _ _ _ h => absurd h (by decide)⟩) (salg3_s8 hF b3 b4 b5 A B C N0 Q df w0 h3 h4 h5 hT hN0 x w hB hdef u3 u4 u5 (hdeps { on := 5, ground := Ground.data } (by simp) rfl) (hdeps { on := 6, ground := Ground.data } (by simp) rfl) (hdeps { on := 7, ground := Ground.data } (by simp) rfl))
    | 9, ho, _ =>
      have e : o = salg3_o9 := (Option.some.inj ho).symm
      subst e
      exact wpOpIn_mono (fun _ _ ⟨v, e1, e2, e3⟩ => ⟨v, e1, e2, e3, fun _ _ _ _ _ h => absurd h (by decide)⟩) (salg3_s9 hF b3 b4 b5 A B C N0 Q df w0 h3 h4 h5 hT hN0 x w hB hdef u3 u4 u5 (hdeps { on := 8, ground := Ground.data } (by simp) rfl))
    | 10, ho, _ =>
      have e : o = salg3_o10 := (Option.some.inj ho).symm
      subst e
      exact wpOpIn_mono (fun _ _ ⟨v, e1, e2, e3⟩ => ⟨v, e1, e2, e3, fun _ _ _ _ _ h => absurd h (by decide)⟩) (salg3_s10 hF b3 b4 b5 A B C N0 Q df w0 h3 h4 h5 hT hN0 x w hB hdef u3 u4 u5 )
    | 11, ho, _ =>
      have e : o = salg3_o11 := (Option.some.inj ho).symm
      subst e
      exact wpOpIn_mono (fun _ _ ⟨v, e1, e2, e3⟩ => ⟨v, e1, e2, e3, fun _ _ _ _ _ h => absurd h (by decide)⟩) (salg3_s11 hF b3 b4 b5 A B C N0 Q df w0 h3 h4 h5 hT hN0 x w hB hdef u3 u4 u5 (hdeps { on := 10, ground := Ground.data } (by simp) rfl))
    | 12, ho, _ =>
      have e : o = salg3_o12 := (Option.some.inj ho).symm
      subst e
      refine wpOpIn_mono ?_ (salg3_s12 hF b3 b4 b5 A B C N0 Q df w0 h3 h4 h5 hT hN0 x w hB hdef u3 u4 u5 )
      rintro a' w' ⟨v, e1, e2, e3, g, rfl, hg⟩
      refine ⟨_, e1, e2, e3, fun k u hk hne hu _ hk2 => ?_⟩
      have hk3 : k = 12 ∨ k = 13 ∨ k = 14 := by simpa using hk2
      rcases hk3 with rfl | rfl | rfl
      · exact absurd rfl hne
      · obtain ⟨g', rfl, hs, _⟩ := hu; intro e; cases e; have := hs.lt; omega
      · obtain ⟨g', rfl, hs, _⟩ := hu; intro e; cases e; have := hs.lt; omega
    | 13, ho, _ =>
      have e : o = salg3_o13 := (Option.some.inj ho).symm
      subst e
      refine wpOpIn_mono ?_ (salg3_s13 hF b3 b4 b5 A B C N0 Q df w0 h3 h4 h5 hT hN0 x w hB hdef u3 u4 u5 )
      rintro a' w' ⟨v, e1, e2, e3, g, rfl, hg⟩
      refine ⟨_, e1, e2, e3, fun k u hk hne hu _ hk2 => ?_⟩
      have hk3 : k = 12 ∨ k = 13 ∨ k = 14 := by simpa using hk2
      rcases hk3 with rfl | rfl | rfl
      · obtain ⟨g', rfl, hs, _⟩ := hu; intro e; cases e; have := hs.lt; omega
      · exact absurd rfl hne
      · obtain ⟨g', rfl, hs, _⟩ := hu; intro e; cases e; have := hs.lt; omega
    | 14, ho, _ =>
      have e : o = salg3_o14 := (Option.some.inj ho).symm
      subst e
      refine wpOpIn_mono ?_ (salg3_s14 hF b3 b4 b5 A B C N0 Q df w0 h3 h4 h5 hT hN0 x w hB hdef u3 u4 u5 )
      rintro a' w' ⟨v, e1, e2, e3, g, rfl, hg⟩
      refine ⟨_, e1, e2, e3, fun k u hk hne hu _ hk2 => ?_⟩
      have hk3 : k = 12 ∨ k = 13 ∨ k = 14 := by simpa using hk2
      rcases hk3 with rfl | rfl | rfl
      · obtain ⟨g', rfl, hs, _⟩ := hu; intro e; cases e; have := hs.lt; omega
      · obtain ⟨g', rfl, hs, _⟩ := hu; intro e; cases e; have := hs.lt; omega
      · exact absurd rfl hne
    | k + 15, _, hj => omega
  · intro x w hB hdef hsz hs hv hap
    have hx := frame_sets x.tmps t0 hsz [15, 16, 17, 18, 19, 20, 21, 22, 23, 24, 25, 26, 7, 8, 9] (fun s hn => hs s (fun j hj e => hn (by rw [e]; exact salg3_slots j hj)))
    have hq := hQ (fun d => x.tmps.getD d undef) w hB (hv 4 (by decide)) (hv 9 (by decide)) (hv 11 (by decide)) (hv 12 (by decide)) (hv 13 (by decide)) (hv 14 (by decide)) (hap 12 13 (by decide) (by decide) (by decide) (by decide) (by decide)) (hap 12 14 (by decide) (by decide) (by decide) (by decide) (by decide)) (hap 13 14 (by decide) (by decide) (by decide) (by decide) (by decide))
    obtain ⟨T, Df⟩ := x
    dsimp only at hx hdef hq
    subst hdef
    rw [← hx] at hq
    exact hq
abbrev salg8_o0 : Oper := { dst := some 33, op := Op.load 24 (Operand.tmp 7), type := 24, pos := "outright.go:18", after := #[], guard := none }
abbrev salg8_o1 : Oper := { dst := some 34, op := Op.move (Operand.tmp 11), type := 5, pos := "outright.go:18", after := #[], guard := none }
abbrev salg8_o2 : Oper := { dst := some 35, op := Op.call { callee := Callee.value (Operand.func 23), args := #[Operand.tmp 33, Operand.tmp 34], argTypes := #[24, 5] }, type := 4, pos := "outright.go:18", after := #[{ on := 0, ground := Ground.data }, { on := 1, ground := Ground.data }], guard := none }
abbrev salg8_o3 : Oper := { dst := some 36, op := Op.load 24 (Operand.tmp 3), type := 24, pos := "outright.go:18", after := #[], guard := none }
abbrev salg8_o4 : Oper := { dst := some 37, op := Op.move (Operand.tmp 11), type := 5, pos := "outright.go:18", after := #[], guard := none }
abbrev salg8_o5 : Oper := { dst := some 38, op := Op.call { callee := Callee.value (Operand.func 23), args := #[Operand.tmp 36, Operand.tmp 37], argTypes := #[24, 5] }, type := 4, pos := "outright.go:18", after := #[{ on := 3, ground := Ground.data }, { on := 4, ground := Ground.data }, { on := 2, ground := Ground.chain }], guard := none }
abbrev salg8_o6 : Oper := { dst := some 39, op := Op.move (Operand.tmp 38), type := 4, pos := "outright.go:18", after := #[{ on := 5, ground := Ground.data }, { on := 5, ground := Ground.chain }], guard := none }
abbrev salg8_o7 : Oper := { dst := some 40, op := Op.load 24 (Operand.tmp 4), type := 24, pos := "outright.go:18", after := #[{ on := 6, ground := Ground.guard }], guard := some (6, false) }
abbrev salg8_o8 : Oper := { dst := some 41, op := Op.move (Operand.tmp 11), type := 5, pos := "outright.go:18", after := #[{ on := 6, ground := Ground.guard }], guard := some (6, false) }
abbrev salg8_o9 : Oper := { dst := some 42, op := Op.call { callee := Callee.value (Operand.func 23), args := #[Operand.tmp 40, Operand.tmp 41], argTypes := #[24, 5] }, type := 4, pos := "outright.go:18", after := #[{ on := 7, ground := Ground.data }, { on := 8, ground := Ground.data }, { on := 6, ground := Ground.chain }, { on := 6, ground := Ground.guard }], guard := some (6, false) }
abbrev salg8_o10 : Oper := { dst := some 43, op := Op.pick (Operand.tmp 39) (Operand.const (Value.bool true)) (Operand.tmp 42), type := 4, pos := "outright.go:18", after := #[{ on := 6, ground := Ground.data }, { on := 9, ground := Ground.data }], guard := none }
abbrev salg8_o11 : Oper := { dst := some 44, op := Op.move (Operand.tmp 43), type := 4, pos := "outright.go:18", after := #[{ on := 10, ground := Ground.data }, { on := 9, ground := Ground.chain }], guard := none }
abbrev salg8_o12 : Oper := { dst := some 45, op := Op.load 24 (Operand.tmp 5), type := 24, pos := "outright.go:18", after := #[{ on := 11, ground := Ground.guard }], guard := some (11, false) }
abbrev salg8_o13 : Oper := { dst := some 46, op := Op.move (Operand.tmp 11), type := 5, pos := "outright.go:18", after := #[{ on := 11, ground := Ground.guard }], guard := some (11, false) }
abbrev salg8_o14 : Oper := { dst := some 47, op := Op.call { callee := Callee.value (Operand.func 23), args := #[Operand.tmp 45, Operand.tmp 46], argTypes := #[24, 5] }, type := 4, pos := "outright.go:18", after := #[{ on := 12, ground := Ground.data }, { on := 13, ground := Ground.data }, { on := 11, ground := Ground.chain }, { on := 11, ground := Ground.guard }], guard := some (11, false) }
abbrev salg8_o15 : Oper := { dst := some 48, op := Op.pick (Operand.tmp 44) (Operand.const (Value.bool true)) (Operand.tmp 47), type := 4, pos := "outright.go:18", after := #[{ on := 11, ground := Ground.data }, { on := 14, ground := Ground.data }], guard := none }
abbrev salg8_o16 : Oper := { dst := some 49, op := Op.binOp BinOp.neq 4 (Operand.tmp 35) (Operand.tmp 48) 4, type := 4, pos := "outright.go:18", after := #[{ on := 2, ground := Ground.data }, { on := 15, ground := Ground.data }], guard := none }
abbrev salg8_o17 : Oper := { dst := some 50, op := Op.move (Operand.tmp 49), type := 4, pos := "outright.go:18", after := #[{ on := 16, ground := Ground.data }, { on := 14, ground := Ground.chain }], guard := none }
abbrev salg8_o18 : Oper := { dst := some 51, op := Op.load 24 (Operand.tmp 8), type := 24, pos := "outright.go:18", after := #[{ on := 17, ground := Ground.guard }], guard := some (17, false) }
abbrev salg8_o19 : Oper := { dst := some 52, op := Op.move (Operand.tmp 11), type := 5, pos := "outright.go:18", after := #[{ on := 17, ground := Ground.guard }], guard := some (17, false) }
abbrev salg8_o20 : Oper := { dst := some 53, op := Op.call { callee := Callee.value (Operand.func 23), args := #[Operand.tmp 51, Operand.tmp 52], argTypes := #[24, 5] }, type := 4, pos := "outright.go:18", after := #[{ on := 18, ground := Ground.data }, { on := 19, ground := Ground.data }, { on := 17, ground := Ground.chain }, { on := 17, ground := Ground.guard }], guard := some (17, false) }
abbrev salg8_o21 : Oper := { dst := some 54, op := Op.load 24 (Operand.tmp 3), type := 24, pos := "outright.go:18", after := #[{ on := 17, ground := Ground.guard }], guard := some (17, false) }
abbrev salg8_o22 : Oper := { dst := some 55, op := Op.move (Operand.tmp 11), type := 5, pos := "outright.go:18", after := #[{ on := 17, ground := Ground.guard }], guard := some (17, false) }
abbrev salg8_o23 : Oper := { dst := some 56, op := Op.call { callee := Callee.value (Operand.func 23), args := #[Operand.tmp 54, Operand.tmp 55], argTypes := #[24, 5] }, type := 4, pos := "outright.go:18", after := #[{ on := 21, ground := Ground.data }, { on := 22, ground := Ground.data }, { on := 20, ground := Ground.chain }, { on := 17, ground := Ground.guard }], guard := some (17, false) }
abbrev salg8_o24 : Oper := { dst := some 57, op := Op.move (Operand.tmp 56), type := 4, pos := "outright.go:18", after := #[{ on := 23, ground := Ground.data }, { on := 23, ground := Ground.chain }, { on := 17, ground := Ground.guard }], guard := some (17, false) }
abbrev salg8_o25 : Oper := { dst := some 58, op := Op.load 24 (Operand.tmp 4), type := 24, pos := "outright.go:18", after := #[{ on := 24, ground := Ground.guard }], guard := some (24, true) }
abbrev salg8_o26 : Oper := { dst := some 59, op := Op.move (Operand.tmp 11), type := 5, pos := "outright.go:18", after := #[{ on := 24, ground := Ground.guard }], guard := some (24, true) }
abbrev salg8_o27 : Oper := { dst := some 60, op := Op.call { callee := Callee.value (Operand.func 23), args := #[Operand.tmp 58, Operand.tmp 59], argTypes := #[24, 5] }, type := 4, pos := "outright.go:18", after := #[{ on := 25, ground := Ground.data }, { on := 26, ground := Ground.data }, { on := 24, ground := Ground.chain }, { on := 24, ground := Ground.guard }], guard := some (24, true) }
abbrev salg8_o28 : Oper := { dst := some 61, op := Op.pick (Operand.tmp 57) (Operand.tmp 60) (Operand.const (Value.bool false)), type := 4, pos := "outright.go:18", after := #[{ on := 24, ground := Ground.data }, { on := 27, ground := Ground.data }, { on := 17, ground := Ground.guard }], guard := some (17, false) }
abbrev salg8_o29 : Oper := { dst := some 62, op := Op.move (Operand.tmp 61), type := 4, pos := "outright.go:18", after := #[{ on := 28, ground := Ground.data }, { on := 27, ground := Ground.chain }, { on := 17, ground := Ground.guard }], guard := some (17, false) }
abbrev salg8_o30 : Oper := { dst := some 63, op := Op.load 24 (Operand.tmp 5), type := 24, pos := "outright.go:18", after := #[{ on := 29, ground := Ground.guard }], guard := some (29, true) }
abbrev salg8_o31 : Oper := { dst := some 64, op := Op.move (Operand.tmp 11), type := 5, pos := "outright.go:18", after := #[{ on := 29, ground := Ground.guard }], guard := some (29, true) }
abbrev salg8_o32 : Oper := { dst := some 65, op := Op.call { callee := Callee.value (Operand.func 23), args := #[Operand.tmp 63, Operand.tmp 64], argTypes := #[24, 5] }, type := 4, pos := "outright.go:18", after := #[{ on := 30, ground := Ground.data }, { on := 31, ground := Ground.data }, { on := 29, ground := Ground.chain }, { on := 29, ground := Ground.guard }], guard := some (29, true) }
abbrev salg8_o33 : Oper := { dst := some 66, op := Op.pick (Operand.tmp 62) (Operand.tmp 65) (Operand.const (Value.bool false)), type := 4, pos := "outright.go:18", after := #[{ on := 29, ground := Ground.data }, { on := 32, ground := Ground.data }, { on := 17, ground := Ground.guard }], guard := some (17, false) }
abbrev salg8_o34 : Oper := { dst := some 67, op := Op.binOp BinOp.neq 4 (Operand.tmp 53) (Operand.tmp 66) 4, type := 4, pos := "outright.go:18", after := #[{ on := 20, ground := Ground.data }, { on := 33, ground := Ground.data }, { on := 17, ground := Ground.guard }], guard := some (17, false) }
abbrev salg8_o35 : Oper := { dst := some 68, op := Op.pick (Operand.tmp 50) (Operand.const (Value.bool true)) (Operand.tmp 67), type := 4, pos := "outright.go:18", after := #[{ on := 17, ground := Ground.data }, { on := 34, ground := Ground.data }], guard := none }
abbrev salg8_o36 : Oper := { dst := some 69, op := Op.move (Operand.tmp 68), type := 4, pos := "outright.go:18", after := #[{ on := 35, ground := Ground.data }, { on := 32, ground := Ground.chain }], guard := none }
abbrev salg8_o37 : Oper := { dst := some 70, op := Op.load 24 (Operand.tmp 9), type := 24, pos := "outright.go:18", after := #[{ on := 36, ground := Ground.guard }], guard := some (36, false) }
abbrev salg8_o38 : Oper := { dst := some 71, op := Op.move (Operand.tmp 11), type := 5, pos := "outright.go:18", after := #[{ on := 36, ground := Ground.guard }], guard := some (36, false) }
abbrev salg8_o39 : Oper := { dst := some 72, op := Op.call { callee := Callee.value (Operand.func 23), args := #[Operand.tmp 70, Operand.tmp 71], argTypes := #[24, 5] }, type := 4, pos := "outright.go:18", after := #[{ on := 37, ground := Ground.data }, { on := 38, ground := Ground.data }, { on := 36, ground := Ground.chain }, { on := 36, ground := Ground.guard }], guard := some (36, false) }
abbrev salg8_o40 : Oper := { dst := some 73, op := Op.load 24 (Operand.tmp 3), type := 24, pos := "outright.go:18", after := #[{ on := 36, ground := Ground.guard }], guard := some (36, false) }
abbrev salg8_o41 : Oper := { dst := some 74, op := Op.move (Operand.tmp 11), type := 5, pos := "outright.go:18", after := #[{ on := 36, ground := Ground.guard }], guard := some (36, false) }
abbrev salg8_o42 : Oper := { dst := some 75, op := Op.call { callee := Callee.value (Operand.func 23), args := #[Operand.tmp 73, Operand.tmp 74], argTypes := #[24, 5] }, type := 4, pos := "outright.go:18", after := #[{ on := 40, ground := Ground.data }, { on := 41, ground := Ground.data }, { on := 39, ground := Ground.chain }, { on := 36, ground := Ground.guard }], guard := some (36, false) }
abbrev salg8_o43 : Oper := { dst := some 76, op := Op.binOp BinOp.eql 4 (Operand.tmp 72) (Operand.tmp 75) 4, type := 4, pos := "outright.go:18", after := #[{ on := 39, ground := Ground.data }, { on := 42, ground := Ground.data }, { on := 36, ground := Ground.guard }], guard := some (36, false) }
abbrev salg8_o44 : Oper := { dst := some 77, op := Op.pick (Operand.tmp 69) (Operand.const (Value.bool true)) (Operand.tmp 76), type := 4, pos := "outright.go:18", after := #[{ on := 36, ground := Ground.data }, { on := 43, ground := Ground.data }], guard := none }
def salg8_ops : Array Oper := #[salg8_o0, salg8_o1, salg8_o2, salg8_o3, salg8_o4, salg8_o5, salg8_o6, salg8_o7, salg8_o8, salg8_o9, salg8_o10, salg8_o11, salg8_o12, salg8_o13, salg8_o14, salg8_o15, salg8_o16, salg8_o17, salg8_o18, salg8_o19, salg8_o20, salg8_o21, salg8_o22, salg8_o23, salg8_o24, salg8_o25, salg8_o26, salg8_o27, salg8_o28, salg8_o29, salg8_o30, salg8_o31, salg8_o32, salg8_o33, salg8_o34, salg8_o35, salg8_o36, salg8_o37, salg8_o38, salg8_o39, salg8_o40, salg8_o41, salg8_o42, salg8_o43, salg8_o44]
abbrev salg8_mem (s : Nat) : Prop := s ∈ [33, 34, 35, 36, 37, 38, 39, 40, 41, 42, 43, 44, 45, 46, 47, 48, 49, 50, 51, 52, 53, 54, 55, 56, 57, 58, 59, 60, 61, 62, 63, 64, 65, 66, 67, 68, 69, 70, 71, 72, 73, 74, 75, 76, 77]
set_option maxRecDepth 100000 in
theorem salg8_slots : ∀ j, j < 45 → salg8_mem (slotOf salg8_ops j) := by
  intro j hj
  match j, hj with
  | 0, _ => exact (by decide : salg8_mem 33)
  | 1, _ => exact (by decide : salg8_mem 34)
  | 2, _ => exact (by decide : salg8_mem 35)
  | 3, _ => exact (by decide : salg8_mem 36)
  | 4, _ => exact (by decide : salg8_mem 37)
  | 5, _ => exact (by decide : salg8_mem 38)
  | 6, _ => exact (by decide : salg8_mem 39)
  | 7, _ => exact (by decide : salg8_mem 40)
  | 8, _ => exact (by decide : salg8_mem 41)
  | 9, _ => exact (by decide : salg8_mem 42)
  | 10, _ => exact (by decide : salg8_mem 43)
  | 11, _ => exact (by decide : salg8_mem 44)
  | 12, _ => exact (by decide : salg8_mem 45)
  | 13, _ => exact (by decide : salg8_mem 46)
  | 14, _ => exact (by decide : salg8_mem 47)
  | 15, _ => exact (by decide : salg8_mem 48)
  | 16, _ => exact (by decide : salg8_mem 49)
  | 17, _ => exact (by decide : salg8_mem 50)
  | 18, _ => exact (by decide : salg8_mem 51)
  | 19, _ => exact (by decide : salg8_mem 52)
  | 20, _ => exact (by decide : salg8_mem 53)
  | 21, _ => exact (by decide : salg8_mem 54)
  | 22, _ => exact (by decide : salg8_mem 55)
  | 23, _ => exact (by decide : salg8_mem 56)
  | 24, _ => exact (by decide : salg8_mem 57)
  | 25, _ => exact (by decide : salg8_mem 58)
  | 26, _ => exact (by decide : salg8_mem 59)
  | 27, _ => exact (by decide : salg8_mem 60)
  | 28, _ => exact (by decide : salg8_mem 61)
  | 29, _ => exact (by decide : salg8_mem 62)
  | 30, _ => exact (by decide : salg8_mem 63)
  | 31, _ => exact (by decide : salg8_mem 64)
  | 32, _ => exact (by decide : salg8_mem 65)
  | 33, _ => exact (by decide : salg8_mem 66)
  | 34, _ => exact (by decide : salg8_mem 67)
  | 35, _ => exact (by decide : salg8_mem 68)
  | 36, _ => exact (by decide : salg8_mem 69)
  | 37, _ => exact (by decide : salg8_mem 70)
  | 38, _ => exact (by decide : salg8_mem 71)
  | 39, _ => exact (by decide : salg8_mem 72)
  | 40, _ => exact (by decide : salg8_mem 73)
  | 41, _ => exact (by decide : salg8_mem 74)
  | 42, _ => exact (by decide : salg8_mem 75)
  | 43, _ => exact (by decide : salg8_mem 76)
  | 44, _ => exact (by decide : salg8_mem 77)
  | k + 45, hj => omega
def salg8_val (b3 b4 b5 b7 b8 b9 : Nat) (A B C : Nat → Bool) (i : Nat) (a b c : Bool) : Nat → Value → World → Prop
  | 0, v, w => v = sv (UN A B C)
  | 1, v, w => v = .int .u8 (i : Nat)
  | 2, v, w => v = .bool (a || b || c)
  | 3, v, w => v = sv A
  | 4, v, w => v = .int .u8 (i : Nat)
  | 5, v, w => v = .bool a
  | 6, v, w => v = .bool a
  | 7, v, w => v = (if (!(a)) = true then sv B else undef)
  | 8, v, w => v = (if (!(a)) = true then .int .u8 (i : Nat) else undef)
  | 9, v, w => v = (if (!(a)) = true then .bool b else undef)
  | 10, v, w => v = .bool (a || b)
  | 11, v, w => v = .bool (a || b)
  | 12, v, w => v = (if (!((a || b))) = true then sv C else undef)
  | 13, v, w => v = (if (!((a || b))) = true then .int .u8 (i : Nat) else undef)
  | 14, v, w => v = (if (!((a || b))) = true then .bool c else undef)
  | 15, v, w => v = .bool ((a || b) || c)
  | 16, v, w => v = .bool (neqB ((a || b || c)) (((a || b) || c)))
  | 17, v, w => v = .bool (neqB ((a || b || c)) (((a || b) || c)))
  | 18, v, w => v = (if (!((neqB ((a || b || c)) (((a || b) || c))))) = true then sv (ME A B C) else undef)
  | 19, v, w => v = (if (!((neqB ((a || b || c)) (((a || b) || c))))) = true then .int .u8 (i : Nat) else undef)
  | 20, v, w => v = (if (!((neqB ((a || b || c)) (((a || b) || c))))) = true then .bool (a && b && c) else undef)
  | 21, v, w => v = (if (!((neqB ((a || b || c)) (((a || b) || c))))) = true then sv A else undef)
  | 22, v, w => v = (if (!((neqB ((a || b || c)) (((a || b) || c))))) = true then .int .u8 (i : Nat) else undef)
  | 23, v, w => v = (if (!((neqB ((a || b || c)) (((a || b) || c))))) = true then .bool a else undef)
  | 24, v, w => v = (if (!((neqB ((a || b || c)) (((a || b) || c))))) = true then .bool a else undef)
  | 25, v, w => v = (if (a) = true then sv B else undef)
  | 26, v, w => v = (if (a) = true then .int .u8 (i : Nat) else undef)
  | 27, v, w => v = (if (a) = true then .bool b else undef)
  | 28, v, w => v = (if (!((neqB ((a || b || c)) (((a || b) || c))))) = true then .bool (a && b) else undef)
  | 29, v, w => v = (if (!((neqB ((a || b || c)) (((a || b) || c))))) = true then .bool (a && b) else undef)
  | 30, v, w => v = (if ((a && b)) = true then sv C else undef)
  | 31, v, w => v = (if ((a && b)) = true then .int .u8 (i : Nat) else undef)
  | 32, v, w => v = (if ((a && b)) = true then .bool c else undef)
  | 33, v, w => v = (if (!((neqB ((a || b || c)) (((a || b) || c))))) = true then .bool ((a && b) && c) else undef)
  | 34, v, w => v = (if (!((neqB ((a || b || c)) (((a || b) || c))))) = true then .bool (neqB ((a && b && c)) (((a && b) && c))) else undef)
  | 35, v, w => v = .bool ((neqB ((a || b || c)) (((a || b) || c))) || (neqB ((a && b && c)) (((a && b) && c))))
  | 36, v, w => v = .bool ((neqB ((a || b || c)) (((a || b) || c))) || (neqB ((a && b && c)) (((a && b) && c))))
  | 37, v, w => v = (if (!(((neqB ((a || b || c)) (((a || b) || c))) || (neqB ((a && b && c)) (((a && b) && c)))))) = true then sv (NO A) else undef)
  | 38, v, w => v = (if (!(((neqB ((a || b || c)) (((a || b) || c))) || (neqB ((a && b && c)) (((a && b) && c)))))) = true then .int .u8 (i : Nat) else undef)
  | 39, v, w => v = (if (!(((neqB ((a || b || c)) (((a || b) || c))) || (neqB ((a && b && c)) (((a && b) && c)))))) = true then .bool (!a) else undef)
  | 40, v, w => v = (if (!(((neqB ((a || b || c)) (((a || b) || c))) || (neqB ((a && b && c)) (((a && b) && c)))))) = true then sv A else undef)
  | 41, v, w => v = (if (!(((neqB ((a || b || c)) (((a || b) || c))) || (neqB ((a && b && c)) (((a && b) && c)))))) = true then .int .u8 (i : Nat) else undef)
  | 42, v, w => v = (if (!(((neqB ((a || b || c)) (((a || b) || c))) || (neqB ((a && b && c)) (((a && b) && c)))))) = true then .bool a else undef)
  | 43, v, w => v = (if (!(((neqB ((a || b || c)) (((a || b) || c))) || (neqB ((a && b && c)) (((a && b) && c)))))) = true then .bool (beqB ((!a)) a) else undef)
  | 44, v, w => v = .bool (((neqB ((a || b || c)) (((a || b) || c))) || (neqB ((a && b && c)) (((a && b) && c)))) || (beqB ((!a)) a))
  | _, _, _ => True
theorem salg8_below (b3 b4 b5 b7 b8 b9 : Nat) (A B C : Nat → Bool) (i : Nat) (a b c : Bool) (w w' : World) (hb : Below w.heap.size w w') : ∀ j v, salg8_val b3 b4 b5 b7 b8 b9 A B C i a b c j v w → salg8_val b3 b4 b5 b7 b8 b9 A B C i a b c j v w' := by
  intro j v h
  match j, h with
  | 0, h => exact h
  | 1, h => exact h
  | 2, h => exact h
  | 3, h => exact h
  | 4, h => exact h
  | 5, h => exact h
  | 6, h => exact h
  | 7, h => exact h
  | 8, h => exact h
  | 9, h => exact h
  | 10, h => exact h
  | 11, h => exact h
  | 12, h => exact h
  | 13, h => exact h
  | 14, h => exact h
  | 15, h => exact h
  | 16, h => exact h
  | 17, h => exact h
  | 18, h => exact h
  | 19, h => exact h
  | 20, h => exact h
  | 21, h => exact h
  | 22, h => exact h
  | 23, h => exact h
  | 24, h => exact h
  | 25, h => exact h
  | 26, h => exact h
  | 27, h => exact h
  | 28, h => exact h
  | 29, h => exact h
  | 30, h => exact h
  | 31, h => exact h
  | 32, h => exact h
  | 33, h => exact h
  | 34, h => exact h
  | 35, h => exact h
  | 36, h => exact h
  | 37, h => exact h
  | 38, h => exact h
  | 39, h => exact h
  | 40, h => exact h
  | 41, h => exact h
  | 42, h => exact h
  | 43, h => exact h
  | 44, h => exact h
  | _ + 45, h => exact h
set_option maxRecDepth 100000 in
set_option maxHeartbeats 2000000 in
theorem salg8_s0 {F : Fence} (hF : Wide F) {n : Nat} (b3 b4 b5 b7 b8 b9 : Nat) (A B C : Nat → Bool) (i : Nat) (a b c : Bool) (Q : Exit → Act → World → Prop) (df : List Deferred) (w0 : World)
    (h3 : SBox w0 b3 A) (h4 : SBox w0 b4 B) (h5 : SBox w0 b5 C) (h7 : SBox w0 b7 (UN A B C)) (h8 : SBox w0 b8 (ME A B C)) (h9 : SBox w0 b9 (NO A)) (hT : Tab w0)
    (hi : i < 256) (ha : A i = a) (hb2 : B i = b) (hc : C i = c)
    (x : Act) (w : World) (hB : Below w0.heap.size w0 w) (hdef : x.defers = df) (u3 : x.tmps.getD 3 undef = .pointer (some ⟨b3, 0, none⟩)) (u4 : x.tmps.getD 4 undef = .pointer (some ⟨b4, 0, none⟩)) (u5 : x.tmps.getD 5 undef = .pointer (some ⟨b5, 0, none⟩)) (u7 : x.tmps.getD 7 undef = .pointer (some ⟨b7, 0, none⟩)) (u8 : x.tmps.getD 8 undef = .pointer (some ⟨b8, 0, none⟩)) (u9 : x.tmps.getD 9 undef = .pointer (some ⟨b9, 0, none⟩)) (u11 : x.tmps.getD 11 undef = .int .u8 (i : Nat))
    : wpOpIn F n Tryd.prog salg8_ops Q 0 (fun a' w' => ∃ v, a' = x.put (some 33) v ∧ (v = sv (UN A B C)) ∧ Below w.heap.size w w') x w := by
  have ho : salg8_ops[0]? = some salg8_o0 := rfl
  simp only [Array.getD_eq_getD_getElem?] at u3 u4 u5 u7 u8 u9 u11
  have hsb := h7.below hB h7.lt
  have c0 := hsb.cell 0 (by omega)
  have c1 := hsb.cell 1 (by omega)
  have c2 := hsb.cell 2 (by omega)
  have c3 := hsb.cell 3 (by omega)
  refine wpOpIn_plain ho rfl (oper_inK hF.fn (fun K hK => ?_))
  clear ho
  rw [Oper.semAt_plain F _ _ (by intro c h; cases h)]
  simp only [salg8_o0]
  go_simp
  exact hK _ _ ⟨_, act_putD x hdef _ _, rfl, Below.refl _ _⟩
set_option maxRecDepth 100000 in
set_option maxHeartbeats 2000000 in
theorem salg8_s1 {F : Fence} (hF : Wide F) {n : Nat} (b3 b4 b5 b7 b8 b9 : Nat) (A B C : Nat → Bool) (i : Nat) (a b c : Bool) (Q : Exit → Act → World → Prop) (df : List Deferred) (w0 : World)
    (h3 : SBox w0 b3 A) (h4 : SBox w0 b4 B) (h5 : SBox w0 b5 C) (h7 : SBox w0 b7 (UN A B C)) (h8 : SBox w0 b8 (ME A B C)) (h9 : SBox w0 b9 (NO A)) (hT : Tab w0)
    (hi : i < 256) (ha : A i = a) (hb2 : B i = b) (hc : C i = c)
    (x : Act) (w : World) (hB : Below w0.heap.size w0 w) (hdef : x.defers = df) (u3 : x.tmps.getD 3 undef = .pointer (some ⟨b3, 0, none⟩)) (u4 : x.tmps.getD 4 undef = .pointer (some ⟨b4, 0, none⟩)) (u5 : x.tmps.getD 5 undef = .pointer (some ⟨b5, 0, none⟩)) (u7 : x.tmps.getD 7 undef = .pointer (some ⟨b7, 0, none⟩)) (u8 : x.tmps.getD 8 undef = .pointer (some ⟨b8, 0, none⟩)) (u9 : x.tmps.getD 9 undef = .pointer (some ⟨b9, 0, none⟩)) (u11 : x.tmps.getD 11 undef = .int .u8 (i : Nat))
    : wpOpIn F n Tryd.prog salg8_ops Q 1 (fun a' w' => ∃ v, a' = x.put (some 34) v ∧ (v = .int .u8 (i : Nat)) ∧ Below w.heap.size w w') x w := by
  have ho : salg8_ops[1]? = some salg8_o1 := rfl
  simp only [Array.getD_eq_getD_getElem?] at u3 u4 u5 u7 u8 u9 u11
  refine wpOpIn_plain ho rfl (oper_inK hF.fn (fun K hK => ?_))
  clear ho
  rw [Oper.semAt_plain F _ _ (by intro c h; cases h)]
  simp only [salg8_o1]
  go_simp
  exact hK _ _ ⟨_, act_putD x hdef _ _, rfl, Below.refl _ _⟩
set_option maxRecDepth 100000 in
set_option maxHeartbeats 2000000 in
theorem salg8_s2 {F : Fence} (hF : Wide F) {n : Nat} (b3 b4 b5 b7 b8 b9 : Nat) (A B C : Nat → Bool) (i : Nat) (a b c : Bool) (Q : Exit → Act → World → Prop) (df : List Deferred) (w0 : World)
    (h3 : SBox w0 b3 A) (h4 : SBox w0 b4 B) (h5 : SBox w0 b5 C) (h7 : SBox w0 b7 (UN A B C)) (h8 : SBox w0 b8 (ME A B C)) (h9 : SBox w0 b9 (NO A)) (hT : Tab w0)
    (hi : i < 256) (ha : A i = a) (hb2 : B i = b) (hc : C i = c)
    (x : Act) (w : World) (hB : Below w0.heap.size w0 w) (hdef : x.defers = df) (u3 : x.tmps.getD 3 undef = .pointer (some ⟨b3, 0, none⟩)) (u4 : x.tmps.getD 4 undef = .pointer (some ⟨b4, 0, none⟩)) (u5 : x.tmps.getD 5 undef = .pointer (some ⟨b5, 0, none⟩)) (u7 : x.tmps.getD 7 undef = .pointer (some ⟨b7, 0, none⟩)) (u8 : x.tmps.getD 8 undef = .pointer (some ⟨b8, 0, none⟩)) (u9 : x.tmps.getD 9 undef = .pointer (some ⟨b9, 0, none⟩)) (u11 : x.tmps.getD 11 undef = .int .u8 (i : Nat))
    (p0 : salg8_val b3 b4 b5 b7 b8 b9 A B C i a b c 0 (x.tmps.getD 33 undef) w)
    (p1 : salg8_val b3 b4 b5 b7 b8 b9 A B C i a b c 1 (x.tmps.getD 34 undef) w)
    : wpOpIn F n Tryd.prog salg8_ops Q 2 (fun a' w' => ∃ v, a' = x.put (some 35) v ∧ (v = .bool (a || b || c)) ∧ Below w.heap.size w w') x w := by
  have ho : salg8_ops[2]? = some salg8_o2 := rfl
  simp only [Array.getD_eq_getD_getElem?] at u3 u4 u5 u7 u8 u9 u11
  have q0 : x.tmps.getD 33 undef = sv (UN A B C) := p0
  have q1 : x.tmps.getD 34 undef = .int .u8 (i : Nat) := p1
  simp only [Array.getD_eq_getD_getElem?] at q0 q1
  refine wpOpIn_plain ho rfl (oper_inK hF.fn (fun K hK => ?_))
  clear ho
  rw [Oper.semAt_plain F _ _ (by intro c h; cases h)]
  simp only [salg8_o2]
  go_simp
  refine ⟨hF.deep, (hF.call (has_any (UN A B C) i w hi)).mono ?_⟩
  rintro e w' ⟨rfl, hb⟩
  exact hK _ _ ⟨_, act_putD x hdef _ _, by simp [UN, ME, NO, ha, hb2, hc], hb⟩
set_option maxRecDepth 100000 in
set_option maxHeartbeats 2000000 in
theorem salg8_s3 {F : Fence} (hF : Wide F) {n : Nat} (b3 b4 b5 b7 b8 b9 : Nat) (A B C : Nat → Bool) (i : Nat) (a b c : Bool) (Q : Exit → Act → World → Prop) (df : List Deferred) (w0 : World)
    (h3 : SBox w0 b3 A) (h4 : SBox w0 b4 B) (h5 : SBox w0 b5 C) (h7 : SBox w0 b7 (UN A B C)) (h8 : SBox w0 b8 (ME A B C)) (h9 : SBox w0 b9 (NO A)) (hT : Tab w0)
    (hi : i < 256) (ha : A i = a) (hb2 : B i = b) (hc : C i = c)
    (x : Act) (w : World) (hB : Below w0.heap.size w0 w) (hdef : x.defers = df) (u3 : x.tmps.getD 3 undef = .pointer (some ⟨b3, 0, none⟩)) (u4 : x.tmps.getD 4 undef = .pointer (some ⟨b4, 0, none⟩)) (u5 : x.tmps.getD 5 undef = .pointer (some ⟨b5, 0, none⟩)) (u7 : x.tmps.getD 7 undef = .pointer (some ⟨b7, 0, none⟩)) (u8 : x.tmps.getD 8 undef = .pointer (some ⟨b8, 0, none⟩)) (u9 : x.tmps.getD 9 undef = .pointer (some ⟨b9, 0, none⟩)) (u11 : x.tmps.getD 11 undef = .int .u8 (i : Nat))
    : wpOpIn F n Tryd.prog salg8_ops Q 3 (fun a' w' => ∃ v, a' = x.put (some 36) v ∧ (v = sv A) ∧ Below w.heap.size w w') x w := by
  have ho : salg8_ops[3]? = some salg8_o3 := rfl
  simp only [Array.getD_eq_getD_getElem?] at u3 u4 u5 u7 u8 u9 u11
  have hsb := h3.below hB h3.lt
  have c0 := hsb.cell 0 (by omega)
  have c1 := hsb.cell 1 (by omega)
  have c2 := hsb.cell 2 (by omega)
  have c3 := hsb.cell 3 (by omega)
  refine wpOpIn_plain ho rfl (oper_inK hF.fn (fun K hK => ?_))
  clear ho
  rw [Oper.semAt_plain F _ _ (by intro c h; cases h)]
  simp only [salg8_o3]
  go_simp
  exact hK _ _ ⟨_, act_putD x hdef _ _, rfl, Below.refl _ _⟩
set_option maxRecDepth 100000 in
set_option maxHeartbeats 2000000 in
theorem salg8_s4 {F : Fence} (hF : Wide F) {n : Nat} (b3 b4 b5 b7 b8 b9 : Nat) (A B C : Nat → Bool) (i : Nat) (a b c : Bool) (Q : Exit → Act → World → Prop) (df : List Deferred) (w0 : World)
    (h3 : SBox w0 b3 A) (h4 : SBox w0 b4 B) (h5 : SBox w0 b5 C) (h7 : SBox w0 b7 (UN A B C)) (h8 : SBox w0 b8 (ME A B C)) (h9 : SBox w0 b9 (NO A)) (hT : Tab w0)
    (hi : i < 256) (ha : A i = a) (hb2 : B i = b) (hc : C i = c)
    (x : Act) (w : World) (hB : Below w0.heap.size w0 w) (hdef : x.defers = df) (u3 : x.tmps.getD 3 undef = .pointer (some ⟨b3, 0, none⟩)) (u4 : x.tmps.getD 4 undef = .pointer (some ⟨b4, 0, none⟩)) (u5 : x.tmps.getD 5 undef = .pointer (some ⟨b5, 0, none⟩)) (u7 : x.tmps.getD 7 undef = .pointer (some ⟨b7, 0, none⟩)) (u8 : x.tmps.getD 8 undef = .pointer (some ⟨b8, 0, none⟩)) (u9 : x.tmps.getD 9 undef = .pointer (some ⟨b9, 0, none⟩)) (u11 : x.tmps.getD 11 undef = .int .u8 (i : Nat))
    : wpOpIn F n Tryd.prog salg8_ops Q 4 (fun a' w' => ∃ v, a' = x.put (some 37) v ∧ (v = .int .u8 (i : Nat)) ∧ Below w.heap.size w w') x w := by
  have ho : salg8_ops[4]? = some salg8_o4 := rfl
  simp only [Array.getD_eq_getD_getElem?] at u3 u4 u5 u7 u8 u9 u11
  refine wpOpIn_plain ho rfl (oper_inK hF.fn (fun K hK => ?_))
  clear ho
  rw [Oper.semAt_plain F _ _ (by intro c h; cases h)]
  simp only [salg8_o4]
  go_simp
  exact hK _ _ ⟨_, act_putD x hdef _ _, rfl, Below.refl _ _⟩
set_option maxRecDepth 100000 in
set_option maxHeartbeats 2000000 in
theorem salg8_s5 {F : Fence} (hF : Wide F) {n : Nat} (b3 b4 b5 b7 b8 b9 : Nat) (A B C : Nat → Bool) (i : Nat) (a b c : Bool) (Q : Exit → Act → World → Prop) (df : List Deferred) (w0 : World)
    (h3 : SBox w0 b3 A) (h4 : SBox w0 b4 B) (h5 : SBox w0 b5 C) (h7 : SBox w0 b7 (UN A B C)) (h8 : SBox w0 b8 (ME A B C)) (h9 : SBox w0 b9 (NO A)) (hT : Tab w0)
    (hi : i < 256) (ha : A i = a) (hb2 : B i = b) (hc : C i = c)
    (x : Act) (w : World) (hB : Below w0.heap.size w0 w) (hdef : x.defers = df) (u3 : x.tmps.getD 3 undef = .pointer (some ⟨b3, 0, none⟩)) (u4 : x.tmps.getD 4 undef = .pointer (some ⟨b4, 0, none⟩)) (u5 : x.tmps.getD 5 undef = .pointer (some ⟨b5, 0, none⟩)) (u7 : x.tmps.getD 7 undef = .pointer (some ⟨b7, 0, none⟩)) (u8 : x.tmps.getD 8 undef = .pointer (some ⟨b8, 0, none⟩)) (u9 : x.tmps.getD 9 undef = .pointer (some ⟨b9, 0, none⟩)) (u11 : x.tmps.getD 11 undef = .int .u8 (i : Nat))
    (p3 : salg8_val b3 b4 b5 b7 b8 b9 A B C i a b c 3 (x.tmps.getD 36 undef) w)
    (p4 : salg8_val b3 b4 b5 b7 b8 b9 A B C i a b c 4 (x.tmps.getD 37 undef) w)
    : wpOpIn F n Tryd.prog salg8_ops Q 5 (fun a' w' => ∃ v, a' = x.put (some 38) v ∧ (v = .bool a) ∧ Below w.heap.size w w') x w := by
  have ho : salg8_ops[5]? = some salg8_o5 := rfl
  simp only [Array.getD_eq_getD_getElem?] at u3 u4 u5 u7 u8 u9 u11
  have q3 : x.tmps.getD 36 undef = sv A := p3
  have q4 : x.tmps.getD 37 undef = .int .u8 (i : Nat) := p4
  simp only [Array.getD_eq_getD_getElem?] at q3 q4
  refine wpOpIn_plain ho rfl (oper_inK hF.fn (fun K hK => ?_))
  clear ho
  rw [Oper.semAt_plain F _ _ (by intro c h; cases h)]
  simp only [salg8_o5]
  go_simp
  refine ⟨hF.deep, (hF.call (has_any (A) i w hi)).mono ?_⟩
  rintro e w' ⟨rfl, hb⟩
  exact hK _ _ ⟨_, act_putD x hdef _ _, by simp [UN, ME, NO, ha, hb2, hc], hb⟩
set_option maxRecDepth 100000 in
set_option maxHeartbeats 2000000 in
theorem salg8_s6 {F : Fence} (hF : Wide F) {n : Nat} (b3 b4 b5 b7 b8 b9 : Nat) (A B C : Nat → Bool) (i : Nat) (a b c : Bool) (Q : Exit → Act → World → Prop) (df : List Deferred) (w0 : World)
    (h3 : SBox w0 b3 A) (h4 : SBox w0 b4 B) (h5 : SBox w0 b5 C) (h7 : SBox w0 b7 (UN A B C)) (h8 : SBox w0 b8 (ME A B C)) (h9 : SBox w0 b9 (NO A)) (hT : Tab w0)
    (hi : i < 256) (ha : A i = a) (hb2 : B i = b) (hc : C i = c)
    (x : Act) (w : World) (hB : Below w0.heap.size w0 w) (hdef : x.defers = df) (u3 : x.tmps.getD 3 undef = .pointer (some ⟨b3, 0, none⟩)) (u4 : x.tmps.getD 4 undef = .pointer (some ⟨b4, 0, none⟩)) (u5 : x.tmps.getD 5 undef = .pointer (some ⟨b5, 0, none⟩)) (u7 : x.tmps.getD 7 undef = .pointer (some ⟨b7, 0, none⟩)) (u8 : x.tmps.getD 8 undef = .pointer (some ⟨b8, 0, none⟩)) (u9 : x.tmps.getD 9 undef = .pointer (some ⟨b9, 0, none⟩)) (u11 : x.tmps.getD 11 undef = .int .u8 (i : Nat))
    (p5 : salg8_val b3 b4 b5 b7 b8 b9 A B C i a b c 5 (x.tmps.getD 38 undef) w)
    : wpOpIn F n Tryd.prog salg8_ops Q 6 (fun a' w' => ∃ v, a' = x.put (some 39) v ∧ (v = .bool a) ∧ Below w.heap.size w w') x w := by
  have ho : salg8_ops[6]? = some salg8_o6 := rfl
  simp only [Array.getD_eq_getD_getElem?] at u3 u4 u5 u7 u8 u9 u11
  have q5 : x.tmps.getD 38 undef = .bool a := p5
  simp only [Array.getD_eq_getD_getElem?] at q5
  refine wpOpIn_plain ho rfl (oper_inK hF.fn (fun K hK => ?_))
  clear ho
  rw [Oper.semAt_plain F _ _ (by intro c h; cases h)]
  simp only [salg8_o6]
  go_simp
  exact hK _ _ ⟨_, act_putD x hdef _ _, rfl, Below.refl _ _⟩
set_option maxRecDepth 100000 in
set_option maxHeartbeats 2000000 in
theorem salg8_s7 {F : Fence} (hF : Wide F) {n : Nat} (b3 b4 b5 b7 b8 b9 : Nat) (A B C : Nat → Bool) (i : Nat) (a b c : Bool) (Q : Exit → Act → World → Prop) (df : List Deferred) (w0 : World)
    (h3 : SBox w0 b3 A) (h4 : SBox w0 b4 B) (h5 : SBox w0 b5 C) (h7 : SBox w0 b7 (UN A B C)) (h8 : SBox w0 b8 (ME A B C)) (h9 : SBox w0 b9 (NO A)) (hT : Tab w0)
    (hi : i < 256) (ha : A i = a) (hb2 : B i = b) (hc : C i = c)
    (x : Act) (w : World) (hB : Below w0.heap.size w0 w) (hdef : x.defers = df) (u3 : x.tmps.getD 3 undef = .pointer (some ⟨b3, 0, none⟩)) (u4 : x.tmps.getD 4 undef = .pointer (some ⟨b4, 0, none⟩)) (u5 : x.tmps.getD 5 undef = .pointer (some ⟨b5, 0, none⟩)) (u7 : x.tmps.getD 7 undef = .pointer (some ⟨b7, 0, none⟩)) (u8 : x.tmps.getD 8 undef = .pointer (some ⟨b8, 0, none⟩)) (u9 : x.tmps.getD 9 undef = .pointer (some ⟨b9, 0, none⟩)) (u11 : x.tmps.getD 11 undef = .int .u8 (i : Nat))
    (p6 : salg8_val b3 b4 b5 b7 b8 b9 A B C i a b c 6 (x.tmps.getD 39 undef) w)
    : wpOpIn F n Tryd.prog salg8_ops Q 7 (fun a' w' => ∃ v, a' = x.put (some 40) v ∧ (v = (if (!(a)) = true then sv B else undef)) ∧ Below w.heap.size w w') x w := by
  have ho : salg8_ops[7]? = some salg8_o7 := rfl
  simp only [Array.getD_eq_getD_getElem?] at u3 u4 u5 u7 u8 u9 u11
  have q6 : x.tmps.getD 39 undef = .bool a := p6
  simp only [Array.getD_eq_getD_getElem?] at q6
  cases a <;> cases b <;> cases c
  all_goals
    simp only [Bool.or_true, Bool.true_or, Bool.or_false, Bool.false_or, Bool.and_true, Bool.true_and, Bool.and_false, Bool.false_and, Bool.not_true, Bool.not_false, beqB, neqB, if_true, if_false, Bool.false_eq_true, reduceIte] at q6 ⊢
    have e6 : (salg8_ops[6]?.bind fun x => x.dst) = some 39 := rfl
    have g6 := get_someT q6 (fun h => by cases h)
    have hsb := h4.below hB h4.lt
    have c0 := hsb.cell 0 (by omega)
    have c1 := hsb.cell 1 (by omega)
    have c2 := hsb.cell 2 (by omega)
    have c3 := hsb.cell 3 (by omega)
    refine wpOpIn_stepT hF ho (fun K hK => ?_)
    clear ho
    rw [Oper.semAt_plain F _ _ (by intro c h; cases h)]
    simp only [salg8_o7]
    go_simp
    exact hK _ _ ⟨_, act_putD x hdef _ _, rfl, Below.refl _ _⟩
set_option maxRecDepth 100000 in
set_option maxHeartbeats 2000000 in
theorem salg8_s8 {F : Fence} (hF : Wide F) {n : Nat} (b3 b4 b5 b7 b8 b9 : Nat) (A B C : Nat → Bool) (i : Nat) (a b c : Bool) (Q : Exit → Act → World → Prop) (df : List Deferred) (w0 : World)
    (h3 : SBox w0 b3 A) (h4 : SBox w0 b4 B) (h5 : SBox w0 b5 C) (h7 : SBox w0 b7 (UN A B C)) (h8 : SBox w0 b8 (ME A B C)) (h9 : SBox w0 b9 (NO A)) (hT : Tab w0)
    (hi : i < 256) (ha : A i = a) (hb2 : B i = b) (hc : C i = c)
    (x : Act) (w : World) (hB : Below w0.heap.size w0 w) (hdef : x.defers = df) (u3 : x.tmps.getD 3 undef = .pointer (some ⟨b3, 0, none⟩)) (u4 : x.tmps.getD 4 undef = .pointer (some ⟨b4, 0, none⟩)) (u5 : x.tmps.getD 5 undef = .pointer (some ⟨b5, 0, none⟩)) (u7 : x.tmps.getD 7 undef = .pointer (some ⟨b7, 0, none⟩)) (u8 : x.tmps.getD 8 undef = .pointer (some ⟨b8, 0, none⟩)) (u9 : x.tmps.getD 9 undef = .pointer (some ⟨b9, 0, none⟩)) (u11 : x.tmps.getD 11 undef = .int .u8 (i : Nat))
    (p6 : salg8_val b3 b4 b5 b7 b8 b9 A B C i a b c 6 (x.tmps.getD 39 undef) w)
    : wpOpIn F n Tryd.prog salg8_ops Q 8 (fun a' w' => ∃ v, a' = x.put (some 41) v ∧ (v = (if (!(a)) = true then .int .u8 (i : Nat) else undef)) ∧ Below w.heap.size w w') x w := by
  have ho : salg8_ops[8]? = some salg8_o8 := rfl
  simp only [Array.getD_eq_getD_getElem?] at u3 u4 u5 u7 u8 u9 u11
  have q6 : x.tmps.getD 39 undef = .bool a := p6
  simp only [Array.getD_eq_getD_getElem?] at q6
  cases a <;> cases b <;> cases c
  all_goals
    simp only [Bool.or_true, Bool.true_or, Bool.or_false, Bool.false_or, Bool.and_true, Bool.true_and, Bool.and_false, Bool.false_and, Bool.not_true, Bool.not_false, beqB, neqB, if_true, if_false, Bool.false_eq_true, reduceIte] at q6 ⊢
    have e6 : (salg8_ops[6]?.bind fun x => x.dst) = some 39 := rfl
    have g6 := get_someT q6 (fun h => by cases h)
    refine wpOpIn_stepT hF ho (fun K hK => ?_)
    clear ho
    rw [Oper.semAt_plain F _ _ (by intro c h; cases h)]
    simp only [salg8_o8]
    go_simp
    exact hK _ _ ⟨_, act_putD x hdef _ _, rfl, Below.refl _ _⟩
set_option maxRecDepth 100000 in
set_option maxHeartbeats 2000000 in
theorem salg8_s9 {F : Fence} (hF : Wide F) {n : Nat} (b3 b4 b5 b7 b8 b9 : Nat) (A B C : Nat → Bool) (i : Nat) (a b c : Bool) (Q : Exit → Act → World → Prop) (df : List Deferred) (w0 : World)
    (h3 : SBox w0 b3 A) (h4 : SBox w0 b4 B) (h5 : SBox w0 b5 C) (h7 : SBox w0 b7 (UN A B C)) (h8 : SBox w0 b8 (ME A B C)) (h9 : SBox w0 b9 (NO A)) (hT : Tab w0)
    (hi : i < 256) (ha : A i = a) (hb2 : B i = b) (hc : C i = c)
    (x : Act) (w : World) (hB : Below w0.heap.size w0 w) (hdef : x.defers = df) (u3 : x.tmps.getD 3 undef = .pointer (some ⟨b3, 0, none⟩)) (u4 : x.tmps.getD 4 undef = .pointer (some ⟨b4, 0, none⟩)) (u5 : x.tmps.getD 5 undef = .pointer (some ⟨b5, 0, none⟩)) (u7 : x.tmps.getD 7 undef = .pointer (some ⟨b7, 0, none⟩)) (u8 : x.tmps.getD 8 undef = .pointer (some ⟨b8, 0, none⟩)) (u9 : x.tmps.getD 9 undef = .pointer (some ⟨b9, 0, none⟩)) (u11 : x.tmps.getD 11 undef = .int .u8 (i : Nat))
    (p7 : salg8_val b3 b4 b5 b7 b8 b9 A B C i a b c 7 (x.tmps.getD 40 undef) w)
    (p8 : salg8_val b3 b4 b5 b7 b8 b9 A B C i a b c 8 (x.tmps.getD 41 undef) w)
    (p6 : salg8_val b3 b4 b5 b7 b8 b9 A B C i a b c 6 (x.tmps.getD 39 undef) w)
    : wpOpIn F n Tryd.prog salg8_ops Q 9 (fun a' w' => ∃ v, a' = x.put (some 42) v ∧ (v = (if (!(a)) = true then .bool b else undef)) ∧ Below w.heap.size w w') x w := by
  have ho : salg8_ops[9]? = some salg8_o9 := rfl
  simp only [Array.getD_eq_getD_getElem?] at u3 u4 u5 u7 u8 u9 u11
  have q7 : x.tmps.getD 40 undef = (if (!(a)) = true then sv B else undef) := p7
  have q8 : x.tmps.getD 41 undef = (if (!(a)) = true then .int .u8 (i : Nat) else undef) := p8
  have q6 : x.tmps.getD 39 undef = .bool a := p6
  simp only [Array.getD_eq_getD_getElem?] at q7 q8 q6
  cases a <;> cases b <;> cases c
  all_goals
    simp only [Bool.or_true, Bool.true_or, Bool.or_false, Bool.false_or, Bool.and_true, Bool.true_and, Bool.and_false, Bool.false_and, Bool.not_true, Bool.not_false, beqB, neqB, if_true, if_false, Bool.false_eq_true, reduceIte] at q7 q8 q6 ⊢
    have e6 : (salg8_ops[6]?.bind fun x => x.dst) = some 39 := rfl
    have g6 := get_someT q6 (fun h => by cases h)
    refine wpOpIn_stepT hF ho (fun K hK => ?_)
    clear ho
    rw [Oper.semAt_plain F _ _ (by intro c h; cases h)]
    simp only [salg8_o9]
    go_simp
    first
      | exact hK _ _ ⟨_, act_putD x hdef _ _, rfl, Below.refl _ _⟩
      | refine ⟨hF.deep, (hF.call (has_any (B) i w hi)).mono ?_⟩
        rintro e w' ⟨rfl, hb⟩
        exact hK _ _ ⟨_, act_putD x hdef _ _, by simp [UN, ME, NO, ha, hb2, hc], hb⟩
set_option maxRecDepth 100000 in
set_option maxHeartbeats 2000000 in
theorem salg8_s10 {F : Fence} (hF : Wide F) {n : Nat} (b3 b4 b5 b7 b8 b9 : Nat) (A B C : Nat → Bool) (i : Nat) (a b c : Bool) (Q : Exit → Act → World → Prop) (df : List Deferred) (w0 : World)
    (h3 : SBox w0 b3 A) (h4 : SBox w0 b4 B) (h5 : SBox w0 b5 C) (h7 : SBox w0 b7 (UN A B C)) (h8 : SBox w0 b8 (ME A B C)) (h9 : SBox w0 b9 (NO A)) (hT : Tab w0)
    (hi : i < 256) (ha : A i = a) (hb2 : B i = b) (hc : C i = c)
    (x : Act) (w : World) (hB : Below w0.heap.size w0 w) (hdef : x.defers = df) (u3 : x.tmps.getD 3 undef = .pointer (some ⟨b3, 0, none⟩)) (u4 : x.tmps.getD 4 undef = .pointer (some ⟨b4, 0, none⟩)) (u5 : x.tmps.getD 5 undef = .pointer (some ⟨b5, 0, none⟩)) (u7 : x.tmps.getD 7 undef = .pointer (some ⟨b7, 0, none⟩)) (u8 : x.tmps.getD 8 undef = .pointer (some ⟨b8, 0, none⟩)) (u9 : x.tmps.getD 9 undef = .pointer (some ⟨b9, 0, none⟩)) (u11 : x.tmps.getD 11 undef = .int .u8 (i : Nat))
    (p6 : salg8_val b3 b4 b5 b7 b8 b9 A B C i a b c 6 (x.tmps.getD 39 undef) w)
    (p9 : salg8_val b3 b4 b5 b7 b8 b9 A B C i a b c 9 (x.tmps.getD 42 undef) w)
    : wpOpIn F n Tryd.prog salg8_ops Q 10 (fun a' w' => ∃ v, a' = x.put (some 43) v ∧ (v = .bool (a || b)) ∧ Below w.heap.size w w') x w := by
  have ho : salg8_ops[10]? = some salg8_o10 := rfl
  simp only [Array.getD_eq_getD_getElem?] at u3 u4 u5 u7 u8 u9 u11
  have q6 : x.tmps.getD 39 undef = .bool a := p6
  have q9 : x.tmps.getD 42 undef = (if (!(a)) = true then .bool b else undef) := p9
  simp only [Array.getD_eq_getD_getElem?] at q6 q9
  cases a <;> cases b <;> cases c
  all_goals
    simp only [Bool.or_true, Bool.true_or, Bool.or_false, Bool.false_or, Bool.and_true, Bool.true_and, Bool.and_false, Bool.false_and, Bool.not_true, Bool.not_false, beqB, neqB, if_true, if_false, Bool.false_eq_true, reduceIte] at q6 q9 ⊢
    refine wpOpIn_plain ho rfl (oper_inK hF.fn (fun K hK => ?_))
    clear ho
    rw [Oper.semAt_plain F _ _ (by intro c h; cases h)]
    simp only [salg8_o10]
    go_simp
    exact hK _ _ ⟨_, act_putD x hdef _ _, rfl, Below.refl _ _⟩
set_option maxRecDepth 100000 in
set_option maxHeartbeats 2000000 in
theorem salg8_s11 {F : Fence} (hF : Wide F) {n : Nat} (b3 b4 b5 b7 b8 b9 : Nat) (A B C : Nat → Bool) (i : Nat) (a b c : Bool) (Q : Exit → Act → World → Prop) (df : List Deferred) (w0 : World)
    (h3 : SBox w0 b3 A) (h4 : SBox w0 b4 B) (h5 : SBox w0 b5 C) (h7 : SBox w0 b7 (UN A B C)) (h8 : SBox w0 b8 (ME A B C)) (h9 : SBox w0 b9 (NO A)) (hT : Tab w0)
    (hi : i < 256) (ha : A i = a) (hb2 : B i = b) (hc : C i = c)
    (x : Act) (w : World) (hB : Below w0.heap.size w0 w) (hdef : x.defers = df) (u3 : x.tmps.getD 3 undef = .pointer (some ⟨b3, 0, none⟩)) (u4 : x.tmps.getD 4 undef = .pointer (some ⟨b4, 0, none⟩)) (u5 : x.tmps.getD 5 undef = .pointer (some ⟨b5, 0, none⟩)) (u7 : x.tmps.getD 7 undef = .pointer (some ⟨b7, 0, none⟩)) (u8 : x.tmps.getD 8 undef = .pointer (some ⟨b8, 0, none⟩)) (u9 : x.tmps.getD 9 undef = .pointer (some ⟨b9, 0, none⟩)) (u11 : x.tmps.getD 11 undef = .int .u8 (i : Nat))
    (p10 : salg8_val b3 b4 b5 b7 b8 b9 A B C i a b c 10 (x.tmps.getD 43 undef) w)
    : wpOpIn F n Tryd.prog salg8_ops Q 11 (fun a' w' => ∃ v, a' = x.put (some 44) v ∧ (v = .bool (a || b)) ∧ Below w.heap.size w w') x w := by
  have ho : salg8_ops[11]? = some salg8_o11 := rfl
  simp only [Array.getD_eq_getD_getElem?] at u3 u4 u5 u7 u8 u9 u11
  have q10 : x.tmps.getD 43 undef = .bool (a || b) := p10
  simp only [Array.getD_eq_getD_getElem?] at q10
  refine wpOpIn_plain ho rfl (oper_inK hF.fn (fun K hK => ?_))
  clear ho
  rw [Oper.semAt_plain F _ _ (by intro c h; cases h)]
  simp only [salg8_o11]
  go_simp
  exact hK _ _ ⟨_, act_putD x hdef _ _, rfl, Below.refl _ _⟩
set_option maxRecDepth 100000 in
set_option maxHeartbeats 2000000 in
theorem salg8_s12 {F : Fence} (hF : Wide F) {n : Nat} (b3 b4 b5 b7 b8 b9 : Nat) (A B C : Nat → Bool) (i : Nat) (a b c : Bool) (Q : Exit → Act → World → Prop) (df : List Deferred) (w0 : World)
    (h3 : SBox w0 b3 A) (h4 : SBox w0 b4 B) (h5 : SBox w0 b5 C) (h7 : SBox w0 b7 (UN A B C)) (h8 : SBox w0 b8 (ME A B C)) (h9 : SBox w0 b9 (NO A)) (hT : Tab w0)
    (hi : i < 256) (ha : A i = a) (hb2 : B i = b) (hc : C i = c)
    (x : Act) (w : World) (hB : Below w0.heap.size w0 w) (hdef : x.defers = df) (u3 : x.tmps.getD 3 undef = .pointer (some ⟨b3, 0, none⟩)) (u4 : x.tmps.getD 4 undef = .pointer (some ⟨b4, 0, none⟩)) (u5 : x.tmps.getD 5 undef = .pointer (some ⟨b5, 0, none⟩)) (u7 : x.tmps.getD 7 undef = .pointer (some ⟨b7, 0, none⟩)) (u8 : x.tmps.getD 8 undef = .pointer (some ⟨b8, 0, none⟩)) (u9 : x.tmps.getD 9 undef = .pointer (some ⟨b9, 0, none⟩)) (u11 : x.tmps.getD 11 undef = .int .u8 (i : Nat))
    (p11 : salg8_val b3 b4 b5 b7 b8 b9 A B C i a b c 11 (x.tmps.getD 44 undef) w)
    : wpOpIn F n Tryd.prog salg8_ops Q 12 (fun a' w' => ∃ v, a' = x.put (some 45) v ∧ (v = (if (!((a || b))) = true then sv C else undef)) ∧ Below w.heap.size w w') x w := by
  have ho : salg8_ops[12]? = some salg8_o12 := rfl
  simp only [Array.getD_eq_getD_getElem?] at u3 u4 u5 u7 u8 u9 u11
  have q11 : x.tmps.getD 44 undef = .bool (a || b) := p11
  simp only [Array.getD_eq_getD_getElem?] at q11
  cases a <;> cases b <;> cases c
  all_goals
    simp only [Bool.or_true, Bool.true_or, Bool.or_false, Bool.false_or, Bool.and_true, Bool.true_and, Bool.and_false, Bool.false_and, Bool.not_true, Bool.not_false, beqB, neqB, if_true, if_false, Bool.false_eq_true, reduceIte] at q11 ⊢
    have e11 : (salg8_ops[11]?.bind fun x => x.dst) = some 44 := rfl
    have g11 := get_someT q11 (fun h => by cases h)
    have hsb := h5.below hB h5.lt
    have c0 := hsb.cell 0 (by omega)
    have c1 := hsb.cell 1 (by omega)
    have c2 := hsb.cell 2 (by omega)
    have c3 := hsb.cell 3 (by omega)
    refine wpOpIn_stepT hF ho (fun K hK => ?_)
    clear ho
    rw [Oper.semAt_plain F _ _ (by intro c h; cases h)]
    simp only [salg8_o12]
    go_simp
    exact hK _ _ ⟨_, act_putD x hdef _ _, rfl, Below.refl _ _⟩
set_option maxRecDepth 100000 in
set_option maxHeartbeats 2000000 in
theorem salg8_s13 {F : Fence} (hF : Wide F) {n : Nat} (b3 b4 b5 b7 b8 b9 : Nat) (A B C : Nat → Bool) (i : Nat) (a b c : Bool) (Q : Exit → Act → World → Prop) (df : List Deferred) (w0 : World)
    (h3 : SBox w0 b3 A) (h4 : SBox w0 b4 B) (h5 : SBox w0 b5 C) (h7 : SBox w0 b7 (UN A B C)) (h8 : SBox w0 b8 (ME A B C)) (h9 : SBox w0 b9 (NO A)) (hT : Tab w0)
    (hi : i < 256) (ha : A i = a) (hb2 : B i = b) (hc : C i = c)
    (x : Act) (w : World) (hB : Below w0.heap.size w0 w) (hdef : x.defers = df) (u3 : x.tmps.getD 3 undef = .pointer (some ⟨b3, 0, none⟩)) (u4 : x.tmps.getD 4 undef = .pointer (some ⟨b4, 0, none⟩)) (u5 : x.tmps.getD 5 undef = .pointer (some ⟨b5, 0, none⟩)) (u7 : x.tmps.getD 7 undef = .pointer (some ⟨b7, 0, none⟩)) (u8 : x.tmps.getD 8 undef = .pointer (some ⟨b8, 0, none⟩)) (u9 : x.tmps.getD 9 undef = .pointer (some ⟨b9, 0, none⟩)) (u11 : x.tmps.getD 11 undef = .int .u8 (i : Nat))
    (p11 : salg8_val b3 b4 b5 b7 b8 b9 A B C i a b c 11 (x.tmps.getD 44 undef) w)
    : wpOpIn F n Tryd.prog salg8_ops Q 13 (fun a' w' => ∃ v, a' = x.put (some 46) v ∧ (v = (if (!((a || b))) = true then .int .u8 (i : Nat) else undef)) ∧ Below w.heap.size w w') x w := by
  have ho : salg8_ops[13]? = some salg8_o13 := rfl
  simp only [Array.getD_eq_getD_getElem?] at u3 u4 u5 u7 u8 u9 u11
  have q11 : x.tmps.getD 44 undef = .bool (a || b) := p11
  simp only [Array.getD_eq_getD_getElem?] at q11
  cases a <;> cases b <;> cases c
  all_goals
    simp only [Bool.or_true, Bool.true_or, Bool.or_false, Bool.false_or, Bool.and_true, Bool.true_and, Bool.and_false, Bool.false_and, Bool.not_true, Bool.not_false, beqB, neqB, if_true, if_false, Bool.false_eq_true, reduceIte] at q11 ⊢
    have e11 : (salg8_ops[11]?.bind fun x => x.dst) = some 44 := rfl
    have g11 := get_someT q11 (fun h => by cases h)
    refine wpOpIn_stepT hF ho (fun K hK => ?_)
    clear ho
    rw [Oper.semAt_plain F _ _ (by intro c h; cases h)]
    simp only [salg8_o13]
    go_simp
    exact hK _ _ ⟨_, act_putD x hdef _ _, rfl, Below.refl _ _⟩
set_option maxRecDepth 100000 in
set_option maxHeartbeats 2000000 in
theorem salg8_s14 {F : Fence} (hF : Wide F) {n : Nat} (b3 b4 b5 b7 b8 b9 : Nat) (A B C : Nat → Bool) (i : Nat) (a b c : Bool) (Q : Exit → Act → World → Prop) (df : List Deferred) (w0 : World)
    (h3 : SBox w0 b3 A) (h4 : SBox w0 b4 B) (h5 : SBox w0 b5 C) (h7 : SBox w0 b7 (UN A B C)) (h8 : SBox w0 b8 (ME A B C)) (h9 : SBox w0 b9 (NO A)) (hT : Tab w0)
    (hi : i < 256) (ha : A i = a) (hb2 : B i = b) (hc : C i = c)
    (x : Act) (w : World) (hB : Below w0.heap.size w0 w) (hdef : x.defers = df) (u3 : x.tmps.getD 3 undef = .pointer (some ⟨b3, 0, none⟩)) (u4 : x.tmps.getD 4 undef = .pointer (some ⟨b4, 0, none⟩)) (u5 : x.tmps.getD 5 undef = .pointer (some ⟨b5, 0, none⟩)) (u7 : x.tmps.getD 7 undef = .pointer (some ⟨b7, 0, none⟩)) (u8 : x.tmps.getD 8 undef = .pointer (some ⟨b8, 0, none⟩)) (u9 : x.tmps.getD 9 undef = .pointer (some ⟨b9, 0, none⟩)) (u11 : x.tmps.getD 11 undef = .int .u8 (i : Nat))
    (p12 : salg8_val b3 b4 b5 b7 b8 b9 A B C i a b c 12 (x.tmps.getD 45 undef) w)
    (p13 : salg8_val b3 b4 b5 b7 b8 b9 A B C i a b c 13 (x.tmps.getD 46 undef) w)
    (p11 : salg8_val b3 b4 b5 b7 b8 b9 A B C i a b c 11 (x.tmps.getD 44 undef) w)
    : wpOpIn F n Tryd.prog salg8_ops Q 14 (fun a' w' => ∃ v, a' = x.put (some 47) v ∧ (v = (if (!((a || b))) = true then .bool c else undef)) ∧ Below w.heap.size w w') x w := by
  have ho : salg8_ops[14]? = some salg8_o14 := rfl
  simp only [Array.getD_eq_getD_getElem?] at u3 u4 u5 u7 u8 u9 u11
  have q12 : x.tmps.getD 45 undef = (if (!((a || b))) = true then sv C else undef) := p12
  have q13 : x.tmps.getD 46 undef = (if (!((a || b))) = true then .int .u8 (i : Nat) else undef) := p13
  have q11 : x.tmps.getD 44 undef = .bool (a || b) := p11
  simp only [Array.getD_eq_getD_getElem?] at q12 q13 q11
  cases a <;> cases b <;> cases c
  all_goals
    simp only [Bool.or_true, Bool.true_or, Bool.or_false, Bool.false_or, Bool.and_true, Bool.true_and, Bool.and_false, Bool.false_and, Bool.not_true, Bool.not_false, beqB, neqB, if_true, if_false, Bool.false_eq_true, reduceIte] at q12 q13 q11 ⊢
    have e11 : (salg8_ops[11]?.bind fun x => x.dst) = some 44 := rfl
    have g11 := get_someT q11 (fun h => by cases h)
    refine wpOpIn_stepT hF ho (fun K hK => ?_)
    clear ho
    rw [Oper.semAt_plain F _ _ (by intro c h; cases h)]
    simp only [salg8_o14]
    go_simp
    first
      | exact hK _ _ ⟨_, act_putD x hdef _ _, rfl, Below.refl _ _⟩
      | refine ⟨hF.deep, (hF.call (has_any (C) i w hi)).mono ?_⟩
        rintro e w' ⟨rfl, hb⟩
        exact hK _ _ ⟨_, act_putD x hdef _ _, by simp [UN, ME, NO, ha, hb2, hc], hb⟩
set_option maxRecDepth 100000 in
set_option maxHeartbeats 2000000 in
theorem salg8_s15 {F : Fence} (hF : Wide F) {n : Nat} (b3 b4 b5 b7 b8 b9 : Nat) (A B C : Nat → Bool) (i : Nat) (a b c : Bool) (Q : Exit → Act → World → Prop) (df : List Deferred) (w0 : World)
    (h3 : SBox w0 b3 A) (h4 : SBox w0 b4 B) (h5 : SBox w0 b5 C) (h7 : SBox w0 b7 (UN A B C)) (h8 : SBox w0 b8 (ME A B C)) (h9 : SBox w0 b9 (NO A)) (hT : Tab w0)
    (hi : i < 256) (ha : A i = a) (hb2 : B i = b) (hc : C i = c)
    (x : Act) (w : World) (hB : Below w0.heap.size w0 w) (hdef : x.defers = df) (u3 : x.tmps.getD 3 undef = .pointer (some ⟨b3, 0, none⟩)) (u4 : x.tmps.getD 4 undef = .pointer (some ⟨b4, 0, none⟩)) (u5 : x.tmps.getD 5 undef = .pointer (some ⟨b5, 0, none⟩)) (u7 : x.tmps.getD 7 undef = .pointer (some ⟨b7, 0, none⟩)) (u8 : x.tmps.getD 8 undef = .pointer (some ⟨b8, 0, none⟩)) (u9 : x.tmps.getD 9 undef = .pointer (some ⟨b9, 0, none⟩)) (u11 : x.tmps.getD 11 undef = .int .u8 (i : Nat))
    (p11 : salg8_val b3 b4 b5 b7 b8 b9 A B C i a b c 11 (x.tmps.getD 44 undef) w)
    (p14 : salg8_val b3 b4 b5 b7 b8 b9 A B C i a b c 14 (x.tmps.getD 47 undef) w)
    : wpOpIn F n Tryd.prog salg8_ops Q 15 (fun a' w' => ∃ v, a' = x.put (some 48) v ∧ (v = .bool ((a || b) || c)) ∧ Below w.heap.size w w') x w := by
  have ho : salg8_ops[15]? = some salg8_o15 := rfl
  simp only [Array.getD_eq_getD_getElem?] at u3 u4 u5 u7 u8 u9 u11
  have q11 : x.tmps.getD 44 undef = .bool (a || b) := p11
  have q14 : x.tmps.getD 47 undef = (if (!((a || b))) = true then .bool c else undef) := p14
  simp only [Array.getD_eq_getD_getElem?] at q11 q14
  cases a <;> cases b <;> cases c
  all_goals
    simp only [Bool.or_true, Bool.true_or, Bool.or_false, Bool.false_or, Bool.and_true, Bool.true_and, Bool.and_false, Bool.false_and, Bool.not_true, Bool.not_false, beqB, neqB, if_true, if_false, Bool.false_eq_true, reduceIte] at q11 q14 ⊢
    refine wpOpIn_plain ho rfl (oper_inK hF.fn (fun K hK => ?_))
    clear ho
    rw [Oper.semAt_plain F _ _ (by intro c h; cases h)]
    simp only [salg8_o15]
    go_simp
    exact hK _ _ ⟨_, act_putD x hdef _ _, rfl, Below.refl _ _⟩
set_option maxRecDepth 100000 in
set_option maxHeartbeats 2000000 in
theorem salg8_s16 {F : Fence} (hF : Wide F) {n : Nat} (b3 b4 b5 b7 b8 b9 : Nat) (A B C : Nat → Bool) (i : Nat) (a b c : Bool) (Q : Exit → Act → World → Prop) (df : List Deferred) (w0 : World)
    (h3 : SBox w0 b3 A) (h4 : SBox w0 b4 B) (h5 : SBox w0 b5 C) (h7 : SBox w0 b7 (UN A B C)) (h8 : SBox w0 b8 (ME A B C)) (h9 : SBox w0 b9 (NO A)) (hT : Tab w0)
    (hi : i < 256) (ha : A i = a) (hb2 : B i = b) (hc : C i = c)
    (x : Act) (w : World) (hB : Below w0.heap.size w0 w) (hdef : x.defers = df) (u3 : x.tmps.getD 3 undef = .pointer (some ⟨b3, 0, none⟩)) (u4 : x.tmps.getD 4 undef = .pointer (some ⟨b4, 0, none⟩)) (u5 : x.tmps.getD 5 undef = .pointer (some ⟨b5, 0, none⟩)) (u7 : x.tmps.getD 7 undef = .pointer (some ⟨b7, 0, none⟩)) (u8 : x.tmps.getD 8 undef = .pointer (some ⟨b8, 0, none⟩)) (u9 : x.tmps.getD 9 undef = .pointer (some ⟨b9, 0, none⟩)) (u11 : x.tmps.getD 11 undef = .int .u8 (i : Nat))
    (p2 : salg8_val b3 b4 b5 b7 b8 b9 A B C i a b c 2 (x.tmps.getD 35 undef) w)
    (p15 : salg8_val b3 b4 b5 b7 b8 b9 A B C i a b c 15 (x.tmps.getD 48 undef) w)
    : wpOpIn F n Tryd.prog salg8_ops Q 16 (fun a' w' => ∃ v, a' = x.put (some 49) v ∧ (v = .bool (neqB ((a || b || c)) (((a || b) || c)))) ∧ Below w.heap.size w w') x w := by
  have ho : salg8_ops[16]? = some salg8_o16 := rfl
  simp only [Array.getD_eq_getD_getElem?] at u3 u4 u5 u7 u8 u9 u11
  have q2 : x.tmps.getD 35 undef = .bool (a || b || c) := p2
  have q15 : x.tmps.getD 48 undef = .bool ((a || b) || c) := p15
  simp only [Array.getD_eq_getD_getElem?] at q2 q15
  cases a <;> cases b <;> cases c
  all_goals
    simp only [Bool.or_true, Bool.true_or, Bool.or_false, Bool.false_or, Bool.and_true, Bool.true_and, Bool.and_false, Bool.false_and, Bool.not_true, Bool.not_false, beqB, neqB, if_true, if_false, Bool.false_eq_true, reduceIte] at q2 q15 ⊢
    refine wpOpIn_plain ho rfl (oper_inK hF.fn (fun K hK => ?_))
    clear ho
    rw [Oper.semAt_plain F _ _ (by intro c h; cases h)]
    simp only [salg8_o16]
    go_simp
    exact hK _ _ ⟨_, act_putD x hdef _ _, rfl, Below.refl _ _⟩
set_option maxRecDepth 100000 in
set_option maxHeartbeats 2000000 in
theorem salg8_s17 {F : Fence} (hF : Wide F) {n : Nat} (b3 b4 b5 b7 b8 b9 : Nat) (A B C : Nat → Bool) (i : Nat) (a b c : Bool) (Q : Exit → Act → World → Prop) (df : List Deferred) (w0 : World)
    (h3 : SBox w0 b3 A) (h4 : SBox w0 b4 B) (h5 : SBox w0 b5 C) (h7 : SBox w0 b7 (UN A B C)) (h8 : SBox w0 b8 (ME A B C)) (h9 : SBox w0 b9 (NO A)) (hT : Tab w0)
    (hi : i < 256) (ha : A i = a) (hb2 : B i = b) (hc : C i = c)
    (x : Act) (w : World) (hB : Below w0.heap.size w0 w) (hdef : x.defers = df) (u3 : x.tmps.getD 3 undef = .pointer (some ⟨b3, 0, none⟩)) (u4 : x.tmps.getD 4 undef = .pointer (some ⟨b4, 0, none⟩)) (u5 : x.tmps.getD 5 undef = .pointer (some ⟨b5, 0, none⟩)) (u7 : x.tmps.getD 7 undef = .pointer (some ⟨b7, 0, none⟩)) (u8 : x.tmps.getD 8 undef = .pointer (some ⟨b8, 0, none⟩)) (u9 : x.tmps.getD 9 undef = .pointer (some ⟨b9, 0, none⟩)) (u11 : x.tmps.getD 11 undef = .int .u8 (i : Nat))
    (p16 : salg8_val b3 b4 b5 b7 b8 b9 A B C i a b c 16 (x.tmps.getD 49 undef) w)
    : wpOpIn F n Tryd.prog salg8_ops Q 17 (fun a' w' => ∃ v, a' = x.put (some 50) v ∧ (v = .bool (neqB ((a || b || c)) (((a || b) || c)))) ∧ Below w.heap.size w w') x w := by
  have ho : salg8_ops[17]? = some salg8_o17 := rfl
  simp only [Array.getD_eq_getD_getElem?] at u3 u4 u5 u7 u8 u9 u11
  have q16 : x.tmps.getD 49 undef = .bool (neqB ((a || b || c)) (((a || b) || c))) := p16
  simp only [Array.getD_eq_getD_getElem?] at q16
  refine wpOpIn_plain ho rfl (oper_inK hF.fn (fun K hK => ?_))
  clear ho
  rw [Oper.semAt_plain F _ _ (by intro c h; cases h)]
  simp only [salg8_o17]
  go_simp
  exact hK _ _ ⟨_, act_putD x hdef _ _, rfl, Below.refl _ _⟩
set_option maxRecDepth 100000 in
set_option maxHeartbeats 2000000 in
theorem salg8_s18 {F : Fence} (hF : Wide F) {n : Nat} (b3 b4 b5 b7 b8 b9 : Nat) (A B C : Nat → Bool) (i : Nat) (a b c : Bool) (Q : Exit → Act → World → Prop) (df : List Deferred) (w0 : World)
    (h3 : SBox w0 b3 A) (h4 : SBox w0 b4 B) (h5 : SBox w0 b5 C) (h7 : SBox w0 b7 (UN A B C)) (h8 : SBox w0 b8 (ME A B C)) (h9 : SBox w0 b9 (NO A)) (hT : Tab w0)
    (hi : i < 256) (ha : A i = a) (hb2 : B i = b) (hc : C i = c)
    (x : Act) (w : World) (hB : Below w0.heap.size w0 w) (hdef : x.defers = df) (u3 : x.tmps.getD 3 undef = .pointer (some ⟨b3, 0, none⟩)) (u4 : x.tmps.getD 4 undef = .pointer (some ⟨b4, 0, none⟩)) (u5 : x.tmps.getD 5 undef = .pointer (some ⟨b5, 0, none⟩)) (u7 : x.tmps.getD 7 undef = .pointer (some ⟨b7, 0, none⟩)) (u8 : x.tmps.getD 8 undef = .pointer (some ⟨b8, 0, none⟩)) (u9 : x.tmps.getD 9 undef = .pointer (some ⟨b9, 0, none⟩)) (u11 : x.tmps.getD 11 undef = .int .u8 (i : Nat))
    (p17 : salg8_val b3 b4 b5 b7 b8 b9 A B C i a b c 17 (x.tmps.getD 50 undef) w)
    : wpOpIn F n Tryd.prog salg8_ops Q 18 (fun a' w' => ∃ v, a' = x.put (some 51) v ∧ (v = (if (!((neqB ((a || b || c)) (((a || b) || c))))) = true then sv (ME A B C) else undef)) ∧ Below w.heap.size w w') x w := by
  have ho : salg8_ops[18]? = some salg8_o18 := rfl
  simp only [Array.getD_eq_getD_getElem?] at u3 u4 u5 u7 u8 u9 u11
  have q17 : x.tmps.getD 50 undef = .bool (neqB ((a || b || c)) (((a || b) || c))) := p17
  simp only [Array.getD_eq_getD_getElem?] at q17
  cases a <;> cases b <;> cases c
  all_goals
    simp only [Bool.or_true, Bool.true_or, Bool.or_false, Bool.false_or, Bool.and_true, Bool.true_and, Bool.and_false, Bool.false_and, Bool.not_true, Bool.not_false, beqB, neqB, if_true, if_false, Bool.false_eq_true, reduceIte] at q17 ⊢
    have e17 : (salg8_ops[17]?.bind fun x => x.dst) = some 50 := rfl
    have g17 := get_someT q17 (fun h => by cases h)
    have hsb := h8.below hB h8.lt
    have c0 := hsb.cell 0 (by omega)
    have c1 := hsb.cell 1 (by omega)
    have c2 := hsb.cell 2 (by omega)
    have c3 := hsb.cell 3 (by omega)
    refine wpOpIn_stepT hF ho (fun K hK => ?_)
    clear ho
    rw [Oper.semAt_plain F _ _ (by intro c h; cases h)]
    simp only [salg8_o18]
    go_simp
    exact hK _ _ ⟨_, act_putD x hdef _ _, rfl, Below.refl _ _⟩
set_option maxRecDepth 100000 in
set_option maxHeartbeats 2000000 in
theorem salg8_s19 {F : Fence} (hF : Wide F) {n : Nat} (b3 b4 b5 b7 b8 b9 : Nat) (A B C : Nat → Bool) (i : Nat) (a b c : Bool) (Q : Exit → Act → World → Prop) (df : List Deferred) (w0 : World)
    (h3 : SBox w0 b3 A) (h4 : SBox w0 b4 B) (h5 : SBox w0 b5 C) (h7 : SBox w0 b7 (UN A B C)) (h8 : SBox w0 b8 (ME A B C)) (h9 : SBox w0 b9 (NO A)) (hT : Tab w0)
    (hi : i < 256) (ha : A i = a) (hb2 : B i = b) (hc : C i = c)
    (x : Act) (w : World) (hB : Below w0.heap.size w0 w) (hdef : x.defers = df) (u3 : x.tmps.getD 3 undef = .pointer (some ⟨b3, 0, none⟩)) (u4 : x.tmps.getD 4 undef = .pointer (some ⟨b4, 0, none⟩)) (u5 : x.tmps.getD 5 undef = .pointer (some ⟨b5, 0, none⟩)) (u7 : x.tmps.getD 7 undef = .pointer (some ⟨b7, 0, none⟩)) (u8 : x.tmps.getD 8 undef = .pointer (some ⟨b8, 0, none⟩)) (u9 : x.tmps.getD 9 undef = .pointer (some ⟨b9, 0, none⟩)) (u11 : x.tmps.getD 11 undef = .int .u8 (i : Nat))
    (p17 : salg8_val b3 b4 b5 b7 b8 b9 A B C i a b c 17 (x.tmps.getD 50 undef) w)
    : wpOpIn F n Tryd.prog salg8_ops Q 19 (fun a' w' => ∃ v, a' = x.put (some 52) v ∧ (v = (if (!((neqB ((a || b || c)) (((a || b) || c))))) = true then .int .u8 (i : Nat) else undef)) ∧ Below w.heap.size w w') x w := by
  have ho : salg8_ops[19]? = some salg8_o19 := rfl
  simp only [Array.getD_eq_getD_getElem?] at u3 u4 u5 u7 u8 u9 u11
  have q17 : x.tmps.getD 50 undef = .bool (neqB ((a || b || c)) (((a || b) || c))) := p17
  simp only [Array.getD_eq_getD_getElem?] at q17
  cases a <;> cases b <;> cases c
  all_goals
    simp only [Bool.or_true, Bool.true_or, Bool.or_false, Bool.false_or, Bool.and_true, Bool.true_and, Bool.and_false, Bool.false_and, Bool.not_true, Bool.not_false, beqB, neqB, if_true, if_false, Bool.false_eq_true, reduceIte] at q17 ⊢
    have e17 : (salg8_ops[17]?.bind fun x => x.dst) = some 50 := rfl
    have g17 := get_someT q17 (fun h => by cases h)
    refine wpOpIn_stepT hF ho (fun K hK => ?_)
    clear ho
    rw [Oper.semAt_plain F _ _ (by intro c h; cases h)]
    simp only [salg8_o19]
    go_simp
    exact hK _ _ ⟨_, act_putD x hdef _ _, rfl, Below.refl _ _⟩
set_option maxRecDepth 100000 in
set_option maxHeartbeats 2000000 in
theorem salg8_s20 {F : Fence} (hF : Wide F) {n : Nat} (b3 b4 b5 b7 b8 b9 : Nat) (A B C : Nat → Bool) (i : Nat) (a b c : Bool) (Q : Exit → Act → World → Prop) (df : List Deferred) (w0 : World)
    (h3 : SBox w0 b3 A) (h4 : SBox w0 b4 B) (h5 : SBox w0 b5 C) (h7 : SBox w0 b7 (UN A B C)) (h8 : SBox w0 b8 (ME A B C)) (h9 : SBox w0 b9 (NO A)) (hT : Tab w0)
    (hi : i < 256) (ha : A i = a) (hb2 : B i = b) (hc : C i = c)
    (x : Act) (w : World) (hB : Below w0.heap.size w0 w) (hdef : x.defers = df) (u3 : x.tmps.getD 3 undef = .pointer (some ⟨b3, 0, none⟩)) (u4 : x.tmps.getD 4 undef = .pointer (some ⟨b4, 0, none⟩)) (u5 : x.tmps.getD 5 undef = .pointer (some ⟨b5, 0, none⟩)) (u7 : x.tmps.getD 7 undef = .pointer (some ⟨b7, 0, none⟩)) (u8 : x.tmps.getD 8 undef = .pointer (some ⟨b8, 0, none⟩)) (u9 : x.tmps.getD 9 undef = .pointer (some ⟨b9, 0, none⟩)) (u11 : x.tmps.getD 11 undef = .int .u8 (i : Nat))
    (p18 : salg8_val b3 b4 b5 b7 b8 b9 A B C i a b c 18 (x.tmps.getD 51 undef) w)
    (p19 : salg8_val b3 b4 b5 b7 b8 b9 A B C i a b c 19 (x.tmps.getD 52 undef) w)
    (p17 : salg8_val b3 b4 b5 b7 b8 b9 A B C i a b c 17 (x.tmps.getD 50 undef) w)
    : wpOpIn F n Tryd.prog salg8_ops Q 20 (fun a' w' => ∃ v, a' = x.put (some 53) v ∧ (v = (if (!((neqB ((a || b || c)) (((a || b) || c))))) = true then .bool (a && b && c) else undef)) ∧ Below w.heap.size w w') x w := by
  have ho : salg8_ops[20]? = some salg8_o20 := rfl
  simp only [Array.getD_eq_getD_getElem?] at u3 u4 u5 u7 u8 u9 u11
  have q18 : x.tmps.getD 51 undef = (if (!((neqB ((a || b || c)) (((a || b) || c))))) = true then sv (ME A B C) else undef) := p18
  have q19 : x.tmps.getD 52 undef = (if (!((neqB ((a || b || c)) (((a || b) || c))))) = true then .int .u8 (i : Nat) else undef) := p19
  have q17 : x.tmps.getD 50 undef = .bool (neqB ((a || b || c)) (((a || b) || c))) := p17
  simp only [Array.getD_eq_getD_getElem?] at q18 q19 q17
  cases a <;> cases b <;> cases c
  all_goals
    simp only [Bool.or_true, Bool.true_or, Bool.or_false, Bool.false_or, Bool.and_true, Bool.true_and, Bool.and_false, Bool.false_and, Bool.not_true, Bool.not_false, beqB, neqB, if_true, if_false, Bool.false_eq_true, reduceIte] at q18 q19 q17 ⊢
    have e17 : (salg8_ops[17]?.bind fun x => x.dst) = some 50 := rfl
    have g17 := get_someT q17 (fun h => by cases h)
    refine wpOpIn_stepT hF ho (fun K hK => ?_)
    clear ho
    rw [Oper.semAt_plain F _ _ (by intro c h; cases h)]
    simp only [salg8_o20]
    go_simp
    first
      | exact hK _ _ ⟨_, act_putD x hdef _ _, rfl, Below.refl _ _⟩
      | refine ⟨hF.deep, (hF.call (has_any (ME A B C) i w hi)).mono ?_⟩
        rintro e w' ⟨rfl, hb⟩
        exact hK _ _ ⟨_, act_putD x hdef _ _, by simp [UN, ME, NO, ha, hb2, hc], hb⟩
set_option maxRecDepth 100000 in
set_option maxHeartbeats 2000000 in
theorem salg8_s21 {F : Fence} (hF : Wide F) {n : Nat} (b3 b4 b5 b7 b8 b9 : Nat) (A B C : Nat → Bool) (i : Nat) (a b c : Bool) (Q : Exit → Act → World → Prop) (df : List Deferred) (w0 : World)
    (h3 : SBox w0 b3 A) (h4 : SBox w0 b4 B) (h5 : SBox w0 b5 C) (h7 : SBox w0 b7 (UN A B C)) (h8 : SBox w0 b8 (ME A B C)) (h9 : SBox w0 b9 (NO A)) (hT : Tab w0)
    (hi : i < 256) (ha : A i = a) (hb2 : B i = b) (hc : C i = c)
    (x : Act) (w : World) (hB : Below w0.heap.size w0 w) (hdef : x.defers = df) (u3 : x.tmps.getD 3 undef = .pointer (some ⟨b3, 0, none⟩)) (u4 : x.tmps.getD 4 undef = .pointer (some ⟨b4, 0, none⟩)) (u5 : x.tmps.getD 5 undef = .pointer (some ⟨b5, 0, none⟩)) (u7 : x.tmps.getD 7 undef = .pointer (some ⟨b7, 0, none⟩)) (u8 : x.tmps.getD 8 undef = .pointer (some ⟨b8, 0, none⟩)) (u9 : x.tmps.getD 9 undef = .pointer (some ⟨b9, 0, none⟩)) (u11 : x.tmps.getD 11 undef = .int .u8 (i : Nat))
    (p17 : salg8_val b3 b4 b5 b7 b8 b9 A B C i a b c 17 (x.tmps.getD 50 undef) w)
    : wpOpIn F n Tryd.prog salg8_ops Q 21 (fun a' w' => ∃ v, a' = x.put (some 54) v ∧ (v = (if (!((neqB ((a || b || c)) (((a || b) || c))))) = true then sv A else undef)) ∧ Below w.heap.size w w') x w := by
  have ho : salg8_ops[21]? = some salg8_o21 := rfl
  simp only [Array.getD_eq_getD_getElem?] at u3 u4 u5 u7 u8 u9 u11
  have q17 : x.tmps.getD 50 undef = .bool (neqB ((a || b || c)) (((a || b) || c))) := p17
  simp only [Array.getD_eq_getD_getElem?] at q17
  cases a <;> cases b <;> cases c
  all_goals
    simp only [Bool.or_true, Bool.true_or, Bool.or_false, Bool.false_or, Bool.and_true, Bool.true_and, Bool.and_false, Bool.false_and, Bool.not_true, Bool.not_false, beqB, neqB, if_true, if_false, Bool.false_eq_true, reduceIte] at q17 ⊢
    have e17 : (salg8_ops[17]?.bind fun x => x.dst) = some 50 := rfl
    have g17 := get_someT q17 (fun h => by cases h)
    have hsb := h3.below hB h3.lt
    have c0 := hsb.cell 0 (by omega)
    have c1 := hsb.cell 1 (by omega)
    have c2 := hsb.cell 2 (by omega)
    have c3 := hsb.cell 3 (by omega)
    refine wpOpIn_stepT hF ho (fun K hK => ?_)
    clear ho
    rw [Oper.semAt_plain F _ _ (by intro c h; cases h)]
    simp only [salg8_o21]
    go_simp
    exact hK _ _ ⟨_, act_putD x hdef _ _, rfl, Below.refl _ _⟩
set_option maxRecDepth 100000 in
set_option maxHeartbeats 2000000 in
theorem salg8_s22 {F : Fence} (hF : Wide F) {n : Nat} (b3 b4 b5 b7 b8 b9 : Nat) (A B C : Nat → Bool) (i : Nat) (a b c : Bool) (Q : Exit → Act → World → Prop) (df : List Deferred) (w0 : World)
    (h3 : SBox w0 b3 A) (h4 : SBox w0 b4 B) (h5 : SBox w0 b5 C) (h7 : SBox w0 b7 (UN A B C)) (h8 : SBox w0 b8 (ME A B C)) (h9 : SBox w0 b9 (NO A)) (hT : Tab w0)
    (hi : i < 256) (ha : A i = a) (hb2 : B i = b) (hc : C i = c)
    (x : Act) (w : World) (hB : Below w0.heap.size w0 w) (hdef : x.defers = df) (u3 : x.tmps.getD 3 undef = .pointer (some ⟨b3, 0, none⟩)) (u4 : x.tmps.getD 4 undef = .pointer (some ⟨b4, 0, none⟩)) (u5 : x.tmps.getD 5 undef = .pointer (some ⟨b5, 0, none⟩)) (u7 : x.tmps.getD 7 undef = .pointer (some ⟨b7, 0, none⟩)) (u8 : x.tmps.getD 8 undef = .pointer (some ⟨b8, 0, none⟩)) (u9 : x.tmps.getD 9 undef = .pointer (some ⟨b9, 0, none⟩)) (u11 : x.tmps.getD 11 undef = .int .u8 (i : Nat))
    (p17 : salg8_val b3 b4 b5 b7 b8 b9 A B C i a b c 17 (x.tmps.getD 50 undef) w)
    : wpOpIn F n Tryd.prog salg8_ops Q 22 (fun a' w' => ∃ v, a' = x.put (some 55) v ∧ (v = (if (!((neqB ((a || b || c)) (((a || b) || c))))) = true then .int .u8 (i : Nat) else undef)) ∧ Below w.heap.size w w') x w := by
  have ho : salg8_ops[22]? = some salg8_o22 := rfl
  simp only [Array.getD_eq_getD_getElem?] at u3 u4 u5 u7 u8 u9 u11
  have q17 : x.tmps.getD 50 undef = .bool (neqB ((a || b || c)) (((a || b) || c))) := p17
  simp only [Array.getD_eq_getD_getElem?] at q17
  cases a <;> cases b <;> cases c
  all_goals
    simp only [Bool.or_true, Bool.true_or, Bool.or_false, Bool.false_or, Bool.and_true, Bool.true_and, Bool.and_false, Bool.false_and, Bool.not_true, Bool.not_false, beqB, neqB, if_true, if_false, Bool.false_eq_true, reduceIte] at q17 ⊢
    have e17 : (salg8_ops[17]?.bind fun x => x.dst) = some 50 := rfl
    have g17 := get_someT q17 (fun h => by cases h)
    refine wpOpIn_stepT hF ho (fun K hK => ?_)
    clear ho
    rw [Oper.semAt_plain F _ _ (by intro c h; cases h)]
    simp only [salg8_o22]
    go_simp
    exact hK _ _ ⟨_, act_putD x hdef _ _, rfl, Below.refl _ _⟩
set_option maxRecDepth 100000 in
set_option maxHeartbeats 2000000 in
theorem salg8_s23 {F : Fence} (hF : Wide F) {n : Nat} (b3 b4 b5 b7 b8 b9 : Nat) (A B C : Nat → Bool) (i : Nat) (a b c : Bool) (Q : Exit → Act → World → Prop) (df : List Deferred) (w0 : World)
    (h3 : SBox w0 b3 A) (h4 : SBox w0 b4 B) (h5 : SBox w0 b5 C) (h7 : SBox w0 b7 (UN A B C)) (h8 : SBox w0 b8 (ME A B C)) (h9 : SBox w0 b9 (NO A)) (hT : Tab w0)
    (hi : i < 256) (ha : A i = a) (hb2 : B i = b) (hc : C i = c)
    (x : Act) (w : World) (hB : Below w0.heap.size w0 w) (hdef : x.defers = df) (u3 : x.tmps.getD 3 undef = .pointer (some ⟨b3, 0, none⟩)) (u4 : x.tmps.getD 4 undef = .pointer (some ⟨b4, 0, none⟩)) (u5 : x.tmps.getD 5 undef = .pointer (some ⟨b5, 0, none⟩)) (u7 : x.tmps.getD 7 undef = .pointer (some ⟨b7, 0, none⟩)) (u8 : x.tmps.getD 8 undef = .pointer (some ⟨b8, 0, none⟩)) (u9 : x.tmps.getD 9 undef = .pointer (some ⟨b9, 0, none⟩)) (u11 : x.tmps.getD 11 undef = .int .u8 (i : Nat))
    (p21 : salg8_val b3 b4 b5 b7 b8 b9 A B C i a b c 21 (x.tmps.getD 54 undef) w)
    (p22 : salg8_val b3 b4 b5 b7 b8 b9 A B C i a b c 22 (x.tmps.getD 55 undef) w)
    (p17 : salg8_val b3 b4 b5 b7 b8 b9 A B C i a b c 17 (x.tmps.getD 50 undef) w)
    : wpOpIn F n Tryd.prog salg8_ops Q 23 (fun a' w' => ∃ v, a' = x.put (some 56) v ∧ (v = (if (!((neqB ((a || b || c)) (((a || b) || c))))) = true then .bool a else undef)) ∧ Below w.heap.size w w') x w := by
  have ho : salg8_ops[23]? = some salg8_o23 := rfl
  simp only [Array.getD_eq_getD_getElem?] at u3 u4 u5 u7 u8 u9 u11
  have q21 : x.tmps.getD 54 undef = (if (!((neqB ((a || b || c)) (((a || b) || c))))) = true then sv A else undef) := p21
  have q22 : x.tmps.getD 55 undef = (if (!((neqB ((a || b || c)) (((a || b) || c))))) = true then .int .u8 (i : Nat) else undef) := p22
  have q17 : x.tmps.getD 50 undef = .bool (neqB ((a || b || c)) (((a || b) || c))) := p17
  simp only [Array.getD_eq_getD_getElem?] at q21 q22 q17
  cases a <;> cases b <;> cases c
  all_goals
    simp only [Bool.or_true, Bool.true_or, Bool.or_false, Bool.false_or, Bool.and_true, Bool.true_and, Bool.and_false, Bool.false_and, Bool.not_true, Bool.not_false, beqB, neqB, if_true, if_false, Bool.false_eq_true, reduceIte] at q21 q22 q17 ⊢
    have e17 : (salg8_ops[17]?.bind fun x => x.dst) = some 50 := rfl
    have g17 := get_someT q17 (fun h => by cases h)
    refine wpOpIn_stepT hF ho (fun K hK => ?_)
    clear ho
    rw [Oper.semAt_plain F _ _ (by intro c h; cases h)]
    simp only [salg8_o23]
    go_simp
    first
      | exact hK _ _ ⟨_, act_putD x hdef _ _, rfl, Below.refl _ _⟩
      | refine ⟨hF.deep, (hF.call (has_any (A) i w hi)).mono ?_⟩
        rintro e w' ⟨rfl, hb⟩
        exact hK _ _ ⟨_, act_putD x hdef _ _, by simp [UN, ME, NO, ha, hb2, hc], hb⟩
set_option maxRecDepth 100000 in
set_option maxHeartbeats 2000000 in
theorem salg8_s24 {F : Fence} (hF : Wide F) {n : Nat} (b3 b4 b5 b7 b8 b9 : Nat) (A B C : Nat → Bool) (i : Nat) (a b c : Bool) (Q : Exit → Act → World → Prop) (df : List Deferred) (w0 : World)
    (h3 : SBox w0 b3 A) (h4 : SBox w0 b4 B) (h5 : SBox w0 b5 C) (h7 : SBox w0 b7 (UN A B C)) (h8 : SBox w0 b8 (ME A B C)) (h9 : SBox w0 b9 (NO A)) (hT : Tab w0)
    (hi : i < 256) (ha : A i = a) (hb2 : B i = b) (hc : C i = c)
    (x : Act) (w : World) (hB : Below w0.heap.size w0 w) (hdef : x.defers = df) (u3 : x.tmps.getD 3 undef = .pointer (some ⟨b3, 0, none⟩)) (u4 : x.tmps.getD 4 undef = .pointer (some ⟨b4, 0, none⟩)) (u5 : x.tmps.getD 5 undef = .pointer (some ⟨b5, 0, none⟩)) (u7 : x.tmps.getD 7 undef = .pointer (some ⟨b7, 0, none⟩)) (u8 : x.tmps.getD 8 undef = .pointer (some ⟨b8, 0, none⟩)) (u9 : x.tmps.getD 9 undef = .pointer (some ⟨b9, 0, none⟩)) (u11 : x.tmps.getD 11 undef = .int .u8 (i : Nat))
    (p23 : salg8_val b3 b4 b5 b7 b8 b9 A B C i a b c 23 (x.tmps.getD 56 undef) w)
    (p17 : salg8_val b3 b4 b5 b7 b8 b9 A B C i a b c 17 (x.tmps.getD 50 undef) w)
    : wpOpIn F n Tryd.prog salg8_ops Q 24 (fun a' w' => ∃ v, a' = x.put (some 57) v ∧ (v = (if (!((neqB ((a || b || c)) (((a || b) || c))))) = true then .bool a else undef)) ∧ Below w.heap.size w w') x w := by
  have ho : salg8_ops[24]? = some salg8_o24 := rfl
  simp only [Array.getD_eq_getD_getElem?] at u3 u4 u5 u7 u8 u9 u11
  have q23 : x.tmps.getD 56 undef = (if (!((neqB ((a || b || c)) (((a || b) || c))))) = true then .bool a else undef) := p23
  have q17 : x.tmps.getD 50 undef = .bool (neqB ((a || b || c)) (((a || b) || c))) := p17
  simp only [Array.getD_eq_getD_getElem?] at q23 q17
  cases a <;> cases b <;> cases c
  all_goals
    simp only [Bool.or_true, Bool.true_or, Bool.or_false, Bool.false_or, Bool.and_true, Bool.true_and, Bool.and_false, Bool.false_and, Bool.not_true, Bool.not_false, beqB, neqB, if_true, if_false, Bool.false_eq_true, reduceIte] at q23 q17 ⊢
    have e17 : (salg8_ops[17]?.bind fun x => x.dst) = some 50 := rfl
    have g17 := get_someT q17 (fun h => by cases h)
    refine wpOpIn_stepT hF ho (fun K hK => ?_)
    clear ho
    rw [Oper.semAt_plain F _ _ (by intro c h; cases h)]
    simp only [salg8_o24]
    go_simp
    exact hK _ _ ⟨_, act_putD x hdef _ _, rfl, Below.refl _ _⟩
set_option maxRecDepth 100000 in
set_option maxHeartbeats 2000000 in
theorem salg8_s25 {F : Fence} (hF : Wide F) {n : Nat} (b3 b4 b5 b7 b8 b9 : Nat) (A B C : Nat → Bool) (i : Nat) (a b c : Bool) (Q : Exit → Act → World → Prop) (df : List Deferred) (w0 : World)
    (h3 : SBox w0 b3 A) (h4 : SBox w0 b4 B) (h5 : SBox w0 b5 C) (h7 : SBox w0 b7 (UN A B C)) (h8 : SBox w0 b8 (ME A B C)) (h9 : SBox w0 b9 (NO A)) (hT : Tab w0)
    (hi : i < 256) (ha : A i = a) (hb2 : B i = b) (hc : C i = c)
    (x : Act) (w : World) (hB : Below w0.heap.size w0 w) (hdef : x.defers = df) (u3 : x.tmps.getD 3 undef = .pointer (some ⟨b3, 0, none⟩)) (u4 : x.tmps.getD 4 undef = .pointer (some ⟨b4, 0, none⟩)) (u5 : x.tmps.getD 5 undef = .pointer (some ⟨b5, 0, none⟩)) (u7 : x.tmps.getD 7 undef = .pointer (some ⟨b7, 0, none⟩)) (u8 : x.tmps.getD 8 undef = .pointer (some ⟨b8, 0, none⟩)) (u9 : x.tmps.getD 9 undef = .pointer (some ⟨b9, 0, none⟩)) (u11 : x.tmps.getD 11 undef = .int .u8 (i : Nat))
    (p24 : salg8_val b3 b4 b5 b7 b8 b9 A B C i a b c 24 (x.tmps.getD 57 undef) w)
    : wpOpIn F n Tryd.prog salg8_ops Q 25 (fun a' w' => ∃ v, a' = x.put (some 58) v ∧ (v = (if (a) = true then sv B else undef)) ∧ Below w.heap.size w w') x w := by
  have ho : salg8_ops[25]? = some salg8_o25 := rfl
  simp only [Array.getD_eq_getD_getElem?] at u3 u4 u5 u7 u8 u9 u11
  have q24 : x.tmps.getD 57 undef = (if (!((neqB ((a || b || c)) (((a || b) || c))))) = true then .bool a else undef) := p24
  simp only [Array.getD_eq_getD_getElem?] at q24
  cases a <;> cases b <;> cases c
  all_goals
    simp only [Bool.or_true, Bool.true_or, Bool.or_false, Bool.false_or, Bool.and_true, Bool.true_and, Bool.and_false, Bool.false_and, Bool.not_true, Bool.not_false, beqB, neqB, if_true, if_false, Bool.false_eq_true, reduceIte] at q24 ⊢
    have e24 : (salg8_ops[24]?.bind fun x => x.dst) = some 57 := rfl
    have g24 := get_someT q24 (fun h => by cases h)
    have hsb := h4.below hB h4.lt
    have c0 := hsb.cell 0 (by omega)
    have c1 := hsb.cell 1 (by omega)
    have c2 := hsb.cell 2 (by omega)
    have c3 := hsb.cell 3 (by omega)
    refine wpOpIn_stepT hF ho (fun K hK => ?_)
    clear ho
    rw [Oper.semAt_plain F _ _ (by intro c h; cases h)]
    simp only [salg8_o25]
    go_simp
    exact hK _ _ ⟨_, act_putD x hdef _ _, rfl, Below.refl _ _⟩
set_option maxRecDepth 100000 in
set_option maxHeartbeats 2000000 in
theorem salg8_s26 {F : Fence} (hF : Wide F) {n : Nat} (b3 b4 b5 b7 b8 b9 : Nat) (A B C : Nat → Bool) (i : Nat) (a b c : Bool) (Q : Exit → Act → World → Prop) (df : List Deferred) (w0 : World)
    (h3 : SBox w0 b3 A) (h4 : SBox w0 b4 B) (h5 : SBox w0 b5 C) (h7 : SBox w0 b7 (UN A B C)) (h8 : SBox w0 b8 (ME A B C)) (h9 : SBox w0 b9 (NO A)) (hT : Tab w0)
    (hi : i < 256) (ha : A i = a) (hb2 : B i = b) (hc : C i = c)
    (x : Act) (w : World) (hB : Below w0.heap.size w0 w) (hdef : x.defers = df) (u3 : x.tmps.getD 3 undef = .pointer (some ⟨b3, 0, none⟩)) (u4 : x.tmps.getD 4 undef = .pointer (some ⟨b4, 0, none⟩)) (u5 : x.tmps.getD 5 undef = .pointer (some ⟨b5, 0, none⟩)) (u7 : x.tmps.getD 7 undef = .pointer (some ⟨b7, 0, none⟩)) (u8 : x.tmps.getD 8 undef = .pointer (some ⟨b8, 0, none⟩)) (u9 : x.tmps.getD 9 undef = .pointer (some ⟨b9, 0, none⟩)) (u11 : x.tmps.getD 11 undef = .int .u8 (i : Nat))
    (p24 : salg8_val b3 b4 b5 b7 b8 b9 A B C i a b c 24 (x.tmps.getD 57 undef) w)
    : wpOpIn F n Tryd.prog salg8_ops Q 26 (fun a' w' => ∃ v, a' = x.put (some 59) v ∧ (v = (if (a) = true then .int .u8 (i : Nat) else undef)) ∧ Below w.heap.size w w') x w := by
  have ho : salg8_ops[26]? = some salg8_o26 := rfl
  simp only [Array.getD_eq_getD_getElem?] at u3 u4 u5 u7 u8 u9 u11
  have q24 : x.tmps.getD 57 undef = (if (!((neqB ((a || b || c)) (((a || b) || c))))) = true then .bool a else undef) := p24
  simp only [Array.getD_eq_getD_getElem?] at q24
  cases a <;> cases b <;> cases c
  all_goals
    simp only [Bool.or_true, Bool.true_or, Bool.or_false, Bool.false_or, Bool.and_true, Bool.true_and, Bool.and_false, Bool.false_and, Bool.not_true, Bool.not_false, beqB, neqB, if_true, if_false, Bool.false_eq_true, reduceIte] at q24 ⊢
    have e24 : (salg8_ops[24]?.bind fun x => x.dst) = some 57 := rfl
    have g24 := get_someT q24 (fun h => by cases h)
    refine wpOpIn_stepT hF ho (fun K hK => ?_)
    clear ho
    rw [Oper.semAt_plain F _ _ (by intro c h; cases h)]
    simp only [salg8_o26]
    go_simp
    exact hK _ _ ⟨_, act_putD x hdef _ _, rfl, Below.refl _ _⟩
set_option maxRecDepth 100000 in
set_option maxHeartbeats 2000000 in
theorem salg8_s27 {F : Fence} (hF : Wide F) {n : Nat} (b3 b4 b5 b7 b8 b9 : Nat) (A B C : Nat → Bool) (i : Nat) (a b c : Bool) (Q : Exit → Act → World → Prop) (df : List Deferred) (w0 : World)
    (h3 : SBox w0 b3 A) (h4 : SBox w0 b4 B) (h5 : SBox w0 b5 C) (h7 : SBox w0 b7 (UN A B C)) (h8 : SBox w0 b8 (ME A B C)) (h9 : SBox w0 b9 (NO A)) (hT : Tab w0)
    (hi : i < 256) (ha : A i = a) (hb2 : B i = b) (hc : C i = c)
    (x : Act) (w : World) (hB : Below w0.heap.size w0 w) (hdef : x.defers = df) (u3 : x.tmps.getD 3 undef = .pointer (some ⟨b3, 0, none⟩)) (u4 : x.tmps.getD 4 undef = .pointer (some ⟨b4, 0, none⟩)) (u5 : x.tmps.getD 5 undef = .pointer (some ⟨b5, 0, none⟩)) (u7 : x.tmps.getD 7 undef = .pointer (some ⟨b7, 0, none⟩)) (u8 : x.tmps.getD 8 undef = .pointer (some ⟨b8, 0, none⟩)) (u9 : x.tmps.getD 9 undef = .pointer (some ⟨b9, 0, none⟩)) (u11 : x.tmps.getD 11 undef = .int .u8 (i : Nat))
    (p25 : salg8_val b3 b4 b5 b7 b8 b9 A B C i a b c 25 (x.tmps.getD 58 undef) w)
    (p26 : salg8_val b3 b4 b5 b7 b8 b9 A B C i a b c 26 (x.tmps.getD 59 undef) w)
    (p24 : salg8_val b3 b4 b5 b7 b8 b9 A B C i a b c 24 (x.tmps.getD 57 undef) w)
    : wpOpIn F n Tryd.prog salg8_ops Q 27 (fun a' w' => ∃ v, a' = x.put (some 60) v ∧ (v = (if (a) = true then .bool b else undef)) ∧ Below w.heap.size w w') x w := by
  have ho : salg8_ops[27]? = some salg8_o27 := rfl
  simp only [Array.getD_eq_getD_getElem?] at u3 u4 u5 u7 u8 u9 u11
  have q25 : x.tmps.getD 58 undef = (if (a) = true then sv B else undef) := p25
  have q26 : x.tmps.getD 59 undef = (if (a) = true then .int .u8 (i : Nat) else undef) := p26
  have q24 : x.tmps.getD 57 undef = (if (!((neqB ((a || b || c)) (((a || b) || c))))) = true then .bool a else undef) := p24
  simp only [Array.getD_eq_getD_getElem?] at q25 q26 q24
  cases a <;> cases b <;> cases c
  all_goals
    simp only [Bool.or_true, Bool.true_or, Bool.or_false, Bool.false_or, Bool.and_true, Bool.true_and, Bool.and_false, Bool.false_and, Bool.not_true, Bool.not_false, beqB, neqB, if_true, if_false, Bool.false_eq_true, reduceIte] at q25 q26 q24 ⊢
    have e24 : (salg8_ops[24]?.bind fun x => x.dst) = some 57 := rfl
    have g24 := get_someT q24 (fun h => by cases h)
    refine wpOpIn_stepT hF ho (fun K hK => ?_)
    clear ho
    rw [Oper.semAt_plain F _ _ (by intro c h; cases h)]
    simp only [salg8_o27]
    go_simp
    first
      | exact hK _ _ ⟨_, act_putD x hdef _ _, rfl, Below.refl _ _⟩
      | refine ⟨hF.deep, (hF.call (has_any (B) i w hi)).mono ?_⟩
        rintro e w' ⟨rfl, hb⟩
        exact hK _ _ ⟨_, act_putD x hdef _ _, by simp [UN, ME, NO, ha, hb2, hc], hb⟩
set_option maxRecDepth 100000 in
set_option maxHeartbeats 2000000 in
theorem salg8_s28 {F : Fence} (hF : Wide F) {n : Nat} (b3 b4 b5 b7 b8 b9 : Nat) (A B C : Nat → Bool) (i : Nat) (a b c : Bool) (Q : Exit → Act → World → Prop) (df : List Deferred) (w0 : World)
    (h3 : SBox w0 b3 A) (h4 : SBox w0 b4 B) (h5 : SBox w0 b5 C) (h7 : SBox w0 b7 (UN A B C)) (h8 : SBox w0 b8 (ME A B C)) (h9 : SBox w0 b9 (NO A)) (hT : Tab w0)
    (hi : i < 256) (ha : A i = a) (hb2 : B i = b) (hc : C i = c)
    (x : Act) (w : World) (hB : Below w0.heap.size w0 w) (hdef : x.defers = df) (u3 : x.tmps.getD 3 undef = .pointer (some ⟨b3, 0, none⟩)) (u4 : x.tmps.getD 4 undef = .pointer (some ⟨b4, 0, none⟩)) (u5 : x.tmps.getD 5 undef = .pointer (some ⟨b5, 0, none⟩)) (u7 : x.tmps.getD 7 undef = .pointer (some ⟨b7, 0, none⟩)) (u8 : x.tmps.getD 8 undef = .pointer (some ⟨b8, 0, none⟩)) (u9 : x.tmps.getD 9 undef = .pointer (some ⟨b9, 0, none⟩)) (u11 : x.tmps.getD 11 undef = .int .u8 (i : Nat))
    (p24 : salg8_val b3 b4 b5 b7 b8 b9 A B C i a b c 24 (x.tmps.getD 57 undef) w)
    (p27 : salg8_val b3 b4 b5 b7 b8 b9 A B C i a b c 27 (x.tmps.getD 60 undef) w)
    (p17 : salg8_val b3 b4 b5 b7 b8 b9 A B C i a b c 17 (x.tmps.getD 50 undef) w)
    : wpOpIn F n Tryd.prog salg8_ops Q 28 (fun a' w' => ∃ v, a' = x.put (some 61) v ∧ (v = (if (!((neqB ((a || b || c)) (((a || b) || c))))) = true then .bool (a && b) else undef)) ∧ Below w.heap.size w w') x w := by
  have ho : salg8_ops[28]? = some salg8_o28 := rfl
  simp only [Array.getD_eq_getD_getElem?] at u3 u4 u5 u7 u8 u9 u11
  have q24 : x.tmps.getD 57 undef = (if (!((neqB ((a || b || c)) (((a || b) || c))))) = true then .bool a else undef) := p24
  have q27 : x.tmps.getD 60 undef = (if (a) = true then .bool b else undef) := p27
  have q17 : x.tmps.getD 50 undef = .bool (neqB ((a || b || c)) (((a || b) || c))) := p17
  simp only [Array.getD_eq_getD_getElem?] at q24 q27 q17
  cases a <;> cases b <;> cases c
  all_goals
    simp only [Bool.or_true, Bool.true_or, Bool.or_false, Bool.false_or, Bool.and_true, Bool.true_and, Bool.and_false, Bool.false_and, Bool.not_true, Bool.not_false, beqB, neqB, if_true, if_false, Bool.false_eq_true, reduceIte] at q24 q27 q17 ⊢
    have e17 : (salg8_ops[17]?.bind fun x => x.dst) = some 50 := rfl
    have g17 := get_someT q17 (fun h => by cases h)
    refine wpOpIn_stepT hF ho (fun K hK => ?_)
    clear ho
    rw [Oper.semAt_plain F _ _ (by intro c h; cases h)]
    simp only [salg8_o28]
    go_simp
    exact hK _ _ ⟨_, act_putD x hdef _ _, rfl, Below.refl _ _⟩
set_option maxRecDepth 100000 in
set_option maxHeartbeats 2000000 in
theorem salg8_s29 {F : Fence} (hF : Wide F) {n : Nat} (b3 b4 b5 b7 b8 b9 : Nat) (A B C : Nat → Bool) (i : Nat) (a b c : Bool) (Q : Exit → Act → World → Prop) (df : List Deferred) (w0 : World)
    (h3 : SBox w0 b3 A) (h4 : SBox w0 b4 B) (h5 : SBox w0 b5 C) (h7 : SBox w0 b7 (UN A B C)) (h8 : SBox w0 b8 (ME A B C)) (h9 : SBox w0 b9 (NO A)) (hT : Tab w0)
    (hi : i < 256) (ha : A i = a) (hb2 : B i = b) (hc : C i = c)
    (x : Act) (w : World) (hB : Below w0.heap.size w0 w) (hdef : x.defers = df) (u3 : x.tmps.getD 3 undef = .pointer (some ⟨b3, 0, none⟩)) (u4 : x.tmps.getD 4 undef = .pointer (some ⟨b4, 0, none⟩)) (u5 : x.tmps.getD 5 undef = .pointer (some ⟨b5, 0, none⟩)) (u7 : x.tmps.getD 7 undef = .pointer (some ⟨b7, 0, none⟩)) (u8 : x.tmps.getD 8 undef = .pointer (some ⟨b8, 0, none⟩)) (u9 : x.tmps.getD 9 undef = .pointer (some ⟨b9, 0, none⟩)) (u11 : x.tmps.getD 11 undef = .int .u8 (i : Nat))
    (p28 : salg8_val b3 b4 b5 b7 b8 b9 A B C i a b c 28 (x.tmps.getD 61 undef) w)
    (p17 : salg8_val b3 b4 b5 b7 b8 b9 A B C i a b c 17 (x.tmps.getD 50 undef) w)
    : wpOpIn F n Tryd.prog salg8_ops Q 29 (fun a' w' => ∃ v, a' = x.put (some 62) v ∧ (v = (if (!((neqB ((a || b || c)) (((a || b) || c))))) = true then .bool (a && b) else undef)) ∧ Below w.heap.size w w') x w := by
  have ho : salg8_ops[29]? = some salg8_o29 := rfl
  simp only [Array.getD_eq_getD_getElem?] at u3 u4 u5 u7 u8 u9 u11
  have q28 : x.tmps.getD 61 undef = (if (!((neqB ((a || b || c)) (((a || b) || c))))) = true then .bool (a && b) else undef) := p28
  have q17 : x.tmps.getD 50 undef = .bool (neqB ((a || b || c)) (((a || b) || c))) := p17
  simp only [Array.getD_eq_getD_getElem?] at q28 q17
  cases a <;> cases b <;> cases c
  all_goals
    simp only [Bool.or_true, Bool.true_or, Bool.or_false, Bool.false_or, Bool.and_true, Bool.true_and, Bool.and_false, Bool.false_and, Bool.not_true, Bool.not_false, beqB, neqB, if_true, if_false, Bool.false_eq_true, reduceIte] at q28 q17 ⊢
    have e17 : (salg8_ops[17]?.bind fun x => x.dst) = some 50 := rfl
    have g17 := get_someT q17 (fun h => by cases h)
    refine wpOpIn_stepT hF ho (fun K hK => ?_)
    clear ho
    rw [Oper.semAt_plain F _ _ (by intro c h; cases h)]
    simp only [salg8_o29]
    go_simp
    exact hK _ _ ⟨_, act_putD x hdef _ _, rfl, Below.refl _ _⟩
set_option maxRecDepth 100000 in
set_option maxHeartbeats 2000000 in
theorem salg8_s30 {F : Fence} (hF : Wide F) {n : Nat} (b3 b4 b5 b7 b8 b9 : Nat) (A B C : Nat → Bool) (i : Nat) (a b c : Bool) (Q : Exit → Act → World → Prop) (df : List Deferred) (w0 : World)
    (h3 : SBox w0 b3 A) (h4 : SBox w0 b4 B) (h5 : SBox w0 b5 C) (h7 : SBox w0 b7 (UN A B C)) (h8 : SBox w0 b8 (ME A B C)) (h9 : SBox w0 b9 (NO A)) (hT : Tab w0)
    (hi : i < 256) (ha : A i = a) (hb2 : B i = b) (hc : C i = c)
    (x : Act) (w : World) (hB : Below w0.heap.size w0 w) (hdef : x.defers = df) (u3 : x.tmps.getD 3 undef = .pointer (some ⟨b3, 0, none⟩)) (u4 : x.tmps.getD 4 undef = .pointer (some ⟨b4, 0, none⟩)) (u5 : x.tmps.getD 5 undef = .pointer (some ⟨b5, 0, none⟩)) (u7 : x.tmps.getD 7 undef = .pointer (some ⟨b7, 0, none⟩)) (u8 : x.tmps.getD 8 undef = .pointer (some ⟨b8, 0, none⟩)) (u9 : x.tmps.getD 9 undef = .pointer (some ⟨b9, 0, none⟩)) (u11 : x.tmps.getD 11 undef = .int .u8 (i : Nat))
    (p29 : salg8_val b3 b4 b5 b7 b8 b9 A B C i a b c 29 (x.tmps.getD 62 undef) w)
    : wpOpIn F n Tryd.prog salg8_ops Q 30 (fun a' w' => ∃ v, a' = x.put (some 63) v ∧ (v = (if ((a && b)) = true then sv C else undef)) ∧ Below w.heap.size w w') x w := by
  have ho : salg8_ops[30]? = some salg8_o30 := rfl
  simp only [Array.getD_eq_getD_getElem?] at u3 u4 u5 u7 u8 u9 u11
  have q29 : x.tmps.getD 62 undef = (if (!((neqB ((a || b || c)) (((a || b) || c))))) = true then .bool (a && b) else undef) := p29
  simp only [Array.getD_eq_getD_getElem?] at q29
  cases a <;> cases b <;> cases c
  all_goals
    simp only [Bool.or_true, Bool.true_or, Bool.or_false, Bool.false_or, Bool.and_true, Bool.true_and, Bool.and_false, Bool.false_and, Bool.not_true, Bool.not_false, beqB, neqB, if_true, if_false, Bool.false_eq_true, reduceIte] at q29 ⊢
    have e29 : (salg8_ops[29]?.bind fun x => x.dst) = some 62 := rfl
    have g29 := get_someT q29 (fun h => by cases h)
    have hsb := h5.below hB h5.lt
    have c0 := hsb.cell 0 (by omega)
    have c1 := hsb.cell 1 (by omega)
    have c2 := hsb.cell 2 (by omega)
    have c3 := hsb.cell 3 (by omega)
    refine wpOpIn_stepT hF ho (fun K hK => ?_)
    clear ho
    rw [Oper.semAt_plain F _ _ (by intro c h; cases h)]
    simp only [salg8_o30]
    go_simp
    exact hK _ _ ⟨_, act_putD x hdef _ _, rfl, Below.refl _ _⟩
set_option maxRecDepth 100000 in
set_option maxHeartbeats 2000000 in
theorem salg8_s31 {F : Fence} (hF : Wide F) {n : Nat} (b3 b4 b5 b7 b8 b9 : Nat) (A B C : Nat → Bool) (i : Nat) (a b c : Bool) (Q : Exit → Act → World → Prop) (df : List Deferred) (w0 : World)
    (h3 : SBox w0 b3 A) (h4 : SBox w0 b4 B) (h5 : SBox w0 b5 C) (h7 : SBox w0 b7 (UN A B C)) (h8 : SBox w0 b8 (ME A B C)) (h9 : SBox w0 b9 (NO A)) (hT : Tab w0)
    (hi : i < 256) (ha : A i = a) (hb2 : B i = b) (hc : C i = c)
    (x : Act) (w : World) (hB : Below w0.heap.size w0 w) (hdef : x.defers = df) (u3 : x.tmps.getD 3 undef = .pointer (some ⟨b3, 0, none⟩)) (u4 : x.tmps.getD 4 undef = .pointer (some ⟨b4, 0, none⟩)) (u5 : x.tmps.getD 5 undef = .pointer (some ⟨b5, 0, none⟩)) (u7 : x.tmps.getD 7 undef = .pointer (some ⟨b7, 0, none⟩)) (u8 : x.tmps.getD 8 undef = .pointer (some ⟨b8, 0, none⟩)) (u9 : x.tmps.getD 9 undef = .pointer (some ⟨b9, 0, none⟩)) (u11 : x.tmps.getD 11 undef = .int .u8 (i : Nat))
    (p29 : salg8_val b3 b4 b5 b7 b8 b9 A B C i a b c 29 (x.tmps.getD 62 undef) w)
    : wpOpIn F n Tryd.prog salg8_ops Q 31 (fun a' w' => ∃ v, a' = x.put (some 64) v ∧ (v = (if ((a && b)) = true then .int .u8 (i : Nat) else undef)) ∧ Below w.heap.size w w') x w := by
  have ho : salg8_ops[31]? = some salg8_o31 := rfl
  simp only [Array.getD_eq_getD_getElem?] at u3 u4 u5 u7 u8 u9 u11
  have q29 : x.tmps.getD 62 undef = (if (!((neqB ((a || b || c)) (((a || b) || c))))) = true then .bool (a && b) else undef) := p29
  simp only [Array.getD_eq_getD_getElem?] at q29
  cases a <;> cases b <;> cases c
  all_goals
    simp only [Bool.or_true, Bool.true_or, Bool.or_false, Bool.false_or, Bool.and_true, Bool.true_and, Bool.and_false, Bool.false_and, Bool.not_true, Bool.not_false, beqB, neqB, if_true, if_false, Bool.false_eq_true, reduceIte] at q29 ⊢
    have e29 : (salg8_ops[29]?.bind fun x => x.dst) = some 62 := rfl
    have g29 := get_someT q29 (fun h => by cases h)
    refine wpOpIn_stepT hF ho (fun K hK => ?_)
    clear ho
    rw [Oper.semAt_plain F _ _ (by intro c h; cases h)]
    simp only [salg8_o31]
    go_simp
    exact hK _ _ ⟨_, act_putD x hdef _ _, rfl, Below.refl _ _⟩
set_option maxRecDepth 100000 in
set_option maxHeartbeats 2000000 in
theorem salg8_s32 {F : Fence} (hF : Wide F) {n : Nat} (b3 b4 b5 b7 b8 b9 : Nat) (A B C : Nat → Bool) (i : Nat) (a b c : Bool) (Q : Exit → Act → World → Prop) (df : List Deferred) (w0 : World)
    (h3 : SBox w0 b3 A) (h4 : SBox w0 b4 B) (h5 : SBox w0 b5 C) (h7 : SBox w0 b7 (UN A B C)) (h8 : SBox w0 b8 (ME A B C)) (h9 : SBox w0 b9 (NO A)) (hT : Tab w0)
    (hi : i < 256) (ha : A i = a) (hb2 : B i = b) (hc : C i = c)
    (x : Act) (w : World) (hB : Below w0.heap.size w0 w) (hdef : x.defers = df) (u3 : x.tmps.getD 3 undef = .pointer (some ⟨b3, 0, none⟩)) (u4 : x.tmps.getD 4 undef = .pointer (some ⟨b4, 0, none⟩)) (u5 : x.tmps.getD 5 undef = .pointer (some ⟨b5, 0, none⟩)) (u7 : x.tmps.getD 7 undef = .pointer (some ⟨b7, 0, none⟩)) (u8 : x.tmps.getD 8 undef = .pointer (some ⟨b8, 0, none⟩)) (u9 : x.tmps.getD 9 undef = .pointer (some ⟨b9, 0, none⟩)) (u11 : x.tmps.getD 11 undef = .int .u8 (i : Nat))
    (p30 : salg8_val b3 b4 b5 b7 b8 b9 A B C i a b c 30 (x.tmps.getD 63 undef) w)
    (p31 : salg8_val b3 b4 b5 b7 b8 b9 A B C i a b c 31 (x.tmps.getD 64 undef) w)
    (p29 : salg8_val b3 b4 b5 b7 b8 b9 A B C i a b c 29 (x.tmps.getD 62 undef) w)
    : wpOpIn F n Tryd.prog salg8_ops Q 32 (fun a' w' => ∃ v, a' = x.put (some 65) v ∧ (v = (if ((a && b)) = true then .bool c else undef)) ∧ Below w.heap.size w w') x w := by
  have ho : salg8_ops[32]? = some salg8_o32 := rfl
  simp only [Array.getD_eq_getD_getElem?] at u3 u4 u5 u7 u8 u9 u11
  have q30 : x.tmps.getD 63 undef = (if ((a && b)) = true then sv C else undef) := p30
  have q31 : x.tmps.getD 64 undef = (if ((a && b)) = true then .int .u8 (i : Nat) else undef) := p31
  have q29 : x.tmps.getD 62 undef = (if (!((neqB ((a || b || c)) (((a || b) || c))))) = true then .bool (a && b) else undef) := p29
  simp only [Array.getD_eq_getD_getElem?] at q30 q31 q29
  cases a <;> cases b <;> cases c
  all_goals
    simp only [Bool.or_true, Bool.true_or, Bool.or_false, Bool.false_or, Bool.and_true, Bool.true_and, Bool.and_false, Bool.false_and, Bool.not_true, Bool.not_false, beqB, neqB, if_true, if_false, Bool.false_eq_true, reduceIte] at q30 q31 q29 ⊢
    have e29 : (salg8_ops[29]?.bind fun x => x.dst) = some 62 := rfl
    have g29 := get_someT q29 (fun h => by cases h)
    refine wpOpIn_stepT hF ho (fun K hK => ?_)
    clear ho
    rw [Oper.semAt_plain F _ _ (by intro c h; cases h)]
    simp only [salg8_o32]
    go_simp
    first
      | exact hK _ _ ⟨_, act_putD x hdef _ _, rfl, Below.refl _ _⟩
      | refine ⟨hF.deep, (hF.call (has_any (C) i w hi)).mono ?_⟩
        rintro e w' ⟨rfl, hb⟩
        exact hK _ _ ⟨_, act_putD x hdef _ _, by simp [UN, ME, NO, ha, hb2, hc], hb⟩
set_option maxRecDepth 100000 in
set_option maxHeartbeats 2000000 in
theorem salg8_s33 {F : Fence} (hF : Wide F) {n : Nat} (b3 b4 b5 b7 b8 b9 : Nat) (A B C : Nat → Bool) (i : Nat) (a b c : Bool) (Q : Exit → Act → World → Prop) (df : List Deferred) (w0 : World)
    (h3 : SBox w0 b3 A) (h4 : SBox w0 b4 B) (h5 : SBox w0 b5 C) (h7 : SBox w0 b7 (UN A B C)) (h8 : SBox w0 b8 (ME A B C)) (h9 : SBox w0 b9 (NO A)) (hT : Tab w0)
    (hi : i < 256) (ha : A i = a) (hb2 : B i = b) (hc : C i = c)
    (x : Act) (w : World) (hB : Below w0.heap.size w0 w) (hdef : x.defers = df) (u3 : x.tmps.getD 3 undef = .pointer (some ⟨b3, 0, none⟩)) (u4 : x.tmps.getD 4 undef = .pointer (some ⟨b4, 0, none⟩)) (u5 : x.tmps.getD 5 undef = .pointer (some ⟨b5, 0, none⟩)) (u7 : x.tmps.getD 7 undef = .pointer (some ⟨b7, 0, none⟩)) (u8 : x.tmps.getD 8 undef = .pointer (some ⟨b8, 0, none⟩)) (u9 : x.tmps.getD 9 undef = .pointer (some ⟨b9, 0, none⟩)) (u11 : x.tmps.getD 11 undef = .int .u8 (i : Nat))
    (p29 : salg8_val b3 b4 b5 b7 b8 b9 A B C i a b c 29 (x.tmps.getD 62 undef) w)
    (p32 : salg8_val b3 b4 b5 b7 b8 b9 A B C i a b c 32 (x.tmps.getD 65 undef) w)
    (p17 : salg8_val b3 b4 b5 b7 b8 b9 A B C i a b c 17 (x.tmps.getD 50 undef) w)
    : wpOpIn F n Tryd.prog salg8_ops Q 33 (fun a' w' => ∃ v, a' = x.put (some 66) v ∧ (v = (if (!((neqB ((a || b || c)) (((a || b) || c))))) = true then .bool ((a && b) && c) else undef)) ∧ Below w.heap.size w w') x w := by
  have ho : salg8_ops[33]? = some salg8_o33 := rfl
  simp only [Array.getD_eq_getD_getElem?] at u3 u4 u5 u7 u8 u9 u11
  have q29 : x.tmps.getD 62 undef = (if (!((neqB ((a || b || c)) (((a || b) || c))))) = true then .bool (a && b) else undef) := p29
  have q32 : x.tmps.getD 65 undef = (if ((a && b)) = true then .bool c else undef) := p32
  have q17 : x.tmps.getD 50 undef = .bool (neqB ((a || b || c)) (((a || b) || c))) := p17
  simp only [Array.getD_eq_getD_getElem?] at q29 q32 q17
  cases a <;> cases b <;> cases c
  all_goals
    simp only [Bool.or_true, Bool.true_or, Bool.or_false, Bool.false_or, Bool.and_true, Bool.true_and, Bool.and_false, Bool.false_and, Bool.not_true, Bool.not_false, beqB, neqB, if_true, if_false, Bool.false_eq_true, reduceIte] at q29 q32 q17 ⊢
    have e17 : (salg8_ops[17]?.bind fun x => x.dst) = some 50 := rfl
    have g17 := get_someT q17 (fun h => by cases h)
    refine wpOpIn_stepT hF ho (fun K hK => ?_)
    clear ho
    rw [Oper.semAt_plain F _ _ (by intro c h; cases h)]
    simp only [salg8_o33]
    go_simp
    exact hK _ _ ⟨_, act_putD x hdef _ _, rfl, Below.refl _ _⟩
set_option maxRecDepth 100000 in
set_option maxHeartbeats 2000000 in
theorem salg8_s34 {F : Fence} (hF : Wide F) {n : Nat} (b3 b4 b5 b7 b8 b9 : Nat) (A B C : Nat → Bool) (i : Nat) (a b c : Bool) (Q : Exit → Act → World → Prop) (df : List Deferred) (w0 : World)
    (h3 : SBox w0 b3 A) (h4 : SBox w0 b4 B) (h5 : SBox w0 b5 C) (h7 : SBox w0 b7 (UN A B C)) (h8 : SBox w0 b8 (ME A B C)) (h9 : SBox w0 b9 (NO A)) (hT : Tab w0)
    (hi : i < 256) (ha : A i = a) (hb2 : B i = b) (hc : C i = c)
    (x : Act) (w : World) (hB : Below w0.heap.size w0 w) (hdef : x.defers = df) (u3 : x.tmps.getD 3 undef = .pointer (some ⟨b3, 0, none⟩)) (u4 : x.tmps.getD 4 undef = .pointer (some ⟨b4, 0, none⟩)) (u5 : x.tmps.getD 5 undef = .pointer (some ⟨b5, 0, none⟩)) (u7 : x.tmps.getD 7 undef = .pointer (some ⟨b7, 0, none⟩)) (u8 : x.tmps.getD 8 undef = .pointer (some ⟨b8, 0, none⟩)) (u9 : x.tmps.getD 9 undef = .pointer (some ⟨b9, 0, none⟩)) (u11 : x.tmps.getD 11 undef = .int .u8 (i : Nat))
    (p20 : salg8_val b3 b4 b5 b7 b8 b9 A B C i a b c 20 (x.tmps.getD 53 undef) w)
    (p33 : salg8_val b3 b4 b5 b7 b8 b9 A B C i a b c 33 (x.tmps.getD 66 undef) w)
    (p17 : salg8_val b3 b4 b5 b7 b8 b9 A B C i a b c 17 (x.tmps.getD 50 undef) w)
    : wpOpIn F n Tryd.prog salg8_ops Q 34 (fun a' w' => ∃ v, a' = x.put (some 67) v ∧ (v = (if (!((neqB ((a || b || c)) (((a || b) || c))))) = true then .bool (neqB ((a && b && c)) (((a && b) && c))) else undef)) ∧ Below w.heap.size w w') x w := by
  have ho : salg8_ops[34]? = some salg8_o34 := rfl
  simp only [Array.getD_eq_getD_getElem?] at u3 u4 u5 u7 u8 u9 u11
  have q20 : x.tmps.getD 53 undef = (if (!((neqB ((a || b || c)) (((a || b) || c))))) = true then .bool (a && b && c) else undef) := p20
  have q33 : x.tmps.getD 66 undef = (if (!((neqB ((a || b || c)) (((a || b) || c))))) = true then .bool ((a && b) && c) else undef) := p33
  have q17 : x.tmps.getD 50 undef = .bool (neqB ((a || b || c)) (((a || b) || c))) := p17
  simp only [Array.getD_eq_getD_getElem?] at q20 q33 q17
  cases a <;> cases b <;> cases c
  all_goals
    simp only [Bool.or_true, Bool.true_or, Bool.or_false, Bool.false_or, Bool.and_true, Bool.true_and, Bool.and_false, Bool.false_and, Bool.not_true, Bool.not_false, beqB, neqB, if_true, if_false, Bool.false_eq_true, reduceIte] at q20 q33 q17 ⊢
    have e17 : (salg8_ops[17]?.bind fun x => x.dst) = some 50 := rfl
    have g17 := get_someT q17 (fun h => by cases h)
    refine wpOpIn_stepT hF ho (fun K hK => ?_)
    clear ho
    rw [Oper.semAt_plain F _ _ (by intro c h; cases h)]
    simp only [salg8_o34]
    go_simp
    exact hK _ _ ⟨_, act_putD x hdef _ _, rfl, Below.refl _ _⟩
set_option maxRecDepth 100000 in
set_option maxHeartbeats 2000000 in
theorem salg8_s35 {F : Fence} (hF : Wide F) {n : Nat} (b3 b4 b5 b7 b8 b9 : Nat) (A B C : Nat → Bool) (i : Nat) (a b c : Bool) (Q : Exit → Act → World → Prop) (df : List Deferred) (w0 : World)
    (h3 : SBox w0 b3 A) (h4 : SBox w0 b4 B) (h5 : SBox w0 b5 C) (h7 : SBox w0 b7 (UN A B C)) (h8 : SBox w0 b8 (ME A B C)) (h9 : SBox w0 b9 (NO A)) (hT : Tab w0)
    (hi : i < 256) (ha : A i = a) (hb2 : B i = b) (hc : C i = c)
    (x : Act) (w : World) (hB : Below w0.heap.size w0 w) (hdef : x.defers = df) (u3 : x.tmps.getD 3 undef = .pointer (some ⟨b3, 0, none⟩)) (u4 : x.tmps.getD 4 undef = .pointer (some ⟨b4, 0, none⟩)) (u5 : x.tmps.getD 5 undef = .pointer (some ⟨b5, 0, none⟩)) (u7 : x.tmps.getD 7 undef = .pointer (some ⟨b7, 0, none⟩)) (u8 : x.tmps.getD 8 undef = .pointer (some ⟨b8, 0, none⟩)) (u9 : x.tmps.getD 9 undef = .pointer (some ⟨b9, 0, none⟩)) (u11 : x.tmps.getD 11 undef = .int .u8 (i : Nat))
    (p17 : salg8_val b3 b4 b5 b7 b8 b9 A B C i a b c 17 (x.tmps.getD 50 undef) w)
    (p34 : salg8_val b3 b4 b5 b7 b8 b9 A B C i a b c 34 (x.tmps.getD 67 undef) w)
    : wpOpIn F n Tryd.prog salg8_ops Q 35 (fun a' w' => ∃ v, a' = x.put (some 68) v ∧ (v = .bool ((neqB ((a || b || c)) (((a || b) || c))) || (neqB ((a && b && c)) (((a && b) && c))))) ∧ Below w.heap.size w w') x w := by
  have ho : salg8_ops[35]? = some salg8_o35 := rfl
  simp only [Array.getD_eq_getD_getElem?] at u3 u4 u5 u7 u8 u9 u11
  have q17 : x.tmps.getD 50 undef = .bool (neqB ((a || b || c)) (((a || b) || c))) := p17
  have q34 : x.tmps.getD 67 undef = (if (!((neqB ((a || b || c)) (((a || b) || c))))) = true then .bool (neqB ((a && b && c)) (((a && b) && c))) else undef) := p34
  simp only [Array.getD_eq_getD_getElem?] at q17 q34
  cases a <;> cases b <;> cases c
  all_goals
    simp only [Bool.or_true, Bool.true_or, Bool.or_false, Bool.false_or, Bool.and_true, Bool.true_and, Bool.and_false, Bool.false_and, Bool.not_true, Bool.not_false, beqB, neqB, if_true, if_false, Bool.false_eq_true, reduceIte] at q17 q34 ⊢
    refine wpOpIn_plain ho rfl (oper_inK hF.fn (fun K hK => ?_))
    clear ho
    rw [Oper.semAt_plain F _ _ (by intro c h; cases h)]
    simp only [salg8_o35]
    go_simp
    exact hK _ _ ⟨_, act_putD x hdef _ _, rfl, Below.refl _ _⟩
set_option maxRecDepth 100000 in
set_option maxHeartbeats 2000000 in
theorem salg8_s36 {F : Fence} (hF : Wide F) {n : Nat} (b3 b4 b5 b7 b8 b9 : Nat) (A B C : Nat → Bool) (i : Nat) (a b c : Bool) (Q : Exit → Act → World → Prop) (df : List Deferred) (w0 : World)
    (h3 : SBox w0 b3 A) (h4 : SBox w0 b4 B) (h5 : SBox w0 b5 C) (h7 : SBox w0 b7 (UN A B C)) (h8 : SBox w0 b8 (ME A B C)) (h9 : SBox w0 b9 (NO A)) (hT : Tab w0)
    (hi : i < 256) (ha : A i = a) (hb2 : B i = b) (hc : C i = c)
    (x : Act) (w : World) (hB : Below w0.heap.size w0 w) (hdef : x.defers = df) (u3 : x.tmps.getD 3 undef = .pointer (some ⟨b3, 0, none⟩)) (u4 : x.tmps.getD 4 undef = .pointer (some ⟨b4, 0, none⟩)) (u5 : x.tmps.getD 5 undef = .pointer (some ⟨b5, 0, none⟩)) (u7 : x.tmps.getD 7 undef = .pointer (some ⟨b7, 0, none⟩)) (u8 : x.tmps.getD 8 undef = .pointer (some ⟨b8, 0, none⟩)) (u9 : x.tmps.getD 9 undef = .pointer (some ⟨b9, 0, none⟩)) (u11 : x.tmps.getD 11 undef = .int .u8 (i : Nat))
    (p35 : salg8_val b3 b4 b5 b7 b8 b9 A B C i a b c 35 (x.tmps.getD 68 undef) w)
    : wpOpIn F n Tryd.prog salg8_ops Q 36 (fun a' w' => ∃ v, a' = x.put (some 69) v ∧ (v = .bool ((neqB ((a || b || c)) (((a || b) || c))) || (neqB ((a && b && c)) (((a && b) && c))))) ∧ Below w.heap.size w w') x w := by
  have ho : salg8_ops[36]? = some salg8_o36 := rfl
  simp only [Array.getD_eq_getD_getElem?] at u3 u4 u5 u7 u8 u9 u11
  have q35 : x.tmps.getD 68 undef = .bool ((neqB ((a || b || c)) (((a || b) || c))) || (neqB ((a && b && c)) (((a && b) && c)))) := p35
  simp only [Array.getD_eq_getD_getElem?] at q35
  refine wpOpIn_plain ho rfl (oper_inK hF.fn (fun K hK => ?_))
  clear ho
  rw [Oper.semAt_plain F _ _ (by intro c h; cases h)]
  simp only [salg8_o36]
  go_simp
  exact hK _ _ ⟨_, act_putD x hdef _ _, rfl, Below.refl _ _⟩
set_option maxRecDepth 100000 in
set_option maxHeartbeats 2000000 in
theorem salg8_s37 {F : Fence} (hF : Wide F) {n : Nat} (b3 b4 b5 b7 b8 b9 : Nat) (A B C : Nat → Bool) (i : Nat) (a b c : Bool) (Q : Exit → Act → World → Prop) (df : List Deferred) (w0 : World)
    (h3 : SBox w0 b3 A) (h4 : SBox w0 b4 B) (h5 : SBox w0 b5 C) (h7 : SBox w0 b7 (UN A B C)) (h8 : SBox w0 b8 (ME A B C)) (h9 : SBox w0 b9 (NO A)) (hT : Tab w0)
    (hi : i < 256) (ha : A i = a) (hb2 : B i = b) (hc : C i = c)
    (x : Act) (w : World) (hB : Below w0.heap.size w0 w) (hdef : x.defers = df) (u3 : x.tmps.getD 3 undef = .pointer (some ⟨b3, 0, none⟩)) (u4 : x.tmps.getD 4 undef = .pointer (some ⟨b4, 0, none⟩)) (u5 : x.tmps.getD 5 undef = .pointer (some ⟨b5, 0, none⟩)) (u7 : x.tmps.getD 7 undef = .pointer (some ⟨b7, 0, none⟩)) (u8 : x.tmps.getD 8 undef = .pointer (some ⟨b8, 0, none⟩)) (u9 : x.tmps.getD 9 undef = .pointer (some ⟨b9, 0, none⟩)) (u11 : x.tmps.getD 11 undef = .int .u8 (i : Nat))
    (p36 : salg8_val b3 b4 b5 b7 b8 b9 A B C i a b c 36 (x.tmps.getD 69 undef) w)
    : wpOpIn F n Tryd.prog salg8_ops Q 37 (fun a' w' => ∃ v, a' = x.put (some 70) v ∧ (v = (if (!(((neqB ((a || b || c)) (((a || b) || c))) || (neqB ((a && b && c)) (((a && b) && c)))))) = true then sv (NO A) else undef)) ∧ Below w.heap.size w w') x w := by
  have ho : salg8_ops[37]? = some salg8_o37 := rfl
  simp only [Array.getD_eq_getD_getElem?] at u3 u4 u5 u7 u8 u9 u11
  have q36 : x.tmps.getD 69 undef = .bool ((neqB ((a || b || c)) (((a || b) || c))) || (neqB ((a && b && c)) (((a && b) && c)))) := p36
  simp only [Array.getD_eq_getD_getElem?] at q36
  cases a <;> cases b <;> cases c
  all_goals
    simp only [Bool.or_true, Bool.true_or, Bool.or_false, Bool.false_or, Bool.and_true, Bool.true_and, Bool.and_false, Bool.false_and, Bool.not_true, Bool.not_false, beqB, neqB, if_true, if_false, Bool.false_eq_true, reduceIte] at q36 ⊢
    have e36 : (salg8_ops[36]?.bind fun x => x.dst) = some 69 := rfl
    have g36 := get_someT q36 (fun h => by cases h)
    have hsb := h9.below hB h9.lt
    have c0 := hsb.cell 0 (by omega)
    have c1 := hsb.cell 1 (by omega)
    have c2 := hsb.cell 2 (by omega)
    have c3 := hsb.cell 3 (by omega)
    refine wpOpIn_stepT hF ho (fun K hK => ?_)
    clear ho
    rw [Oper.semAt_plain F _ _ (by intro c h; cases h)]
    simp only [salg8_o37]
    go_simp
    exact hK _ _ ⟨_, act_putD x hdef _ _, rfl, Below.refl _ _⟩
set_option maxRecDepth 100000 in
set_option maxHeartbeats 2000000 in
theorem salg8_s38 {F : Fence} (hF : Wide F) {n : Nat} (b3 b4 b5 b7 b8 b9 : Nat) (A B C : Nat → Bool) (i : Nat) (a b c : Bool) (Q : Exit → Act → World → Prop) (df : List Deferred) (w0 : World)
    (h3 : SBox w0 b3 A) (h4 : SBox w0 b4 B) (h5 : SBox w0 b5 C) (h7 : SBox w0 b7 (UN A B C)) (h8 : SBox w0 b8 (ME A B C)) (h9 : SBox w0 b9 (NO A)) (hT : Tab w0)
    (hi : i < 256) (ha : A i = a) (hb2 : B i = b) (hc : C i = c)
    (x : Act) (w : World) (hB : Below w0.heap.size w0 w) (hdef : x.defers = df) (u3 : x.tmps.getD 3 undef = .pointer (some ⟨b3, 0, none⟩)) (u4 : x.tmps.getD 4 undef = .pointer (some ⟨b4, 0, none⟩)) (u5 : x.tmps.getD 5 undef = .pointer (some ⟨b5, 0, none⟩)) (u7 : x.tmps.getD 7 undef = .pointer (some ⟨b7, 0, none⟩)) (u8 : x.tmps.getD 8 undef = .pointer (some ⟨b8, 0, none⟩)) (u9 : x.tmps.getD 9 undef = .pointer (some ⟨b9, 0, none⟩)) (u11 : x.tmps.getD 11 undef = .int .u8 (i : Nat))
    (p36 : salg8_val b3 b4 b5 b7 b8 b9 A B C i a b c 36 (x.tmps.getD 69 undef) w)
    : wpOpIn F n Tryd.prog salg8_ops Q 38 (fun a' w' => ∃ v, a' = x.put (some 71) v ∧ (v = (if (!(((neqB ((a || b || c)) (((a || b) || c))) || (neqB ((a && b && c)) (((a && b) && c)))))) = true then .int .u8 (i : Nat) else undef)) ∧ Below w.heap.size w w') x w := by
  have ho : salg8_ops[38]? = some salg8_o38 := rfl
  simp only [Array.getD_eq_getD_getElem?] at u3 u4 u5 u7 u8 u9 u11
  have q36 : x.tmps.getD 69 undef = .bool ((neqB ((a || b || c)) (((a || b) || c))) || (neqB ((a && b && c)) (((a && b) && c)))) := p36
  simp only [Array.getD_eq_getD_getElem?] at q36
  cases a <;> cases b <;> cases c
  all_goals
    simp only [Bool.or_true, Bool.true_or, Bool.or_false, Bool.false_or, Bool.and_true, Bool.true_and, Bool.and_false, Bool.false_and, Bool.not_true, Bool.not_false, beqB, neqB, if_true, if_false, Bool.false_eq_true, reduceIte] at q36 ⊢
    have e36 : (salg8_ops[36]?.bind fun x => x.dst) = some 69 := rfl
    have g36 := get_someT q36 (fun h => by cases h)
    refine wpOpIn_stepT hF ho (fun K hK => ?_)
    clear ho
    rw [Oper.semAt_plain F _ _ (by intro c h; cases h)]
    simp only [salg8_o38]
    go_simp
    exact hK _ _ ⟨_, act_putD x hdef _ _, rfl, Below.refl _ _⟩
set_option maxRecDepth 100000 in
set_option maxHeartbeats 2000000 in
theorem salg8_s39 {F : Fence} (hF : Wide F) {n : Nat} (b3 b4 b5 b7 b8 b9 : Nat) (A B C : Nat → Bool) (i : Nat) (a b c : Bool) (Q : Exit → Act → World → Prop) (df : List Deferred) (w0 : World)
    (h3 : SBox w0 b3 A) (h4 : SBox w0 b4 B) (h5 : SBox w0 b5 C) (h7 : SBox w0 b7 (UN A B C)) (h8 : SBox w0 b8 (ME A B C)) (h9 : SBox w0 b9 (NO A)) (hT : Tab w0)
    (hi : i < 256) (ha : A i = a) (hb2 : B i = b) (hc : C i = c)
    (x : Act) (w : World) (hB : Below w0.heap.size w0 w) (hdef : x.defers = df) (u3 : x.tmps.getD 3 undef = .pointer (some ⟨b3, 0, none⟩)) (u4 : x.tmps.getD 4 undef = .pointer (some ⟨b4, 0, none⟩)) (u5 : x.tmps.getD 5 undef = .pointer (some ⟨b5, 0, none⟩)) (u7 : x.tmps.getD 7 undef = .pointer (some ⟨b7, 0, none⟩)) (u8 : x.tmps.getD 8 undef = .pointer (some ⟨b8, 0, none⟩)) (u9 : x.tmps.getD 9 undef = .pointer (some ⟨b9, 0, none⟩)) (u11 : x.tmps.getD 11 undef = .int .u8 (i : Nat))
    (p37 : salg8_val b3 b4 b5 b7 b8 b9 A B C i a b c 37 (x.tmps.getD 70 undef) w)
    (p38 : salg8_val b3 b4 b5 b7 b8 b9 A B C i a b c 38 (x.tmps.getD 71 undef) w)
    (p36 : salg8_val b3 b4 b5 b7 b8 b9 A B C i a b c 36 (x.tmps.getD 69 undef) w)
    : wpOpIn F n Tryd.prog salg8_ops Q 39 (fun a' w' => ∃ v, a' = x.put (some 72) v ∧ (v = (if (!(((neqB ((a || b || c)) (((a || b) || c))) || (neqB ((a && b && c)) (((a && b) && c)))))) = true then .bool (!a) else undef)) ∧ Below w.heap.size w w') x w := by
  have ho : salg8_ops[39]? = some salg8_o39 := rfl
  simp only [Array.getD_eq_getD_getElem?] at u3 u4 u5 u7 u8 u9 u11
  have q37 : x.tmps.getD 70 undef = (if (!(((neqB ((a || b || c)) (((a || b) || c))) || (neqB ((a && b && c)) (((a && b) && c)))))) = true then sv (NO A) else undef) := p37
  have q38 : x.tmps.getD 71 undef = (if (!(((neqB ((a || b || c)) (((a || b) || c))) || (neqB ((a && b && c)) (((a && b) && c)))))) = true then .int .u8 (i : Nat) else undef) := p38
  have q36 : x.tmps.getD 69 undef = .bool ((neqB ((a || b || c)) (((a || b) || c))) || (neqB ((a && b && c)) (((a && b) && c)))) := p36
  simp only [Array.getD_eq_getD_getElem?] at q37 q38 q36
  cases a <;> cases b <;> cases c
  all_goals
    simp only [Bool.or_true, Bool.true_or, Bool.or_false, Bool.false_or, Bool.and_true, Bool.true_and, Bool.and_false, Bool.false_and, Bool.not_true, Bool.not_false, beqB, neqB, if_true, if_false, Bool.false_eq_true, reduceIte] at q37 q38 q36 ⊢
    have e36 : (salg8_ops[36]?.bind fun x => x.dst) = some 69 := rfl
    have g36 := get_someT q36 (fun h => by cases h)
    refine wpOpIn_stepT hF ho (fun K hK => ?_)
    clear ho
    rw [Oper.semAt_plain F _ _ (by intro c h; cases h)]
    simp only [salg8_o39]
    go_simp
    first
      | exact hK _ _ ⟨_, act_putD x hdef _ _, rfl, Below.refl _ _⟩
      | refine ⟨hF.deep, (hF.call (has_any (NO A) i w hi)).mono ?_⟩
        rintro e w' ⟨rfl, hb⟩
        exact hK _ _ ⟨_, act_putD x hdef _ _, by simp [UN, ME, NO, ha, hb2, hc], hb⟩
set_option maxRecDepth 100000 in
set_option maxHeartbeats 2000000 in
theorem salg8_s40 {F : Fence} (hF : Wide F) {n : Nat} (b3 b4 b5 b7 b8 b9 : Nat) (A B C : Nat → Bool) (i : Nat) (a b c : Bool) (Q : Exit → Act → World → Prop) (df : List Deferred) (w0 : World)
    (h3 : SBox w0 b3 A) (h4 : SBox w0 b4 B) (h5 : SBox w0 b5 C) (h7 : SBox w0 b7 (UN A B C)) (h8 : SBox w0 b8 (ME A B C)) (h9 : SBox w0 b9 (NO A)) (hT : Tab w0)
    (hi : i < 256) (ha : A i = a) (hb2 : B i = b) (hc : C i = c)
    (x : Act) (w : World) (hB : Below w0.heap.size w0 w) (hdef : x.defers = df) (u3 : x.tmps.getD 3 undef = .pointer (some ⟨b3, 0, none⟩)) (u4 : x.tmps.getD 4 undef = .pointer (some ⟨b4, 0, none⟩)) (u5 : x.tmps.getD 5 undef = .pointer (some ⟨b5, 0, none⟩)) (u7 : x.tmps.getD 7 undef = .pointer (some ⟨b7, 0, none⟩)) (u8 : x.tmps.getD 8 undef = .pointer (some ⟨b8, 0, none⟩)) (u9 : x.tmps.getD 9 undef = .pointer (some ⟨b9, 0, none⟩)) (u11 : x.tmps.getD 11 undef = .int .u8 (i : Nat))
    (p36 : salg8_val b3 b4 b5 b7 b8 b9 A B C i a b c 36 (x.tmps.getD 69 undef) w)
    : wpOpIn F n Tryd.prog salg8_ops Q 40 (fun a' w' => ∃ v, a' = x.put (some 73) v ∧ (v = (if (!(((neqB ((a || b || c)) (((a || b) || c))) || (neqB ((a && b && c)) (((a && b) && c)))))) = true then sv A else undef)) ∧ Below w.heap.size w w') x w := by
  have ho : salg8_ops[40]? = some salg8_o40 := rfl
  simp only [Array.getD_eq_getD_getElem?] at u3 u4 u5 u7 u8 u9 u11
  have q36 : x.tmps.getD 69 undef = .bool ((neqB ((a || b || c)) (((a || b) || c))) || (neqB ((a && b && c)) (((a && b) && c)))) := p36
  simp only [Array.getD_eq_getD_getElem?] at q36
  cases a <;> cases b <;> cases c
  all_goals
    simp only [Bool.or_true, Bool.true_or, Bool.or_false, Bool.false_or, Bool.and_true, Bool.true_and, Bool.and_false, Bool.false_and, Bool.not_true, Bool.not_false, beqB, neqB, if_true, if_false, Bool.false_eq_true, reduceIte] at q36 ⊢
    have e36 : (salg8_ops[36]?.bind fun x => x.dst) = some 69 := rfl
    have g36 := get_someT q36 (fun h => by cases h)
    have hsb := h3.below hB h3.lt
    have c0 := hsb.cell 0 (by omega)
    have c1 := hsb.cell 1 (by omega)
    have c2 := hsb.cell 2 (by omega)
    have c3 := hsb.cell 3 (by omega)
    refine wpOpIn_stepT hF ho (fun K hK => ?_)
    clear ho
    rw [Oper.semAt_plain F _ _ (by intro c h; cases h)]
    simp only [salg8_o40]
    go_simp
    exact hK _ _ ⟨_, act_putD x hdef _ _, rfl, Below.refl _ _⟩
set_option maxRecDepth 100000 in
set_option maxHeartbeats 2000000 in
theorem salg8_s41 {F : Fence} (hF : Wide F) {n : Nat} (b3 b4 b5 b7 b8 b9 : Nat) (A B C : Nat → Bool) (i : Nat) (a b c : Bool) (Q : Exit → Act → World → Prop) (df : List Deferred) (w0 : World)
    (h3 : SBox w0 b3 A) (h4 : SBox w0 b4 B) (h5 : SBox w0 b5 C) (h7 : SBox w0 b7 (UN A B C)) (h8 : SBox w0 b8 (ME A B C)) (h9 : SBox w0 b9 (NO A)) (hT : Tab w0)
    (hi : i < 256) (ha : A i = a) (hb2 : B i = b) (hc : C i = c)
    (x : Act) (w : World) (hB : Below w0.heap.size w0 w) (hdef : x.defers = df) (u3 : x.tmps.getD 3 undef = .pointer (some ⟨b3, 0, none⟩)) (u4 : x.tmps.getD 4 undef = .pointer (some ⟨b4, 0, none⟩)) (u5 : x.tmps.getD 5 undef = .pointer (some ⟨b5, 0, none⟩)) (u7 : x.tmps.getD 7 undef = .pointer (some ⟨b7, 0, none⟩)) (u8 : x.tmps.getD 8 undef = .pointer (some ⟨b8, 0, none⟩)) (u9 : x.tmps.getD 9 undef = .pointer (some ⟨b9, 0, none⟩)) (u11 : x.tmps.getD 11 undef = .int .u8 (i : Nat))
    (p36 : salg8_val b3 b4 b5 b7 b8 b9 A B C i a b c 36 (x.tmps.getD 69 undef) w)
    : wpOpIn F n Tryd.prog salg8_ops Q 41 (fun a' w' => ∃ v, a' = x.put (some 74) v ∧ (v = (if (!(((neqB ((a || b || c)) (((a || b) || c))) || (neqB ((a && b && c)) (((a && b) && c)))))) = true then .int .u8 (i : Nat) else undef)) ∧ Below w.heap.size w w') x w := by
  have ho : salg8_ops[41]? = some salg8_o41 := rfl
  simp only [Array.getD_eq_getD_getElem?] at u3 u4 u5 u7 u8 u9 u11
  have q36 : x.tmps.getD 69 undef = .bool ((neqB ((a || b || c)) (((a || b) || c))) || (neqB ((a && b && c)) (((a && b) && c)))) := p36
  simp only [Array.getD_eq_getD_getElem?] at q36
  cases a <;> cases b <;> cases c
  all_goals
    simp only [Bool.or_true, Bool.true_or, Bool.or_false, Bool.false_or, Bool.and_true, Bool.true_and, Bool.and_false, Bool.false_and, Bool.not_true, Bool.not_false, beqB, neqB, if_true, if_false, Bool.false_eq_true, reduceIte] at q36 ⊢
    have e36 : (salg8_ops[36]?.bind fun x => x.dst) = some 69 := rfl
    have g36 := get_someT q36 (fun h => by cases h)
    refine wpOpIn_stepT hF ho (fun K hK => ?_)
    clear ho
    rw [Oper.semAt_plain F _ _ (by intro c h; cases h)]
    simp only [salg8_o41]
    go_simp
    exact hK _ _ ⟨_, act_putD x hdef _ _, rfl, Below.refl _ _⟩
set_option maxRecDepth 100000 in
set_option maxHeartbeats 2000000 in
theorem salg8_s42 {F : Fence} (hF : Wide F) {n : Nat} (b3 b4 b5 b7 b8 b9 : Nat) (A B C : Nat → Bool) (i : Nat) (a b c : Bool) (Q : Exit → Act → World → Prop) (df : List Deferred) (w0 : World)
    (h3 : SBox w0 b3 A) (h4 : SBox w0 b4 B) (h5 : SBox w0 b5 C) (h7 : SBox w0 b7 (UN A B C)) (h8 : SBox w0 b8 (ME A B C)) (h9 : SBox w0 b9 (NO A)) (hT : Tab w0)
    (hi : i < 256) (ha : A i = a) (hb2 : B i = b) (hc : C i = c)
    (x : Act) (w : World) (hB : Below w0.heap.size w0 w) (hdef : x.defers = df) (u3 : x.tmps.getD 3 undef = .pointer (some ⟨b3, 0, none⟩)) (u4 : x.tmps.getD 4 undef = .pointer (some ⟨b4, 0, none⟩)) (u5 : x.tmps.getD 5 undef = .pointer (some ⟨b5, 0, none⟩)) (u7 : x.tmps.getD 7 undef = .pointer (some ⟨b7, 0, none⟩)) (u8 : x.tmps.getD 8 undef = .pointer (some ⟨b8, 0, none⟩)) (u9 : x.tmps.getD 9 undef = .pointer (some ⟨b9, 0, none⟩)) (u11 : x.tmps.getD 11 undef = .int .u8 (i : Nat))
    (p40 : salg8_val b3 b4 b5 b7 b8 b9 A B C i a b c 40 (x.tmps.getD 73 undef) w)
    (p41 : salg8_val b3 b4 b5 b7 b8 b9 A B C i a b c 41 (x.tmps.getD 74 undef) w)
    (p36 : salg8_val b3 b4 b5 b7 b8 b9 A B C i a b c 36 (x.tmps.getD 69 undef) w)
    : wpOpIn F n Tryd.prog salg8_ops Q 42 (fun a' w' => ∃ v, a' = x.put (some 75) v ∧ (v = (if (!(((neqB ((a || b || c)) (((a || b) || c))) || (neqB ((a && b && c)) (((a && b) && c)))))) = true then .bool a else undef)) ∧ Below w.heap.size w w') x w := by
  have ho : salg8_ops[42]? = some salg8_o42 := rfl
  simp only [Array.getD_eq_getD_getElem?] at u3 u4 u5 u7 u8 u9 u11
  have q40 : x.tmps.getD 73 undef = (if (!(((neqB ((a || b || c)) (((a || b) || c))) || (neqB ((a && b && c)) (((a && b) && c)))))) = true then sv A else undef) := p40
  have q41 : x.tmps.getD 74 undef = (if (!(((neqB ((a || b || c)) (((a || b) || c))) || (neqB ((a && b && c)) (((a && b) && c)))))) = true then .int .u8 (i : Nat) else undef) := p41
  have q36 : x.tmps.getD 69 undef = .bool ((neqB ((a || b || c)) (((a || b) || c))) || (neqB ((a && b && c)) (((a && b) && c)))) := p36
  simp only [Array.getD_eq_getD_getElem?] at q40 q41 q36
  cases a <;> cases b <;> cases c
  all_goals
    simp only [Bool.or_true, Bool.true_or, Bool.or_false, Bool.false_or, Bool.and_true, Bool.true_and, Bool.and_false, Bool.false_and, Bool.not_true, Bool.not_false, beqB, neqB, if_true, if_false, Bool.false_eq_true, reduceIte] at q40 q41 q36 ⊢
    have e36 : (salg8_ops[36]?.bind fun x => x.dst) = some 69 := rfl
    have g36 := get_someT q36 (fun h => by cases h)
    refine wpOpIn_stepT hF ho (fun K hK => ?_)
    clear ho
    rw [Oper.semAt_plain F _ _ (by intro c h; cases h)]
    simp only [salg8_o42]
    go_simp
    first
      | exact hK _ _ ⟨_, act_putD x hdef _ _, rfl, Below.refl _ _⟩
      | refine ⟨hF.deep, (hF.call (has_any (A) i w hi)).mono ?_⟩
        rintro e w' ⟨rfl, hb⟩
        exact hK _ _ ⟨_, act_putD x hdef _ _, by simp [UN, ME, NO, ha, hb2, hc], hb⟩
set_option maxRecDepth 100000 in
set_option maxHeartbeats 2000000 in
theorem salg8_s43 {F : Fence} (hF : Wide F) {n : Nat} (b3 b4 b5 b7 b8 b9 : Nat) (A B C : Nat → Bool) (i : Nat) (a b c : Bool) (Q : Exit → Act → World → Prop) (df : List Deferred) (w0 : World)
    (h3 : SBox w0 b3 A) (h4 : SBox w0 b4 B) (h5 : SBox w0 b5 C) (h7 : SBox w0 b7 (UN A B C)) (h8 : SBox w0 b8 (ME A B C)) (h9 : SBox w0 b9 (NO A)) (hT : Tab w0)
    (hi : i < 256) (ha : A i = a) (hb2 : B i = b) (hc : C i = c)
    (x : Act) (w : World) (hB : Below w0.heap.size w0 w) (hdef : x.defers = df) (u3 : x.tmps.getD 3 undef = .pointer (some ⟨b3, 0, none⟩)) (u4 : x.tmps.getD 4 undef = .pointer (some ⟨b4, 0, none⟩)) (u5 : x.tmps.getD 5 undef = .pointer (some ⟨b5, 0, none⟩)) (u7 : x.tmps.getD 7 undef = .pointer (some ⟨b7, 0, none⟩)) (u8 : x.tmps.getD 8 undef = .pointer (some ⟨b8, 0, none⟩)) (u9 : x.tmps.getD 9 undef = .pointer (some ⟨b9, 0, none⟩)) (u11 : x.tmps.getD 11 undef = .int .u8 (i : Nat))
    (p39 : salg8_val b3 b4 b5 b7 b8 b9 A B C i a b c 39 (x.tmps.getD 72 undef) w)
    (p42 : salg8_val b3 b4 b5 b7 b8 b9 A B C i a b c 42 (x.tmps.getD 75 undef) w)
    (p36 : salg8_val b3 b4 b5 b7 b8 b9 A B C i a b c 36 (x.tmps.getD 69 undef) w)
    : wpOpIn F n Tryd.prog salg8_ops Q 43 (fun a' w' => ∃ v, a' = x.put (some 76) v ∧ (v = (if (!(((neqB ((a || b || c)) (((a || b) || c))) || (neqB ((a && b && c)) (((a && b) && c)))))) = true then .bool (beqB ((!a)) a) else undef)) ∧ Below w.heap.size w w') x w := by
  have ho : salg8_ops[43]? = some salg8_o43 := rfl
  simp only [Array.getD_eq_getD_getElem?] at u3 u4 u5 u7 u8 u9 u11
  have q39 : x.tmps.getD 72 undef = (if (!(((neqB ((a || b || c)) (((a || b) || c))) || (neqB ((a && b && c)) (((a && b) && c)))))) = true then .bool (!a) else undef) := p39
  have q42 : x.tmps.getD 75 undef = (if (!(((neqB ((a || b || c)) (((a || b) || c))) || (neqB ((a && b && c)) (((a && b) && c)))))) = true then .bool a else undef) := p42
  have q36 : x.tmps.getD 69 undef = .bool ((neqB ((a || b || c)) (((a || b) || c))) || (neqB ((a && b && c)) (((a && b) && c)))) := p36
  simp only [Array.getD_eq_getD_getElem?] at q39 q42 q36
  cases a <;> cases b <;> cases c
  all_goals
    simp only [Bool.or_true, Bool.true_or, Bool.or_false, Bool.false_or, Bool.and_true, Bool.true_and, Bool.and_false, Bool.false_and, Bool.not_true, Bool.not_false, beqB, neqB, if_true, if_false, Bool.false_eq_true, reduceIte] at q39 q42 q36 ⊢
    have e36 : (salg8_ops[36]?.bind fun x => x.dst) = some 69 := rfl
    have g36 := get_someT q36 (fun h => by cases h)
    refine wpOpIn_stepT hF ho (fun K hK => ?_)
    clear ho
    rw [Oper.semAt_plain F _ _ (by intro c h; cases h)]
    simp only [salg8_o43]
    go_simp
    exact hK _ _ ⟨_, act_putD x hdef _ _, rfl, Below.refl _ _⟩
set_option maxRecDepth 100000 in
set_option maxHeartbeats 2000000 in
theorem salg8_s44 {F : Fence} (hF : Wide F) {n : Nat} (b3 b4 b5 b7 b8 b9 : Nat) (A B C : Nat → Bool) (i : Nat) (a b c : Bool) (Q : Exit → Act → World → Prop) (df : List Deferred) (w0 : World)
    (h3 : SBox w0 b3 A) (h4 : SBox w0 b4 B) (h5 : SBox w0 b5 C) (h7 : SBox w0 b7 (UN A B C)) (h8 : SBox w0 b8 (ME A B C)) (h9 : SBox w0 b9 (NO A)) (hT : Tab w0)
    (hi : i < 256) (ha : A i = a) (hb2 : B i = b) (hc : C i = c)
    (x : Act) (w : World) (hB : Below w0.heap.size w0 w) (hdef : x.defers = df) (u3 : x.tmps.getD 3 undef = .pointer (some ⟨b3, 0, none⟩)) (u4 : x.tmps.getD 4 undef = .pointer (some ⟨b4, 0, none⟩)) (u5 : x.tmps.getD 5 undef = .pointer (some ⟨b5, 0, none⟩)) (u7 : x.tmps.getD 7 undef = .pointer (some ⟨b7, 0, none⟩)) (u8 : x.tmps.getD 8 undef = .pointer (some ⟨b8, 0, none⟩)) (u9 : x.tmps.getD 9 undef = .pointer (some ⟨b9, 0, none⟩)) (u11 : x.tmps.getD 11 undef = .int .u8 (i : Nat))
    (p36 : salg8_val b3 b4 b5 b7 b8 b9 A B C i a b c 36 (x.tmps.getD 69 undef) w)
    (p43 : salg8_val b3 b4 b5 b7 b8 b9 A B C i a b c 43 (x.tmps.getD 76 undef) w)
    : wpOpIn F n Tryd.prog salg8_ops Q 44 (fun a' w' => ∃ v, a' = x.put (some 77) v ∧ (v = .bool (((neqB ((a || b || c)) (((a || b) || c))) || (neqB ((a && b && c)) (((a && b) && c)))) || (beqB ((!a)) a))) ∧ Below w.heap.size w w') x w := by
  have ho : salg8_ops[44]? = some salg8_o44 := rfl
  simp only [Array.getD_eq_getD_getElem?] at u3 u4 u5 u7 u8 u9 u11
  have q36 : x.tmps.getD 69 undef = .bool ((neqB ((a || b || c)) (((a || b) || c))) || (neqB ((a && b && c)) (((a && b) && c)))) := p36
  have q43 : x.tmps.getD 76 undef = (if (!(((neqB ((a || b || c)) (((a || b) || c))) || (neqB ((a && b && c)) (((a && b) && c)))))) = true then .bool (beqB ((!a)) a) else undef) := p43
  simp only [Array.getD_eq_getD_getElem?] at q36 q43
  cases a <;> cases b <;> cases c
  all_goals
    simp only [Bool.or_true, Bool.true_or, Bool.or_false, Bool.false_or, Bool.and_true, Bool.true_and, Bool.and_false, Bool.false_and, Bool.not_true, Bool.not_false, beqB, neqB, if_true, if_false, Bool.false_eq_true, reduceIte] at q36 q43 ⊢
    refine wpOpIn_plain ho rfl (oper_inK hF.fn (fun K hK => ?_))
    clear ho
    rw [Oper.semAt_plain F _ _ (by intro c h; cases h)]
    simp only [salg8_o44]
    go_simp
    exact hK _ _ ⟨_, act_putD x hdef _ _, rfl, Below.refl _ _⟩

set_option maxRecDepth 100000 in
set_option maxHeartbeats 4000000 in
theorem salg8 {F : Fence} (hF : Wide F) {n : Nat} (b3 b4 b5 b7 b8 b9 : Nat) (A B C : Nat → Bool) (i : Nat) (a b c : Bool) (Q : Exit → Act → World → Prop) (t0 : Array Value) (df : List Deferred) (w0 : World) (ht : t0.size = 143)
    (hs3 : t0.getD 3 undef = .pointer (some ⟨b3, 0, none⟩)) (hs4 : t0.getD 4 undef = .pointer (some ⟨b4, 0, none⟩)) (hs5 : t0.getD 5 undef = .pointer (some ⟨b5, 0, none⟩)) (hs7 : t0.getD 7 undef = .pointer (some ⟨b7, 0, none⟩)) (hs8 : t0.getD 8 undef = .pointer (some ⟨b8, 0, none⟩)) (hs9 : t0.getD 9 undef = .pointer (some ⟨b9, 0, none⟩)) (hs11 : t0.getD 11 undef = .int .u8 (i : Nat))
    (h3 : SBox w0 b3 A) (h4 : SBox w0 b4 B) (h5 : SBox w0 b5 C) (h7 : SBox w0 b7 (UN A B C)) (h8 : SBox w0 b8 (ME A B C)) (h9 : SBox w0 b9 (NO A)) (hT : Tab w0)
    (hi : i < 256) (ha : A i = a) (hb2 : B i = b) (hc : C i = c)
    (hQ : ∀ (vs : Nat → Value) (w : World), Below w0.heap.size w0 w → (vs 77 = .bool (((neqB ((a || b || c)) (((a || b) || c))) || (neqB ((a && b && c)) (((a && b) && c)))) || (beqB ((!a)) a))) → Q .normal { tmps := [33, 34, 35, 36, 37, 38, 39, 40, 41, 42, 43, 44, 45, 46, 47, 48, 49, 50, 51, 52, 53, 54, 55, 56, 57, 58, 59, 60, 61, 62, 63, 64, 65, 66, 67, 68, 69, 70, 71, 72, 73, 74, 75, 76, 77].foldl (fun y d => y.setIfInBounds d (vs d)) t0, defers := df } w) :
    (Code.region 8 salg8_ops true).wpIn F n Tryd.prog Q { tmps := t0, defers := df } w0 := by
  refine wpIn_region_tail 45 (by decide) (by kernel_rfl) (fun a b => Below a.heap.size a b) (salg8_val b3 b4 b5 b7 b8 b9 A B C i a b c) t0 df w0 (by rw [ht]; kernel_rfl) (by kernel_rfl) (by kernel_rfl) (by kernel_rfl) ((Below.refl _ _).drew) (fun _ _ _ h k => h.trans (k.mono h.size)) (salg8_below b3 b4 b5 b7 b8 b9 A B C i a b c) ?_ ?_
  · intro j o ho hj x w hB hdef hsz hs hdeps
    have hs' : ∀ s, ¬ salg8_mem s → x.tmps.getD s undef = t0.getD s undef := fun s hn => hs s (fun j hj e => hn (by rw [e]; exact salg8_slots j hj))
    have u3 := (hs' 3 (by decide)).trans hs3
    have u4 := (hs' 4 (by decide)).trans hs4
    have u5 := (hs' 5 (by decide)).trans hs5
    have u7 := (hs' 7 (by decide)).trans hs7
    have u8 := (hs' 8 (by decide)).trans hs8
    have u9 := (hs' 9 (by decide)).trans hs9
    have u11 := (hs' 11 (by decide)).trans hs11
    match j, ho, hj with
    | 0, ho, _ =>
      have e : o = salg8_o0 := (Option.some.inj ho).symm
      subst e
      exact salg8_s0 hF b3 b4 b5 b7 b8 b9 A B C i a b c Q df w0 h3 h4 h5 h7 h8 h9 hT hi ha hb2 hc x w hB hdef u3 u4 u5 u7 u8 u9 u11 
    | 1, ho, _ =>
      have e : o = salg8_o1 := (Option.some.inj ho).symm
      subst e
      exact salg8_s1 hF b3 b4 b5 b7 b8 b9 A B C i a b c Q df w0 h3 h4 h5 h7 h8 h9 hT hi ha hb2 hc x w hB hdef u3 u4 u5 u7 u8 u9 u11 
    | 2, ho, _ =>
      have e : o = salg8_o2 := (Option.some.inj ho).symm
      subst e
      exact salg8_s2 hF b3 b4 b5 b7 b8 b9 A B C i a b c Q df w0 h3 h4 h5 h7 h8 h9 hT hi ha hb2 hc x w hB hdef u3 u4 u5 u7 u8 u9 u11 (hdeps { on := 0, ground := Ground.data } (by simp) rfl) (hdeps { on := 1, ground := Ground.data } (by simp) rfl)
    | 3, ho, _ =>
      have e : o = salg8_o3 := (Option.some.inj ho).symm
      subst e
      exact salg8_s3 hF b3 b4 b5 b7 b8 b9 A B C i a b c Q df w0 h3 h4 h5 h7 h8 h9 hT hi ha hb2 hc x w hB hdef u3 u4 u5 u7 u8 u9 u11 
    | 4, ho, _ =>
      have e : o = salg8_o4 := (Option.some.inj ho).symm
      subst e
      exact salg8_s4 hF b3 b4 b5 b7 b8 b9 A B C i a b c Q df w0 h3 h4 h5 h7 h8 h9 hT hi ha hb2 hc x w hB hdef u3 u4 u5 u7 u8 u9 u11 
    | 5, ho, _ =>
      have e : o = salg8_o5 := (Option.some.inj ho).symm
      subst e
      exact salg8_s5 hF b3 b4 b5 b7 b8 b9 A B C i a b c Q df w0 h3 h4 h5 h7 h8 h9 hT hi ha hb2 hc x w hB hdef u3 u4 u5 u7 u8 u9 u11 (hdeps { on := 3, ground := Ground.data } (by simp) rfl) (hdeps { on := 4, ground := Ground.data } (by simp) rfl)
    | 6, ho, _ =>
      have e : o = salg8_o6 := (Option.some.inj ho).symm
      subst e
      exact salg8_s6 hF b3 b4 b5 b7 b8 b9 A B C i a b c Q df w0 h3 h4 h5 h7 h8 h9 hT hi ha hb2 hc x w hB hdef u3 u4 u5 u7 u8 u9 u11 (hdeps { on := 5, ground := Ground.data } (by simp) rfl)
    | 7, ho, _ =>
      have e : o = salg8_o7 := (Option.some.inj ho).symm
      subst e
      exact salg8_s7 hF b3 b4 b5 b7 b8 b9 A B C i a b c Q df w0 h3 h4 h5 h7 h8 h9 hT hi ha hb2 hc x w hB hdef u3 u4 u5 u7 u8 u9 u11 (hdeps { on := 6, ground := Ground.guard } (by simp) rfl)
    | 8, ho, _ =>
      have e : o = salg8_o8 := (Option.some.inj ho).symm
      subst e
      exact salg8_s8 hF b3 b4 b5 b7 b8 b9 A B C i a b c Q df w0 h3 h4 h5 h7 h8 h9 hT hi ha hb2 hc x w hB hdef u3 u4 u5 u7 u8 u9 u11 (hdeps { on := 6, ground := Ground.guard } (by simp) rfl)
    | 9, ho, _ =>
      have e : o = salg8_o9 := (Option.some.inj ho).symm
      subst e
      exact salg8_s9 hF b3 b4 b5 b7 b8 b9 A B C i a b c Q df w0 h3 h4 h5 h7 h8 h9 hT hi ha hb2 hc x w hB hdef u3 u4 u5 u7 u8 u9 u11 (hdeps { on := 7, ground := Ground.data } (by simp) rfl) (hdeps { on := 8, ground := Ground.data } (by simp) rfl) (hdeps { on := 6, ground := Ground.guard } (by simp) rfl)
    | 10, ho, _ =>
      have e : o = salg8_o10 := (Option.some.inj ho).symm
      subst e
      exact salg8_s10 hF b3 b4 b5 b7 b8 b9 A B C i a b c Q df w0 h3 h4 h5 h7 h8 h9 hT hi ha hb2 hc x w hB hdef u3 u4 u5 u7 u8 u9 u11 (hdeps { on := 6, ground := Ground.data } (by simp) rfl) (hdeps { on := 9, ground := Ground.data } (by simp) rfl)
    | 11, ho, _ =>
      have e : o = salg8_o11 := (Option.some.inj ho).symm
      subst e
      exact salg8_s11 hF b3 b4 b5 b7 b8 b9 A B C i a b c Q df w0 h3 h4 h5 h7 h8 h9 hT hi ha hb2 hc x w hB hdef u3 u4 u5 u7 u8 u9 u11 (hdeps { on := 10, ground := Ground.data } (by simp) rfl)
    | 12, ho, _ =>
      have e : o = salg8_o12 := (Option.some.inj ho).symm
      subst e
      exact salg8_s12 hF b3 b4 b5 b7 b8 b9 A B C i a b c Q df w0 h3 h4 h5 h7 h8 h9 hT hi ha hb2 hc x w hB hdef u3 u4 u5 u7 u8 u9 u11 (hdeps { on := 11, ground := Ground.guard } (by simp) rfl)
    | 13, ho, _ =>
      have e : o = salg8_o13 := (Option.some.inj ho).symm
      subst e
      exact salg8_s13 hF b3 b4 b5 b7 b8 b9 A B C i a b c Q df w0 h3 h4 h5 h7 h8 h9 hT hi ha hb2 hc x w hB hdef u3 u4 u5 u7 u8 u9 u11 (hdeps { on := 11, ground := Ground.guard } (by simp) rfl)
    | 14, ho, _ =>
      have e : o = salg8_o14 := (Option.some.inj ho).symm
      subst e
      exact salg8_s14 hF b3 b4 b5 b7 b8 b9 A B C i a b c Q df w0 h3 h4 h5 h7 h8 h9 hT hi ha hb2 hc x w hB hdef u3 u4 u5 u7 u8 u9 u11 (hdeps { on := 12, ground := Ground.data } (by simp) rfl) (hdeps { on := 13, ground := Ground.data } (by simp) rfl) (hdeps { on := 11, ground := Ground.guard } (by simp) rfl)
    | 15, ho, _ =>
      have e : o = salg8_o15 := (Option.some.inj ho).symm
      subst e
      exact salg8_s15 hF b3 b4 b5 b7 b8 b9 A B C i a b c Q df w0 h3 h4 h5 h7 h8 h9 hT hi ha hb2 hc x w hB hdef u3 u4 u5 u7 u8 u9 u11 (hdeps { on := 11, ground := Ground.data } (by simp) rfl) (hdeps { on := 14, ground := Ground.data } (by simp) rfl)
    | 16, ho, _ =>
      have e : o = salg8_o16 := (Option.some.inj ho).symm
      subst e
      exact salg8_s16 hF b3 b4 b5 b7 b8 b9 A B C i a b c Q df w0 h3 h4 h5 h7 h8 h9 hT hi ha hb2 hc x w hB hdef u3 u4 u5 u7 u8 u9 u11 (hdeps { on := 2, ground := Ground.data } (by simp) rfl) (hdeps { on := 15, ground := Ground.data } (by simp) rfl)
    | 17, ho, _ =>
      have e : o = salg8_o17 := (Option.some.inj ho).symm
      subst e
      exact salg8_s17 hF b3 b4 b5 b7 b8 b9 A B C i a b c Q df w0 h3 h4 h5 h7 h8 h9 hT hi ha hb2 hc x w hB hdef u3 u4 u5 u7 u8 u9 u11 (hdeps { on := 16, ground := Ground.data } (by simp) rfl)
    | 18, ho, _ =>
      have e : o = salg8_o18 := (Option.some.inj ho).symm
      subst e
      exact salg8_s18 hF b3 b4 b5 b7 b8 b9 A B C i a b c Q df w0 h3 h4 h5 h7 h8 h9 hT hi ha hb2 hc x w hB hdef u3 u4 u5 u7 u8 u9 u11 (hdeps { on := 17, ground := Ground.guard } (by simp) rfl)
    | 19, ho, _ =>
      have e : o = salg8_o19 := (Option.some.inj ho).symm
      subst e
      exact salg8_s19 hF b3 b4 b5 b7 b8 b9 A B C i a b c Q df w0 h3 h4 h5 h7 h8 h9 hT hi ha hb2 hc x w hB hdef u3 u4 u5 u7 u8 u9 u11 (hdeps { on := 17, ground := Ground.guard } (by simp) rfl)
    | 20, ho, _ =>
      have e : o = salg8_o20 := (Option.some.inj ho).symm
      subst e
      exact salg8_s20 hF b3 b4 b5 b7 b8 b9 A B C i a b c Q df w0 h3 h4 h5 h7 h8 h9 hT hi ha hb2 hc x w hB hdef u3 u4 u5 u7 u8 u9 u11 (hdeps { on := 18, ground := Ground.data } (by simp) rfl) (hdeps { on := 19, ground := Ground.data } (by simp) rfl) (hdeps { on := 17, ground := Ground.guard } (by simp) rfl)
    | 21, ho, _ =>
      have e : o = salg8_o21 := (Option.some.inj ho).symm
      subst e
      exact salg8_s21 hF b3 b4 b5 b7 b8 b9 A B C i a b c Q df w0 h3 h4 h5 h7 h8 h9 hT hi ha hb2 hc x w hB hdef u3 u4 u5 u7 u8 u9 u11 (hdeps { on := 17, ground := Ground.guard } (by simp) rfl)
    | 22, ho, _ =>
      have e : o = salg8_o22 := (Option.some.inj ho).symm
      subst e
      exact salg8_s22 hF b3 b4 b5 b7 b8 b9 A B C i a b c Q df w0 h3 h4 h5 h7 h8 h9 hT hi ha hb2 hc x w hB hdef u3 u4 u5 u7 u8 u9 u11 (hdeps { on := 17, ground := Ground.guard } (by simp) rfl)
    | 23, ho, _ =>
      have e : o = salg8_o23 := (Option.some.inj ho).symm
      subst e
      exact salg8_s23 hF b3 b4 b5 b7 b8 b9 A B C i a b c Q df w0 h3 h4 h5 h7 h8 h9 hT hi ha hb2 hc x w hB hdef u3 u4 u5 u7 u8 u9 u11 (hdeps { on := 21, ground := Ground.data } (by simp) rfl) (hdeps { on := 22, ground := Ground.data } (by simp) rfl) (hdeps { on := 17, ground := Ground.guard } (by simp) rfl)
    | 24, ho, _ =>
      have e : o = salg8_o24 := (Option.some.inj ho).symm
      subst e
      exact salg8_s24 hF b3 b4 b5 b7 b8 b9 A B C i a b c Q df w0 h3 h4 h5 h7 h8 h9 hT hi ha hb2 hc x w hB hdef u3 u4 u5 u7 u8 u9 u11 (hdeps { on := 23, ground := Ground.data } (by simp) rfl) (hdeps { on := 17, ground := Ground.guard } (by simp) rfl)
    | 25, ho, _ =>
      have e : o = salg8_o25 := (Option.some.inj ho).symm
      subst e
      exact salg8_s25 hF b3 b4 b5 b7 b8 b9 A B C i a b c Q df w0 h3 h4 h5 h7 h8 h9 hT hi ha hb2 hc x w hB hdef u3 u4 u5 u7 u8 u9 u11 (hdeps { on := 24, ground := Ground.guard } (by simp) rfl)
    | 26, ho, _ =>
      have e : o = salg8_o26 := (Option.some.inj ho).symm
      subst e
      exact salg8_s26 hF b3 b4 b5 b7 b8 b9 A B C i a b c Q df w0 h3 h4 h5 h7 h8 h9 hT hi ha hb2 hc x w hB hdef u3 u4 u5 u7 u8 u9 u11 (hdeps { on := 24, ground := Ground.guard } (by simp) rfl)
    | 27, ho, _ =>
      have e : o = salg8_o27 := (Option.some.inj ho).symm
      subst e
      exact salg8_s27 hF b3 b4 b5 b7 b8 b9 A B C i a b c Q df w0 h3 h4 h5 h7 h8 h9 hT hi ha hb2 hc x w hB hdef u3 u4 u5 u7 u8 u9 u11 (hdeps { on := 25, ground := Ground.data } (by simp) rfl) (hdeps { on := 26, ground := Ground.data } (by simp) rfl) (hdeps { on := 24, ground := Ground.guard } (by simp) rfl)
    | 28, ho, _ =>
      have e : o = salg8_o28 := (Option.some.inj ho).symm
      subst e
      exact salg8_s28 hF b3 b4 b5 b7 b8 b9 A B C i a b c Q df w0 h3 h4 h5 h7 h8 h9 hT hi ha hb2 hc x w hB hdef u3 u4 u5 u7 u8 u9 u11 (hdeps { on := 24, ground := Ground.data } (by simp) rfl) (hdeps { on := 27, ground := Ground.data } (by simp) rfl) (hdeps { on := 17, ground := Ground.guard } (by simp) rfl)
    | 29, ho, _ =>
      have e : o = salg8_o29 := (Option.some.inj ho).symm
      subst e
      exact salg8_s29 hF b3 b4 b5 b7 b8 b9 A B C i a b c Q df w0 h3 h4 h5 h7 h8 h9 hT hi ha hb2 hc x w hB hdef u3 u4 u5 u7 u8 u9 u11 (hdeps { on := 28, ground := Ground.data } (by simp) rfl) (hdeps { on := 17, ground := Ground.guard } (by simp) rfl)
    | 30, ho, _ =>
      have e : o = salg8_o30 := (Option.some.inj ho).symm
      subst e
      exact salg8_s30 hF b3 b4 b5 b7 b8 b9 A B C i a b c Q df w0 h3 h4 h5 h7 h8 h9 hT hi ha hb2 hc x w hB hdef u3 u4 u5 u7 u8 u9 u11 (hdeps { on := 29, ground := Ground.guard } (by simp) rfl)
    | 31, ho, _ =>
      have e : o = salg8_o31 := (Option.some.inj ho).symm
      subst e
      exact salg8_s31 hF b3 b4 b5 b7 b8 b9 A B C i a b c Q df w0 h3 h4 h5 h7 h8 h9 hT hi ha hb2 hc x w hB hdef u3 u4 u5 u7 u8 u9 u11 (hdeps { on := 29, ground := Ground.guard } (by simp) rfl)
    | 32, ho, _ =>
      have e : o = salg8_o32 := (Option.some.inj ho).symm
      subst e
      exact salg8_s32 hF b3 b4 b5 b7 b8 b9 A B C i a b c Q df w0 h3 h4 h5 h7 h8 h9 hT hi ha hb2 hc x w hB hdef u3 u4 u5 u7 u8 u9 u11 (hdeps { on := 30, ground := Ground.data } (by simp) rfl) (hdeps { on := 31, ground := Ground.data } (by simp) rfl) (hdeps { on := 29, ground := Ground.guard } (by simp) rfl)
    | 33, ho, _ =>
      have e : o = salg8_o33 := (Option.some.inj ho).symm
      subst e
      exact salg8_s33 hF b3 b4 b5 b7 b8 b9 A B C i a b c Q df w0 h3 h4 h5 h7 h8 h9 hT hi ha hb2 hc x w hB hdef u3 u4 u5 u7 u8 u9 u11 (hdeps { on := 29, ground := Ground.data } (by simp) rfl) (hdeps { on := 32, ground := Ground.data } (by simp) rfl) (hdeps { on := 17, ground := Ground.guard } (by simp) rfl)
    | 34, ho, _ =>
      have e : o = salg8_o34 := (Option.some.inj ho).symm
      subst e
      exact salg8_s34 hF b3 b4 b5 b7 b8 b9 A B C i a b c Q df w0 h3 h4 h5 h7 h8 h9 hT hi ha hb2 hc x w hB hdef u3 u4 u5 u7 u8 u9 u11 (hdeps { on := 20, ground := Ground.data } (by simp) rfl) (hdeps { on := 33, ground := Ground.data } (by simp) rfl) (hdeps { on := 17, ground := Ground.guard } (by simp) rfl)
    | 35, ho, _ =>
      have e : o = salg8_o35 := (Option.some.inj ho).symm
      subst e
      exact salg8_s35 hF b3 b4 b5 b7 b8 b9 A B C i a b c Q df w0 h3 h4 h5 h7 h8 h9 hT hi ha hb2 hc x w hB hdef u3 u4 u5 u7 u8 u9 u11 (hdeps { on := 17, ground := Ground.data } (by simp) rfl) (hdeps { on := 34, ground := Ground.data } (by simp) rfl)
    | 36, ho, _ =>
      have e : o = salg8_o36 := (Option.some.inj ho).symm
      subst e
      exact salg8_s36 hF b3 b4 b5 b7 b8 b9 A B C i a b c Q df w0 h3 h4 h5 h7 h8 h9 hT hi ha hb2 hc x w hB hdef u3 u4 u5 u7 u8 u9 u11 (hdeps { on := 35, ground := Ground.data } (by simp) rfl)
    | 37, ho, _ =>
      have e : o = salg8_o37 := (Option.some.inj ho).symm
      subst e
      exact salg8_s37 hF b3 b4 b5 b7 b8 b9 A B C i a b c Q df w0 h3 h4 h5 h7 h8 h9 hT hi ha hb2 hc x w hB hdef u3 u4 u5 u7 u8 u9 u11 (hdeps { on := 36, ground := Ground.guard } (by simp) rfl)
    | 38, ho, _ =>
      have e : o = salg8_o38 := (Option.some.inj ho).symm
      subst e
      exact salg8_s38 hF b3 b4 b5 b7 b8 b9 A B C i a b c Q df w0 h3 h4 h5 h7 h8 h9 hT hi ha hb2 hc x w hB hdef u3 u4 u5 u7 u8 u9 u11 (hdeps { on := 36, ground := Ground.guard } (by simp) rfl)
    | 39, ho, _ =>
      have e : o = salg8_o39 := (Option.some.inj ho).symm
      subst e
      exact salg8_s39 hF b3 b4 b5 b7 b8 b9 A B C i a b c Q df w0 h3 h4 h5 h7 h8 h9 hT hi ha hb2 hc x w hB hdef u3 u4 u5 u7 u8 u9 u11 (hdeps { on := 37, ground := Ground.data } (by simp) rfl) (hdeps { on := 38, ground := Ground.data } (by simp) rfl) (hdeps { on := 36, ground := Ground.guard } (by simp) rfl)
    | 40, ho, _ =>
      have e : o = salg8_o40 := (Option.some.inj ho).symm
      subst e
      exact salg8_s40 hF b3 b4 b5 b7 b8 b9 A B C i a b c Q df w0 h3 h4 h5 h7 h8 h9 hT hi ha hb2 hc x w hB hdef u3 u4 u5 u7 u8 u9 u11 (hdeps { on := 36, ground := Ground.guard } (by simp) rfl)
    | 41, ho, _ =>
      have e : o = salg8_o41 := (Option.some.inj ho).symm
      subst e
      exact salg8_s41 hF b3 b4 b5 b7 b8 b9 A B C i a b c Q df w0 h3 h4 h5 h7 h8 h9 hT hi ha hb2 hc x w hB hdef u3 u4 u5 u7 u8 u9 u11 (hdeps { on := 36, ground := Ground.guard } (by simp) rfl)
    | 42, ho, _ =>
      have e : o = salg8_o42 := (Option.some.inj ho).symm
      subst e
      exact salg8_s42 hF b3 b4 b5 b7 b8 b9 A B C i a b c Q df w0 h3 h4 h5 h7 h8 h9 hT hi ha hb2 hc x w hB hdef u3 u4 u5 u7 u8 u9 u11 (hdeps { on := 40, ground := Ground.data } (by simp) rfl) (hdeps { on := 41, ground := Ground.data } (by simp) rfl) (hdeps { on := 36, ground := Ground.guard } (by simp) rfl)
    | 43, ho, _ =>
      have e : o = salg8_o43 := (Option.some.inj ho).symm
      subst e
      exact salg8_s43 hF b3 b4 b5 b7 b8 b9 A B C i a b c Q df w0 h3 h4 h5 h7 h8 h9 hT hi ha hb2 hc x w hB hdef u3 u4 u5 u7 u8 u9 u11 (hdeps { on := 39, ground := Ground.data } (by simp) rfl) (hdeps { on := 42, ground := Ground.data } (by simp) rfl) (hdeps { on := 36, ground := Ground.guard } (by simp) rfl)
    | 44, ho, _ =>
      have e : o = salg8_o44 := (Option.some.inj ho).symm
      subst e
      exact salg8_s44 hF b3 b4 b5 b7 b8 b9 A B C i a b c Q df w0 h3 h4 h5 h7 h8 h9 hT hi ha hb2 hc x w hB hdef u3 u4 u5 u7 u8 u9 u11 (hdeps { on := 36, ground := Ground.data } (by simp) rfl) (hdeps { on := 43, ground := Ground.data } (by simp) rfl)
    | k + 45, _, hj => omega
  · intro x w hB hdef hsz hs hv
    have hx := frame_sets x.tmps t0 hsz [33, 34, 35, 36, 37, 38, 39, 40, 41, 42, 43, 44, 45, 46, 47, 48, 49, 50, 51, 52, 53, 54, 55, 56, 57, 58, 59, 60, 61, 62, 63, 64, 65, 66, 67, 68, 69, 70, 71, 72, 73, 74, 75, 76, 77] (fun s hn => hs s (fun j hj e => hn (by rw [e]; exact salg8_slots j hj)))
    have hq := hQ (fun d => x.tmps.getD d undef) w hB (hv 44 (by decide))
    obtain ⟨T, Df⟩ := x
    dsimp only at hx hdef hq
    subst hdef
    rw [← hx] at hq
    exact hq
end Go.Proofs.YtmnjicpgdhnimaaDoor
