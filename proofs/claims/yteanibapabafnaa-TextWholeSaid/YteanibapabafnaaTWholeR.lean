/-
  TextWhole's regions that draw their order (written by tools/gen-twhole.py).
-/
import Derived.Test.YteanibapabafnaaRelM
namespace Go.Proofs.Yteanibapabafnaa
open Go.RowKit
set_option linter.unusedVariables false
set_option linter.unusedSimpArgs false

abbrev tw10_mem (s : Nat) : Prop := s ∈ [22, 23, 24, 25, 26, 27, 28, 29, 30, 31, 32, 33, 34, 35, 36, 37, 38, 39, 40, 41, 42, 43, 44, 45, 46, 47, 48, 49, 50, 51, 52, 53, 54, 55, 56, 57]
theorem tw10_list (s : Nat) (h : tw10_mem s) : s ∈ [22, 23, 24, 25, 26, 27, 28, 29, 30, 31, 32, 33, 34, 35, 36, 37, 38, 39, 40, 41, 42, 43, 44, 45, 46, 47, 48, 49, 50, 51, 52, 53, 54, 55, 56, 57] := h
def tw10_ops : Array Oper :=
  #[{ dst := some 22, op := Op.move (Operand.tmp 7), type := 3, pos := "outright.go:22", after := #[], guard := none },
    { dst := some 23, op := Op.binOp BinOp.eql 3 (Operand.tmp 22) (Operand.const (Value.int IntKind.i64 0)) 3, type := 4, pos := "outright.go:22", after := #[{ on := 0, ground := Ground.data }], guard := none },
    { dst := some 24, op := Op.move (Operand.tmp 23), type := 4, pos := "outright.go:22", after := #[{ on := 1, ground := Ground.data }], guard := none },
    { dst := some 25, op := Op.move (Operand.tmp 5), type := 23, pos := "outright.go:22", after := #[{ on := 2, ground := Ground.guard }], guard := some (2, true) },
    { dst := some 26, op := Op.move (Operand.tmp 7), type := 3, pos := "outright.go:22", after := #[{ on := 2, ground := Ground.guard }], guard := some (2, true) },
    { dst := some 27, op := Op.indexAddr 23 (Operand.tmp 25) (Operand.tmp 26), type := 0, pos := "outright.go:22", after := #[{ on := 3, ground := Ground.data }, { on := 4, ground := Ground.data }, { on := 2, ground := Ground.guard }], guard := some (2, true) },
    { dst := some 28, op := Op.load 3 (Operand.tmp 27), type := 3, pos := "outright.go:22", after := #[{ on := 5, ground := Ground.data }, { on := 2, ground := Ground.guard }], guard := some (2, true) },
    { dst := some 29, op := Op.binOp BinOp.neq 3 (Operand.tmp 28) (Operand.const (Value.int IntKind.i64 0)) 3, type := 4, pos := "outright.go:22", after := #[{ on := 6, ground := Ground.data }, { on := 2, ground := Ground.guard }], guard := some (2, true) },
    { dst := some 30, op := Op.pick (Operand.tmp 24) (Operand.tmp 29) (Operand.const (Value.bool false)), type := 4, pos := "outright.go:22", after := #[{ on := 2, ground := Ground.data }, { on := 7, ground := Ground.data }], guard := none },
    { dst := some 31, op := Op.move (Operand.tmp 30), type := 4, pos := "outright.go:22", after := #[{ on := 8, ground := Ground.data }, { on := 2, ground := Ground.chain }], guard := none },
    { dst := some 32, op := Op.move (Operand.tmp 7), type := 3, pos := "outright.go:22", after := #[{ on := 9, ground := Ground.guard }], guard := some (9, false) },
    { dst := some 33, op := Op.binOp BinOp.gtr 3 (Operand.tmp 32) (Operand.const (Value.int IntKind.i64 0)) 3, type := 4, pos := "outright.go:22", after := #[{ on := 10, ground := Ground.data }, { on := 9, ground := Ground.guard }], guard := some (9, false) },
    { dst := some 34, op := Op.move (Operand.tmp 33), type := 4, pos := "outright.go:22", after := #[{ on := 11, ground := Ground.data }, { on := 9, ground := Ground.chain }, { on := 9, ground := Ground.guard }], guard := some (9, false) },
    { dst := some 35, op := Op.move (Operand.tmp 5), type := 23, pos := "outright.go:22", after := #[{ on := 12, ground := Ground.guard }], guard := some (12, true) },
    { dst := some 36, op := Op.move (Operand.tmp 7), type := 3, pos := "outright.go:22", after := #[{ on := 12, ground := Ground.guard }], guard := some (12, true) },
    { dst := some 37, op := Op.indexAddr 23 (Operand.tmp 35) (Operand.tmp 36), type := 0, pos := "outright.go:22", after := #[{ on := 13, ground := Ground.data }, { on := 14, ground := Ground.data }, { on := 12, ground := Ground.guard }], guard := some (12, true) },
    { dst := some 38, op := Op.load 3 (Operand.tmp 37), type := 3, pos := "outright.go:22", after := #[{ on := 15, ground := Ground.data }, { on := 12, ground := Ground.guard }], guard := some (12, true) },
    { dst := some 39, op := Op.move (Operand.tmp 5), type := 23, pos := "outright.go:22", after := #[{ on := 12, ground := Ground.guard }], guard := some (12, true) },
    { dst := some 40, op := Op.move (Operand.tmp 7), type := 3, pos := "outright.go:22", after := #[{ on := 12, ground := Ground.guard }], guard := some (12, true) },
    { dst := some 41, op := Op.binOp BinOp.sub 3 (Operand.tmp 40) (Operand.const (Value.int IntKind.i64 1)) 3, type := 3, pos := "outright.go:22", after := #[{ on := 18, ground := Ground.data }, { on := 12, ground := Ground.guard }], guard := some (12, true) },
    { dst := some 42, op := Op.indexAddr 23 (Operand.tmp 39) (Operand.tmp 41), type := 0, pos := "outright.go:22", after := #[{ on := 17, ground := Ground.data }, { on := 19, ground := Ground.data }, { on := 12, ground := Ground.guard }], guard := some (12, true) },
    { dst := some 43, op := Op.load 3 (Operand.tmp 42), type := 3, pos := "outright.go:22", after := #[{ on := 20, ground := Ground.data }, { on := 12, ground := Ground.guard }], guard := some (12, true) },
    { dst := some 44, op := Op.binOp BinOp.leq 3 (Operand.tmp 38) (Operand.tmp 43) 3, type := 4, pos := "outright.go:22", after := #[{ on := 16, ground := Ground.data }, { on := 21, ground := Ground.data }, { on := 12, ground := Ground.guard }], guard := some (12, true) },
    { dst := some 45, op := Op.move (Operand.tmp 44), type := 4, pos := "outright.go:22", after := #[{ on := 22, ground := Ground.data }, { on := 12, ground := Ground.chain }, { on := 12, ground := Ground.guard }], guard := some (12, true) },
    { dst := some 46, op := Op.move (Operand.tmp 0), type := 22, pos := "outright.go:22", after := #[{ on := 23, ground := Ground.guard }], guard := some (23, false) },
    { dst := some 47, op := Op.move (Operand.tmp 5), type := 23, pos := "outright.go:22", after := #[{ on := 23, ground := Ground.guard }], guard := some (23, false) },
    { dst := some 48, op := Op.move (Operand.tmp 7), type := 3, pos := "outright.go:22", after := #[{ on := 23, ground := Ground.guard }], guard := some (23, false) },
    { dst := some 49, op := Op.indexAddr 23 (Operand.tmp 47) (Operand.tmp 48), type := 0, pos := "outright.go:22", after := #[{ on := 25, ground := Ground.data }, { on := 26, ground := Ground.data }, { on := 23, ground := Ground.guard }], guard := some (23, false) },
    { dst := some 50, op := Op.load 3 (Operand.tmp 49), type := 3, pos := "outright.go:22", after := #[{ on := 27, ground := Ground.data }, { on := 23, ground := Ground.guard }], guard := some (23, false) },
    { dst := some 51, op := Op.binOp BinOp.sub 3 (Operand.tmp 50) (Operand.const (Value.int IntKind.i64 1)) 3, type := 3, pos := "outright.go:22", after := #[{ on := 28, ground := Ground.data }, { on := 23, ground := Ground.guard }], guard := some (23, false) },
    { dst := some 52, op := Op.indexAddr 22 (Operand.tmp 46) (Operand.tmp 51), type := 0, pos := "outright.go:22", after := #[{ on := 24, ground := Ground.data }, { on := 29, ground := Ground.data }, { on := 23, ground := Ground.guard }], guard := some (23, false) },
    { dst := some 53, op := Op.load 5 (Operand.tmp 52), type := 5, pos := "outright.go:22", after := #[{ on := 30, ground := Ground.data }, { on := 23, ground := Ground.guard }], guard := some (23, false) },
    { dst := some 54, op := Op.binOp BinOp.neq 5 (Operand.tmp 53) (Operand.const (Value.int IntKind.u8 10)) 5, type := 4, pos := "outright.go:22", after := #[{ on := 31, ground := Ground.data }, { on := 23, ground := Ground.guard }], guard := some (23, false) },
    { dst := some 55, op := Op.pick (Operand.tmp 45) (Operand.const (Value.bool true)) (Operand.tmp 54), type := 4, pos := "outright.go:22", after := #[{ on := 23, ground := Ground.data }, { on := 32, ground := Ground.data }, { on := 12, ground := Ground.guard }], guard := some (12, true) },
    { dst := some 56, op := Op.pick (Operand.tmp 34) (Operand.tmp 55) (Operand.const (Value.bool false)), type := 4, pos := "outright.go:22", after := #[{ on := 12, ground := Ground.data }, { on := 33, ground := Ground.data }, { on := 9, ground := Ground.guard }], guard := some (9, false) },
    { dst := some 57, op := Op.pick (Operand.tmp 31) (Operand.const (Value.bool true)) (Operand.tmp 56), type := 4, pos := "outright.go:22", after := #[{ on := 9, ground := Ground.data }, { on := 34, ground := Ground.data }], guard := none }]
def tw10_slot : Nat → Nat
  | 0 => 22
  | 1 => 23
  | 2 => 24
  | 3 => 25
  | 4 => 26
  | 5 => 27
  | 6 => 28
  | 7 => 29
  | 8 => 30
  | 9 => 31
  | 10 => 32
  | 11 => 33
  | 12 => 34
  | 13 => 35
  | 14 => 36
  | 15 => 37
  | 16 => 38
  | 17 => 39
  | 18 => 40
  | 19 => 41
  | 20 => 42
  | 21 => 43
  | 22 => 44
  | 23 => 45
  | 24 => 46
  | 25 => 47
  | 26 => 48
  | 27 => 49
  | 28 => 50
  | 29 => 51
  | 30 => 52
  | 31 => 53
  | 32 => 54
  | 33 => 55
  | 34 => 56
  | 35 => 57
  | j + 36 => 1129 + j
set_option maxRecDepth 100000 in
theorem tw10_inj (i j : Nat) (hi : i < 36) (hj : j < 36) (h : tw10_slot i = tw10_slot j) : i = j := by
  have key : ∀ i j : Fin 36, tw10_slot i.val = tw10_slot j.val → i = j := by decide
  exact Fin.mk.inj (key ⟨i, hi⟩ ⟨j, hj⟩ h)
def tw10Z_val (bl ol n Cl i u : Nat) : Nat → Value → World → Prop
  | 0, v, w => v = .int .i64 (i : Nat)
  | 1, v, w => v = .bool true
  | 2, v, w => v = .bool true
  | 3, v, w => v = .slice (some ⟨bl, ol, none⟩) n Cl
  | 4, v, w => v = .int .i64 (i : Nat)
  | 5, v, w => v = .pointer (some ⟨bl, ol + i, none⟩)
  | 6, v, w => v = .int .i64 (u : Nat)
  | 7, v, w => v = .bool false
  | 8, v, w => v = .bool false
  | 9, v, w => v = .bool false
  | 10, v, w => v = .int .i64 (i : Nat)
  | 11, v, w => v = .bool false
  | 12, v, w => v = .bool false
  | 13, v, w => v = undef
  | 14, v, w => v = undef
  | 15, v, w => v = undef
  | 16, v, w => v = undef
  | 17, v, w => v = undef
  | 18, v, w => v = undef
  | 19, v, w => v = undef
  | 20, v, w => v = undef
  | 21, v, w => v = undef
  | 22, v, w => v = undef
  | 23, v, w => v = undef
  | 24, v, w => v = undef
  | 25, v, w => v = undef
  | 26, v, w => v = undef
  | 27, v, w => v = undef
  | 28, v, w => v = undef
  | 29, v, w => v = undef
  | 30, v, w => v = undef
  | 31, v, w => v = undef
  | 32, v, w => v = undef
  | 33, v, w => v = undef
  | 34, v, w => v = .bool false
  | 35, v, w => v = .bool false
  | _, _, _ => True
theorem tw10Z_below (bl ol n Cl i u : Nat) (w w' : World) (hb : Below w.heap.size w w') : ∀ j v, tw10Z_val bl ol n Cl i u j v w → tw10Z_val bl ol n Cl i u j v w' := by
  intro j v h
  match j, h with
  | 0, h => exact h
  | 1, h => exact h
  | 2, h => exact h
  | 3, h => exact h
  | 4, h => exact h
  | 5, h => exact h
  | 6, h => exact h
  | 7, h => exact h
  | 8, h => exact h
  | 9, h => exact h
  | 10, h => exact h
  | 11, h => exact h
  | 12, h => exact h
  | 13, h => exact h
  | 14, h => exact h
  | 15, h => exact h
  | 16, h => exact h
  | 17, h => exact h
  | 18, h => exact h
  | 19, h => exact h
  | 20, h => exact h
  | 21, h => exact h
  | 22, h => exact h
  | 23, h => exact h
  | 24, h => exact h
  | 25, h => exact h
  | 26, h => exact h
  | 27, h => exact h
  | 28, h => exact h
  | 29, h => exact h
  | 30, h => exact h
  | 31, h => exact h
  | 32, h => exact h
  | 33, h => exact h
  | 34, h => exact h
  | 35, h => exact h
  | _ + 36, h => exact h

set_option maxRecDepth 100000 in
set_option maxHeartbeats 10000000 in
theorem tw10Z (bl ol n Cl i u : Nat) (Q : Exit → Act → World → Prop) (t0 : Array Value) (w0 : World) (ht : t0.size = 129)
    (hs5 : t0.getD 5 undef = .slice (some ⟨bl, ol, none⟩) n Cl) (hs7 : t0.getD 7 undef = .int .i64 (i : Nat))
    (hh : Hid (i = 0 ∧ u = 0 ∧ 0 < n))
    (ci : ∀ W, Below w0.heap.size w0 W → W.cell? ⟨bl, ol + i, none⟩ = some (.int .i64 (u : Nat)))
    (hQ : ∀ (vs : Nat → Value) (w : World), Below w0.heap.size w0 w → (vs 57 = .bool false) → Q .normal { tmps := [22, 23, 24, 25, 26, 27, 28, 29, 30, 31, 32, 33, 34, 35, 36, 37, 38, 39, 40, 41, 42, 43, 44, 45, 46, 47, 48, 49, 50, 51, 52, 53, 54, 55, 56, 57].foldl (fun y d => y.setIfInBounds d (vs d)) t0, defers := [] } w) :
    (Code.region 10 tw10_ops true).wp Try.prog Q { tmps := t0, defers := [] } w0 := by
  have hsl : ∀ j, j < 36 → tw10_mem (tw10_slot j) := by
    intro j hj
    match j, hj with
    | 0, _ => exact (by decide : tw10_mem 22)
    | 1, _ => exact (by decide : tw10_mem 23)
    | 2, _ => exact (by decide : tw10_mem 24)
    | 3, _ => exact (by decide : tw10_mem 25)
    | 4, _ => exact (by decide : tw10_mem 26)
    | 5, _ => exact (by decide : tw10_mem 27)
    | 6, _ => exact (by decide : tw10_mem 28)
    | 7, _ => exact (by decide : tw10_mem 29)
    | 8, _ => exact (by decide : tw10_mem 30)
    | 9, _ => exact (by decide : tw10_mem 31)
    | 10, _ => exact (by decide : tw10_mem 32)
    | 11, _ => exact (by decide : tw10_mem 33)
    | 12, _ => exact (by decide : tw10_mem 34)
    | 13, _ => exact (by decide : tw10_mem 35)
    | 14, _ => exact (by decide : tw10_mem 36)
    | 15, _ => exact (by decide : tw10_mem 37)
    | 16, _ => exact (by decide : tw10_mem 38)
    | 17, _ => exact (by decide : tw10_mem 39)
    | 18, _ => exact (by decide : tw10_mem 40)
    | 19, _ => exact (by decide : tw10_mem 41)
    | 20, _ => exact (by decide : tw10_mem 42)
    | 21, _ => exact (by decide : tw10_mem 43)
    | 22, _ => exact (by decide : tw10_mem 44)
    | 23, _ => exact (by decide : tw10_mem 45)
    | 24, _ => exact (by decide : tw10_mem 46)
    | 25, _ => exact (by decide : tw10_mem 47)
    | 26, _ => exact (by decide : tw10_mem 48)
    | 27, _ => exact (by decide : tw10_mem 49)
    | 28, _ => exact (by decide : tw10_mem 50)
    | 29, _ => exact (by decide : tw10_mem 51)
    | 30, _ => exact (by decide : tw10_mem 52)
    | 31, _ => exact (by decide : tw10_mem 53)
    | 32, _ => exact (by decide : tw10_mem 54)
    | 33, _ => exact (by decide : tw10_mem 55)
    | 34, _ => exact (by decide : tw10_mem 56)
    | 35, _ => exact (by decide : tw10_mem 57)
    | k + 36, hj => omega
  refine wp_region_inv (by kernel_rfl) tw10_slot (tw10Z_val bl ol n Cl i u) t0 w0 ?_ ?_ ?_ (tw10Z_below bl ol n Cl i u) ?_ ?_
  · intro j o ho
    have hj : j < 36 := (Array.getElem?_eq_some_iff.1 ho).1
    rw [ht]
    match j, ho with
    | 0, ho => cases ho; exact ⟨rfl, by decide⟩
    | 1, ho => cases ho; exact ⟨rfl, by decide⟩
    | 2, ho => cases ho; exact ⟨rfl, by decide⟩
    | 3, ho => cases ho; exact ⟨rfl, by decide⟩
    | 4, ho => cases ho; exact ⟨rfl, by decide⟩
    | 5, ho => cases ho; exact ⟨rfl, by decide⟩
    | 6, ho => cases ho; exact ⟨rfl, by decide⟩
    | 7, ho => cases ho; exact ⟨rfl, by decide⟩
    | 8, ho => cases ho; exact ⟨rfl, by decide⟩
    | 9, ho => cases ho; exact ⟨rfl, by decide⟩
    | 10, ho => cases ho; exact ⟨rfl, by decide⟩
    | 11, ho => cases ho; exact ⟨rfl, by decide⟩
    | 12, ho => cases ho; exact ⟨rfl, by decide⟩
    | 13, ho => cases ho; exact ⟨rfl, by decide⟩
    | 14, ho => cases ho; exact ⟨rfl, by decide⟩
    | 15, ho => cases ho; exact ⟨rfl, by decide⟩
    | 16, ho => cases ho; exact ⟨rfl, by decide⟩
    | 17, ho => cases ho; exact ⟨rfl, by decide⟩
    | 18, ho => cases ho; exact ⟨rfl, by decide⟩
    | 19, ho => cases ho; exact ⟨rfl, by decide⟩
    | 20, ho => cases ho; exact ⟨rfl, by decide⟩
    | 21, ho => cases ho; exact ⟨rfl, by decide⟩
    | 22, ho => cases ho; exact ⟨rfl, by decide⟩
    | 23, ho => cases ho; exact ⟨rfl, by decide⟩
    | 24, ho => cases ho; exact ⟨rfl, by decide⟩
    | 25, ho => cases ho; exact ⟨rfl, by decide⟩
    | 26, ho => cases ho; exact ⟨rfl, by decide⟩
    | 27, ho => cases ho; exact ⟨rfl, by decide⟩
    | 28, ho => cases ho; exact ⟨rfl, by decide⟩
    | 29, ho => cases ho; exact ⟨rfl, by decide⟩
    | 30, ho => cases ho; exact ⟨rfl, by decide⟩
    | 31, ho => cases ho; exact ⟨rfl, by decide⟩
    | 32, ho => cases ho; exact ⟨rfl, by decide⟩
    | 33, ho => cases ho; exact ⟨rfl, by decide⟩
    | 34, ho => cases ho; exact ⟨rfl, by decide⟩
    | 35, ho => cases ho; exact ⟨rfl, by decide⟩
    | k + 36, _ => omega
  · intro i j hi hj h
    exact tw10_inj i j hi hj h
  · intro j o ho
    have hj : j < 36 := (Array.getElem?_eq_some_iff.1 ho).1
    match j, ho with
    | 0, ho => cases ho; decide
    | 1, ho => cases ho; decide
    | 2, ho => cases ho; decide
    | 3, ho => cases ho; decide
    | 4, ho => cases ho; decide
    | 5, ho => cases ho; decide
    | 6, ho => cases ho; decide
    | 7, ho => cases ho; decide
    | 8, ho => cases ho; decide
    | 9, ho => cases ho; decide
    | 10, ho => cases ho; decide
    | 11, ho => cases ho; decide
    | 12, ho => cases ho; decide
    | 13, ho => cases ho; decide
    | 14, ho => cases ho; decide
    | 15, ho => cases ho; decide
    | 16, ho => cases ho; decide
    | 17, ho => cases ho; decide
    | 18, ho => cases ho; decide
    | 19, ho => cases ho; decide
    | 20, ho => cases ho; decide
    | 21, ho => cases ho; decide
    | 22, ho => cases ho; decide
    | 23, ho => cases ho; decide
    | 24, ho => cases ho; decide
    | 25, ho => cases ho; decide
    | 26, ho => cases ho; decide
    | 27, ho => cases ho; decide
    | 28, ho => cases ho; decide
    | 29, ho => cases ho; decide
    | 30, ho => cases ho; decide
    | 31, ho => cases ho; decide
    | 32, ho => cases ho; decide
    | 33, ho => cases ho; decide
    | 34, ho => cases ho; decide
    | 35, ho => cases ho; decide
    | k + 36, _ => omega
  · intro j o ho x w hB hdef hsz hs hdeps
    have hs' : ∀ s, ¬ tw10_mem s → x.tmps.getD s undef = t0.getD s undef := fun s hn => hs s (fun j hj e => hn (by rw [e]; exact hsl j hj))
    have u5 := (hs' 5 (by decide)).trans hs5
    have u7 := (hs' 7 (by decide)).trans hs7
    have hj : j < 36 := (Array.getElem?_eq_some_iff.1 ho).1
    have hns : Hid (∀ s, s < 129 → x.tmps[s]? = some (x.tmps.getD s undef)) := fun s h => by rw [Array.getD_eq_getD_getElem?, Array.getElem?_eq_getElem (by omega)]; rfl
    clear hs hs' hsl hsz ht hQ hs5 hs7
    simp only [Array.getD_eq_getD_getElem?] at u5 u7
    match j, ho with
    | 0, ho =>
      have e : o = { dst := some 22, op := Op.move (Operand.tmp 7), type := 3, pos := "outright.go:22", after := #[], guard := none } := (Option.some.inj ho).symm
      subst e
      clear hdeps
      refine wpOp_step ho (fun K hK => ?_)
      clear ho
      go_simp
      exact hK _ _ ⟨_, act_putD x hdef _ _, rfl, Below.refl _ _⟩
    | 1, ho =>
      have e : o = { dst := some 23, op := Op.binOp BinOp.eql 3 (Operand.tmp 22) (Operand.const (Value.int IntKind.i64 0)) 3, type := 4, pos := "outright.go:22", after := #[{ on := 0, ground := Ground.data }], guard := none } := (Option.some.inj ho).symm
      subst e
      have q0 : x.tmps.getD 22 undef = .int .i64 (i : Nat) := hdeps { on := 0, ground := Ground.data } (by simp) rfl
      simp only [Array.getD_eq_getD_getElem?] at q0
      clear hdeps
      have f0 : (i : Int) = 0 := by have := hh.out; omega
      refine wpOp_step ho (fun K hK => ?_)
      clear ho
      go_simp
      exact hK _ _ ⟨_, act_putD x hdef _ _, rfl, Below.refl _ _⟩
    | 2, ho =>
      have e : o = { dst := some 24, op := Op.move (Operand.tmp 23), type := 4, pos := "outright.go:22", after := #[{ on := 1, ground := Ground.data }], guard := none } := (Option.some.inj ho).symm
      subst e
      have q1 : x.tmps.getD 23 undef = .bool true := hdeps { on := 1, ground := Ground.data } (by simp) rfl
      simp only [Array.getD_eq_getD_getElem?] at q1
      clear hdeps
      refine wpOp_step ho (fun K hK => ?_)
      clear ho
      go_simp
      exact hK _ _ ⟨_, act_putD x hdef _ _, rfl, Below.refl _ _⟩
    | 3, ho =>
      have e : o = { dst := some 25, op := Op.move (Operand.tmp 5), type := 23, pos := "outright.go:22", after := #[{ on := 2, ground := Ground.guard }], guard := some (2, true) } := (Option.some.inj ho).symm
      subst e
      have q2 : x.tmps.getD 24 undef = .bool true := hdeps { on := 2, ground := Ground.guard } (by simp) rfl
      have e2 : (tw10_ops[2]?.bind fun x => x.dst) = some 24 := rfl
      have g2 := get_someR q2 (fun h => by cases h)
      simp only [Array.getD_eq_getD_getElem?] at q2
      clear hdeps
      refine wpOp_step ho (fun K hK => ?_)
      clear ho
      go_simp
      exact hK _ _ ⟨_, act_putD x hdef _ _, rfl, Below.refl _ _⟩
    | 4, ho =>
      have e : o = { dst := some 26, op := Op.move (Operand.tmp 7), type := 3, pos := "outright.go:22", after := #[{ on := 2, ground := Ground.guard }], guard := some (2, true) } := (Option.some.inj ho).symm
      subst e
      have q2 : x.tmps.getD 24 undef = .bool true := hdeps { on := 2, ground := Ground.guard } (by simp) rfl
      have e2 : (tw10_ops[2]?.bind fun x => x.dst) = some 24 := rfl
      have g2 := get_someR q2 (fun h => by cases h)
      simp only [Array.getD_eq_getD_getElem?] at q2
      clear hdeps
      refine wpOp_step ho (fun K hK => ?_)
      clear ho
      go_simp
      exact hK _ _ ⟨_, act_putD x hdef _ _, rfl, Below.refl _ _⟩
    | 5, ho =>
      have e : o = { dst := some 27, op := Op.indexAddr 23 (Operand.tmp 25) (Operand.tmp 26), type := 0, pos := "outright.go:22", after := #[{ on := 3, ground := Ground.data }, { on := 4, ground := Ground.data }, { on := 2, ground := Ground.guard }], guard := some (2, true) } := (Option.some.inj ho).symm
      subst e
      have q3 : x.tmps.getD 25 undef = .slice (some ⟨bl, ol, none⟩) n Cl := hdeps { on := 3, ground := Ground.data } (by simp) rfl
      have q4 : x.tmps.getD 26 undef = .int .i64 (i : Nat) := hdeps { on := 4, ground := Ground.data } (by simp) rfl
      have q2 : x.tmps.getD 24 undef = .bool true := hdeps { on := 2, ground := Ground.guard } (by simp) rfl
      have e2 : (tw10_ops[2]?.bind fun x => x.dst) = some 24 := rfl
      have g2 := get_someR q2 (fun h => by cases h)
      simp only [Array.getD_eq_getD_getElem?] at q3 q4 q2
      clear hdeps
      have f0 : (0 : Int) ≤ (i : Int) := by have := hh.out; omega
      have f1 : (i : Int) < (n : Int) := by have := hh.out; omega
      refine wpOp_step ho (fun K hK => ?_)
      clear ho
      go_simp
      exact hK _ _ ⟨_, act_putD x hdef _ _, rfl, Below.refl _ _⟩
    | 6, ho =>
      have e : o = { dst := some 28, op := Op.load 3 (Operand.tmp 27), type := 3, pos := "outright.go:22", after := #[{ on := 5, ground := Ground.data }, { on := 2, ground := Ground.guard }], guard := some (2, true) } := (Option.some.inj ho).symm
      subst e
      have q5 : x.tmps.getD 27 undef = .pointer (some ⟨bl, ol + i, none⟩) := hdeps { on := 5, ground := Ground.data } (by simp) rfl
      have q2 : x.tmps.getD 24 undef = .bool true := hdeps { on := 2, ground := Ground.guard } (by simp) rfl
      have e2 : (tw10_ops[2]?.bind fun x => x.dst) = some 24 := rfl
      have g2 := get_someR q2 (fun h => by cases h)
      simp only [Array.getD_eq_getD_getElem?] at q5 q2
      clear hdeps
      have m := ci w hB
      refine wpOp_step ho (fun K hK => ?_)
      clear ho
      go_simp
      exact hK _ _ ⟨_, act_putD x hdef _ _, rfl, Below.refl _ _⟩
    | 7, ho =>
      have e : o = { dst := some 29, op := Op.binOp BinOp.neq 3 (Operand.tmp 28) (Operand.const (Value.int IntKind.i64 0)) 3, type := 4, pos := "outright.go:22", after := #[{ on := 6, ground := Ground.data }, { on := 2, ground := Ground.guard }], guard := some (2, true) } := (Option.some.inj ho).symm
      subst e
      have q6 : x.tmps.getD 28 undef = .int .i64 (u : Nat) := hdeps { on := 6, ground := Ground.data } (by simp) rfl
      have q2 : x.tmps.getD 24 undef = .bool true := hdeps { on := 2, ground := Ground.guard } (by simp) rfl
      have e2 : (tw10_ops[2]?.bind fun x => x.dst) = some 24 := rfl
      have g2 := get_someR q2 (fun h => by cases h)
      simp only [Array.getD_eq_getD_getElem?] at q6 q2
      clear hdeps
      have f0 : (u : Int) = 0 := by have := hh.out; omega
      refine wpOp_step ho (fun K hK => ?_)
      clear ho
      go_simp
      exact hK _ _ ⟨_, act_putD x hdef _ _, rfl, Below.refl _ _⟩
    | 8, ho =>
      have e : o = { dst := some 30, op := Op.pick (Operand.tmp 24) (Operand.tmp 29) (Operand.const (Value.bool false)), type := 4, pos := "outright.go:22", after := #[{ on := 2, ground := Ground.data }, { on := 7, ground := Ground.data }], guard := none } := (Option.some.inj ho).symm
      subst e
      have q2 : x.tmps.getD 24 undef = .bool true := hdeps { on := 2, ground := Ground.data } (by simp) rfl
      have q7 : x.tmps.getD 29 undef = .bool false := hdeps { on := 7, ground := Ground.data } (by simp) rfl
      simp only [Array.getD_eq_getD_getElem?] at q2 q7
      clear hdeps
      refine wpOp_step ho (fun K hK => ?_)
      clear ho
      go_simp
      exact hK _ _ ⟨_, act_putD x hdef _ _, rfl, Below.refl _ _⟩
    | 9, ho =>
      have e : o = { dst := some 31, op := Op.move (Operand.tmp 30), type := 4, pos := "outright.go:22", after := #[{ on := 8, ground := Ground.data }, { on := 2, ground := Ground.chain }], guard := none } := (Option.some.inj ho).symm
      subst e
      have q8 : x.tmps.getD 30 undef = .bool false := hdeps { on := 8, ground := Ground.data } (by simp) rfl
      simp only [Array.getD_eq_getD_getElem?] at q8
      clear hdeps
      refine wpOp_step ho (fun K hK => ?_)
      clear ho
      go_simp
      exact hK _ _ ⟨_, act_putD x hdef _ _, rfl, Below.refl _ _⟩
    | 10, ho =>
      have e : o = { dst := some 32, op := Op.move (Operand.tmp 7), type := 3, pos := "outright.go:22", after := #[{ on := 9, ground := Ground.guard }], guard := some (9, false) } := (Option.some.inj ho).symm
      subst e
      have q9 : x.tmps.getD 31 undef = .bool false := hdeps { on := 9, ground := Ground.guard } (by simp) rfl
      have e9 : (tw10_ops[9]?.bind fun x => x.dst) = some 31 := rfl
      have g9 := get_someR q9 (fun h => by cases h)
      simp only [Array.getD_eq_getD_getElem?] at q9
      clear hdeps
      refine wpOp_step ho (fun K hK => ?_)
      clear ho
      go_simp
      exact hK _ _ ⟨_, act_putD x hdef _ _, rfl, Below.refl _ _⟩
    | 11, ho =>
      have e : o = { dst := some 33, op := Op.binOp BinOp.gtr 3 (Operand.tmp 32) (Operand.const (Value.int IntKind.i64 0)) 3, type := 4, pos := "outright.go:22", after := #[{ on := 10, ground := Ground.data }, { on := 9, ground := Ground.guard }], guard := some (9, false) } := (Option.some.inj ho).symm
      subst e
      have q10 : x.tmps.getD 32 undef = .int .i64 (i : Nat) := hdeps { on := 10, ground := Ground.data } (by simp) rfl
      have q9 : x.tmps.getD 31 undef = .bool false := hdeps { on := 9, ground := Ground.guard } (by simp) rfl
      have e9 : (tw10_ops[9]?.bind fun x => x.dst) = some 31 := rfl
      have g9 := get_someR q9 (fun h => by cases h)
      simp only [Array.getD_eq_getD_getElem?] at q10 q9
      clear hdeps
      have f0 : ¬ (0 < i) := by have := hh.out; omega
      refine wpOp_step ho (fun K hK => ?_)
      clear ho
      go_simp
      exact hK _ _ ⟨_, act_putD x hdef _ _, rfl, Below.refl _ _⟩
    | 12, ho =>
      have e : o = { dst := some 34, op := Op.move (Operand.tmp 33), type := 4, pos := "outright.go:22", after := #[{ on := 11, ground := Ground.data }, { on := 9, ground := Ground.chain }, { on := 9, ground := Ground.guard }], guard := some (9, false) } := (Option.some.inj ho).symm
      subst e
      have q11 : x.tmps.getD 33 undef = .bool false := hdeps { on := 11, ground := Ground.data } (by simp) rfl
      have q9 : x.tmps.getD 31 undef = .bool false := hdeps { on := 9, ground := Ground.guard } (by simp) rfl
      have e9 : (tw10_ops[9]?.bind fun x => x.dst) = some 31 := rfl
      have g9 := get_someR q9 (fun h => by cases h)
      simp only [Array.getD_eq_getD_getElem?] at q11 q9
      clear hdeps
      refine wpOp_step ho (fun K hK => ?_)
      clear ho
      go_simp
      exact hK _ _ ⟨_, act_putD x hdef _ _, rfl, Below.refl _ _⟩
    | 13, ho =>
      have e : o = { dst := some 35, op := Op.move (Operand.tmp 5), type := 23, pos := "outright.go:22", after := #[{ on := 12, ground := Ground.guard }], guard := some (12, true) } := (Option.some.inj ho).symm
      subst e
      have q12 : x.tmps.getD 34 undef = .bool false := hdeps { on := 12, ground := Ground.guard } (by simp) rfl
      have e12 : (tw10_ops[12]?.bind fun x => x.dst) = some 34 := rfl
      have g12 := get_someR q12 (fun h => by cases h)
      simp only [Array.getD_eq_getD_getElem?] at q12
      clear hdeps
      refine wpOp_step ho (fun K hK => ?_)
      clear ho
      go_simp
      exact hK _ _ ⟨_, act_putD x hdef _ _, rfl, Below.refl _ _⟩
    | 14, ho =>
      have e : o = { dst := some 36, op := Op.move (Operand.tmp 7), type := 3, pos := "outright.go:22", after := #[{ on := 12, ground := Ground.guard }], guard := some (12, true) } := (Option.some.inj ho).symm
      subst e
      have q12 : x.tmps.getD 34 undef = .bool false := hdeps { on := 12, ground := Ground.guard } (by simp) rfl
      have e12 : (tw10_ops[12]?.bind fun x => x.dst) = some 34 := rfl
      have g12 := get_someR q12 (fun h => by cases h)
      simp only [Array.getD_eq_getD_getElem?] at q12
      clear hdeps
      refine wpOp_step ho (fun K hK => ?_)
      clear ho
      go_simp
      exact hK _ _ ⟨_, act_putD x hdef _ _, rfl, Below.refl _ _⟩
    | 15, ho =>
      have e : o = { dst := some 37, op := Op.indexAddr 23 (Operand.tmp 35) (Operand.tmp 36), type := 0, pos := "outright.go:22", after := #[{ on := 13, ground := Ground.data }, { on := 14, ground := Ground.data }, { on := 12, ground := Ground.guard }], guard := some (12, true) } := (Option.some.inj ho).symm
      subst e
      have q13 : x.tmps.getD 35 undef = undef := hdeps { on := 13, ground := Ground.data } (by simp) rfl
      have q14 : x.tmps.getD 36 undef = undef := hdeps { on := 14, ground := Ground.data } (by simp) rfl
      have q12 : x.tmps.getD 34 undef = .bool false := hdeps { on := 12, ground := Ground.guard } (by simp) rfl
      have e12 : (tw10_ops[12]?.bind fun x => x.dst) = some 34 := rfl
      have g12 := get_someR q12 (fun h => by cases h)
      simp only [Array.getD_eq_getD_getElem?] at q13 q14 q12
      clear hdeps
      refine wpOp_step ho (fun K hK => ?_)
      clear ho
      go_simp
      exact hK _ _ ⟨_, act_putD x hdef _ _, rfl, Below.refl _ _⟩
    | 16, ho =>
      have e : o = { dst := some 38, op := Op.load 3 (Operand.tmp 37), type := 3, pos := "outright.go:22", after := #[{ on := 15, ground := Ground.data }, { on := 12, ground := Ground.guard }], guard := some (12, true) } := (Option.some.inj ho).symm
      subst e
      have q15 : x.tmps.getD 37 undef = undef := hdeps { on := 15, ground := Ground.data } (by simp) rfl
      have q12 : x.tmps.getD 34 undef = .bool false := hdeps { on := 12, ground := Ground.guard } (by simp) rfl
      have e12 : (tw10_ops[12]?.bind fun x => x.dst) = some 34 := rfl
      have g12 := get_someR q12 (fun h => by cases h)
      simp only [Array.getD_eq_getD_getElem?] at q15 q12
      clear hdeps
      refine wpOp_step ho (fun K hK => ?_)
      clear ho
      go_simp
      exact hK _ _ ⟨_, act_putD x hdef _ _, rfl, Below.refl _ _⟩
    | 17, ho =>
      have e : o = { dst := some 39, op := Op.move (Operand.tmp 5), type := 23, pos := "outright.go:22", after := #[{ on := 12, ground := Ground.guard }], guard := some (12, true) } := (Option.some.inj ho).symm
      subst e
      have q12 : x.tmps.getD 34 undef = .bool false := hdeps { on := 12, ground := Ground.guard } (by simp) rfl
      have e12 : (tw10_ops[12]?.bind fun x => x.dst) = some 34 := rfl
      have g12 := get_someR q12 (fun h => by cases h)
      simp only [Array.getD_eq_getD_getElem?] at q12
      clear hdeps
      refine wpOp_step ho (fun K hK => ?_)
      clear ho
      go_simp
      exact hK _ _ ⟨_, act_putD x hdef _ _, rfl, Below.refl _ _⟩
    | 18, ho =>
      have e : o = { dst := some 40, op := Op.move (Operand.tmp 7), type := 3, pos := "outright.go:22", after := #[{ on := 12, ground := Ground.guard }], guard := some (12, true) } := (Option.some.inj ho).symm
      subst e
      have q12 : x.tmps.getD 34 undef = .bool false := hdeps { on := 12, ground := Ground.guard } (by simp) rfl
      have e12 : (tw10_ops[12]?.bind fun x => x.dst) = some 34 := rfl
      have g12 := get_someR q12 (fun h => by cases h)
      simp only [Array.getD_eq_getD_getElem?] at q12
      clear hdeps
      refine wpOp_step ho (fun K hK => ?_)
      clear ho
      go_simp
      exact hK _ _ ⟨_, act_putD x hdef _ _, rfl, Below.refl _ _⟩
    | 19, ho =>
      have e : o = { dst := some 41, op := Op.binOp BinOp.sub 3 (Operand.tmp 40) (Operand.const (Value.int IntKind.i64 1)) 3, type := 3, pos := "outright.go:22", after := #[{ on := 18, ground := Ground.data }, { on := 12, ground := Ground.guard }], guard := some (12, true) } := (Option.some.inj ho).symm
      subst e
      have q18 : x.tmps.getD 40 undef = undef := hdeps { on := 18, ground := Ground.data } (by simp) rfl
      have q12 : x.tmps.getD 34 undef = .bool false := hdeps { on := 12, ground := Ground.guard } (by simp) rfl
      have e12 : (tw10_ops[12]?.bind fun x => x.dst) = some 34 := rfl
      have g12 := get_someR q12 (fun h => by cases h)
      simp only [Array.getD_eq_getD_getElem?] at q18 q12
      clear hdeps
      refine wpOp_step ho (fun K hK => ?_)
      clear ho
      go_simp
      exact hK _ _ ⟨_, act_putD x hdef _ _, rfl, Below.refl _ _⟩
    | 20, ho =>
      have e : o = { dst := some 42, op := Op.indexAddr 23 (Operand.tmp 39) (Operand.tmp 41), type := 0, pos := "outright.go:22", after := #[{ on := 17, ground := Ground.data }, { on := 19, ground := Ground.data }, { on := 12, ground := Ground.guard }], guard := some (12, true) } := (Option.some.inj ho).symm
      subst e
      have q17 : x.tmps.getD 39 undef = undef := hdeps { on := 17, ground := Ground.data } (by simp) rfl
      have q19 : x.tmps.getD 41 undef = undef := hdeps { on := 19, ground := Ground.data } (by simp) rfl
      have q12 : x.tmps.getD 34 undef = .bool false := hdeps { on := 12, ground := Ground.guard } (by simp) rfl
      have e12 : (tw10_ops[12]?.bind fun x => x.dst) = some 34 := rfl
      have g12 := get_someR q12 (fun h => by cases h)
      simp only [Array.getD_eq_getD_getElem?] at q17 q19 q12
      clear hdeps
      refine wpOp_step ho (fun K hK => ?_)
      clear ho
      go_simp
      exact hK _ _ ⟨_, act_putD x hdef _ _, rfl, Below.refl _ _⟩
    | 21, ho =>
      have e : o = { dst := some 43, op := Op.load 3 (Operand.tmp 42), type := 3, pos := "outright.go:22", after := #[{ on := 20, ground := Ground.data }, { on := 12, ground := Ground.guard }], guard := some (12, true) } := (Option.some.inj ho).symm
      subst e
      have q20 : x.tmps.getD 42 undef = undef := hdeps { on := 20, ground := Ground.data } (by simp) rfl
      have q12 : x.tmps.getD 34 undef = .bool false := hdeps { on := 12, ground := Ground.guard } (by simp) rfl
      have e12 : (tw10_ops[12]?.bind fun x => x.dst) = some 34 := rfl
      have g12 := get_someR q12 (fun h => by cases h)
      simp only [Array.getD_eq_getD_getElem?] at q20 q12
      clear hdeps
      refine wpOp_step ho (fun K hK => ?_)
      clear ho
      go_simp
      exact hK _ _ ⟨_, act_putD x hdef _ _, rfl, Below.refl _ _⟩
    | 22, ho =>
      have e : o = { dst := some 44, op := Op.binOp BinOp.leq 3 (Operand.tmp 38) (Operand.tmp 43) 3, type := 4, pos := "outright.go:22", after := #[{ on := 16, ground := Ground.data }, { on := 21, ground := Ground.data }, { on := 12, ground := Ground.guard }], guard := some (12, true) } := (Option.some.inj ho).symm
      subst e
      have q16 : x.tmps.getD 38 undef = undef := hdeps { on := 16, ground := Ground.data } (by simp) rfl
      have q21 : x.tmps.getD 43 undef = undef := hdeps { on := 21, ground := Ground.data } (by simp) rfl
      have q12 : x.tmps.getD 34 undef = .bool false := hdeps { on := 12, ground := Ground.guard } (by simp) rfl
      have e12 : (tw10_ops[12]?.bind fun x => x.dst) = some 34 := rfl
      have g12 := get_someR q12 (fun h => by cases h)
      simp only [Array.getD_eq_getD_getElem?] at q16 q21 q12
      clear hdeps
      refine wpOp_step ho (fun K hK => ?_)
      clear ho
      go_simp
      exact hK _ _ ⟨_, act_putD x hdef _ _, rfl, Below.refl _ _⟩
    | 23, ho =>
      have e : o = { dst := some 45, op := Op.move (Operand.tmp 44), type := 4, pos := "outright.go:22", after := #[{ on := 22, ground := Ground.data }, { on := 12, ground := Ground.chain }, { on := 12, ground := Ground.guard }], guard := some (12, true) } := (Option.some.inj ho).symm
      subst e
      have q22 : x.tmps.getD 44 undef = undef := hdeps { on := 22, ground := Ground.data } (by simp) rfl
      have q12 : x.tmps.getD 34 undef = .bool false := hdeps { on := 12, ground := Ground.guard } (by simp) rfl
      have e12 : (tw10_ops[12]?.bind fun x => x.dst) = some 34 := rfl
      have g12 := get_someR q12 (fun h => by cases h)
      simp only [Array.getD_eq_getD_getElem?] at q22 q12
      clear hdeps
      refine wpOp_step ho (fun K hK => ?_)
      clear ho
      go_simp
      exact hK _ _ ⟨_, act_putD x hdef _ _, rfl, Below.refl _ _⟩
    | 24, ho =>
      have e : o = { dst := some 46, op := Op.move (Operand.tmp 0), type := 22, pos := "outright.go:22", after := #[{ on := 23, ground := Ground.guard }], guard := some (23, false) } := (Option.some.inj ho).symm
      subst e
      have q23 : x.tmps.getD 45 undef = undef := hdeps { on := 23, ground := Ground.guard } (by simp) rfl
      have e23 : (tw10_ops[23]?.bind fun x => x.dst) = some 45 := rfl
      have g23 : x.tmps[45]? = some undef := (hns.out 45 (by omega)).trans (congrArg some q23)
      simp only [Array.getD_eq_getD_getElem?] at q23
      clear hdeps
      refine wpOp_step ho (fun K hK => ?_)
      clear ho
      go_simp
      exact hK _ _ ⟨_, act_putD x hdef _ _, rfl, Below.refl _ _⟩
    | 25, ho =>
      have e : o = { dst := some 47, op := Op.move (Operand.tmp 5), type := 23, pos := "outright.go:22", after := #[{ on := 23, ground := Ground.guard }], guard := some (23, false) } := (Option.some.inj ho).symm
      subst e
      have q23 : x.tmps.getD 45 undef = undef := hdeps { on := 23, ground := Ground.guard } (by simp) rfl
      have e23 : (tw10_ops[23]?.bind fun x => x.dst) = some 45 := rfl
      have g23 : x.tmps[45]? = some undef := (hns.out 45 (by omega)).trans (congrArg some q23)
      simp only [Array.getD_eq_getD_getElem?] at q23
      clear hdeps
      refine wpOp_step ho (fun K hK => ?_)
      clear ho
      go_simp
      exact hK _ _ ⟨_, act_putD x hdef _ _, rfl, Below.refl _ _⟩
    | 26, ho =>
      have e : o = { dst := some 48, op := Op.move (Operand.tmp 7), type := 3, pos := "outright.go:22", after := #[{ on := 23, ground := Ground.guard }], guard := some (23, false) } := (Option.some.inj ho).symm
      subst e
      have q23 : x.tmps.getD 45 undef = undef := hdeps { on := 23, ground := Ground.guard } (by simp) rfl
      have e23 : (tw10_ops[23]?.bind fun x => x.dst) = some 45 := rfl
      have g23 : x.tmps[45]? = some undef := (hns.out 45 (by omega)).trans (congrArg some q23)
      simp only [Array.getD_eq_getD_getElem?] at q23
      clear hdeps
      refine wpOp_step ho (fun K hK => ?_)
      clear ho
      go_simp
      exact hK _ _ ⟨_, act_putD x hdef _ _, rfl, Below.refl _ _⟩
    | 27, ho =>
      have e : o = { dst := some 49, op := Op.indexAddr 23 (Operand.tmp 47) (Operand.tmp 48), type := 0, pos := "outright.go:22", after := #[{ on := 25, ground := Ground.data }, { on := 26, ground := Ground.data }, { on := 23, ground := Ground.guard }], guard := some (23, false) } := (Option.some.inj ho).symm
      subst e
      have q25 : x.tmps.getD 47 undef = undef := hdeps { on := 25, ground := Ground.data } (by simp) rfl
      have q26 : x.tmps.getD 48 undef = undef := hdeps { on := 26, ground := Ground.data } (by simp) rfl
      have q23 : x.tmps.getD 45 undef = undef := hdeps { on := 23, ground := Ground.guard } (by simp) rfl
      have e23 : (tw10_ops[23]?.bind fun x => x.dst) = some 45 := rfl
      have g23 : x.tmps[45]? = some undef := (hns.out 45 (by omega)).trans (congrArg some q23)
      simp only [Array.getD_eq_getD_getElem?] at q25 q26 q23
      clear hdeps
      refine wpOp_step ho (fun K hK => ?_)
      clear ho
      go_simp
      exact hK _ _ ⟨_, act_putD x hdef _ _, rfl, Below.refl _ _⟩
    | 28, ho =>
      have e : o = { dst := some 50, op := Op.load 3 (Operand.tmp 49), type := 3, pos := "outright.go:22", after := #[{ on := 27, ground := Ground.data }, { on := 23, ground := Ground.guard }], guard := some (23, false) } := (Option.some.inj ho).symm
      subst e
      have q27 : x.tmps.getD 49 undef = undef := hdeps { on := 27, ground := Ground.data } (by simp) rfl
      have q23 : x.tmps.getD 45 undef = undef := hdeps { on := 23, ground := Ground.guard } (by simp) rfl
      have e23 : (tw10_ops[23]?.bind fun x => x.dst) = some 45 := rfl
      have g23 : x.tmps[45]? = some undef := (hns.out 45 (by omega)).trans (congrArg some q23)
      simp only [Array.getD_eq_getD_getElem?] at q27 q23
      clear hdeps
      refine wpOp_step ho (fun K hK => ?_)
      clear ho
      go_simp
      exact hK _ _ ⟨_, act_putD x hdef _ _, rfl, Below.refl _ _⟩
    | 29, ho =>
      have e : o = { dst := some 51, op := Op.binOp BinOp.sub 3 (Operand.tmp 50) (Operand.const (Value.int IntKind.i64 1)) 3, type := 3, pos := "outright.go:22", after := #[{ on := 28, ground := Ground.data }, { on := 23, ground := Ground.guard }], guard := some (23, false) } := (Option.some.inj ho).symm
      subst e
      have q28 : x.tmps.getD 50 undef = undef := hdeps { on := 28, ground := Ground.data } (by simp) rfl
      have q23 : x.tmps.getD 45 undef = undef := hdeps { on := 23, ground := Ground.guard } (by simp) rfl
      have e23 : (tw10_ops[23]?.bind fun x => x.dst) = some 45 := rfl
      have g23 : x.tmps[45]? = some undef := (hns.out 45 (by omega)).trans (congrArg some q23)
      simp only [Array.getD_eq_getD_getElem?] at q28 q23
      clear hdeps
      refine wpOp_step ho (fun K hK => ?_)
      clear ho
      go_simp
      exact hK _ _ ⟨_, act_putD x hdef _ _, rfl, Below.refl _ _⟩
    | 30, ho =>
      have e : o = { dst := some 52, op := Op.indexAddr 22 (Operand.tmp 46) (Operand.tmp 51), type := 0, pos := "outright.go:22", after := #[{ on := 24, ground := Ground.data }, { on := 29, ground := Ground.data }, { on := 23, ground := Ground.guard }], guard := some (23, false) } := (Option.some.inj ho).symm
      subst e
      have q24 : x.tmps.getD 46 undef = undef := hdeps { on := 24, ground := Ground.data } (by simp) rfl
      have q29 : x.tmps.getD 51 undef = undef := hdeps { on := 29, ground := Ground.data } (by simp) rfl
      have q23 : x.tmps.getD 45 undef = undef := hdeps { on := 23, ground := Ground.guard } (by simp) rfl
      have e23 : (tw10_ops[23]?.bind fun x => x.dst) = some 45 := rfl
      have g23 : x.tmps[45]? = some undef := (hns.out 45 (by omega)).trans (congrArg some q23)
      simp only [Array.getD_eq_getD_getElem?] at q24 q29 q23
      clear hdeps
      refine wpOp_step ho (fun K hK => ?_)
      clear ho
      go_simp
      exact hK _ _ ⟨_, act_putD x hdef _ _, rfl, Below.refl _ _⟩
    | 31, ho =>
      have e : o = { dst := some 53, op := Op.load 5 (Operand.tmp 52), type := 5, pos := "outright.go:22", after := #[{ on := 30, ground := Ground.data }, { on := 23, ground := Ground.guard }], guard := some (23, false) } := (Option.some.inj ho).symm
      subst e
      have q30 : x.tmps.getD 52 undef = undef := hdeps { on := 30, ground := Ground.data } (by simp) rfl
      have q23 : x.tmps.getD 45 undef = undef := hdeps { on := 23, ground := Ground.guard } (by simp) rfl
      have e23 : (tw10_ops[23]?.bind fun x => x.dst) = some 45 := rfl
      have g23 : x.tmps[45]? = some undef := (hns.out 45 (by omega)).trans (congrArg some q23)
      simp only [Array.getD_eq_getD_getElem?] at q30 q23
      clear hdeps
      refine wpOp_step ho (fun K hK => ?_)
      clear ho
      go_simp
      exact hK _ _ ⟨_, act_putD x hdef _ _, rfl, Below.refl _ _⟩
    | 32, ho =>
      have e : o = { dst := some 54, op := Op.binOp BinOp.neq 5 (Operand.tmp 53) (Operand.const (Value.int IntKind.u8 10)) 5, type := 4, pos := "outright.go:22", after := #[{ on := 31, ground := Ground.data }, { on := 23, ground := Ground.guard }], guard := some (23, false) } := (Option.some.inj ho).symm
      subst e
      have q31 : x.tmps.getD 53 undef = undef := hdeps { on := 31, ground := Ground.data } (by simp) rfl
      have q23 : x.tmps.getD 45 undef = undef := hdeps { on := 23, ground := Ground.guard } (by simp) rfl
      have e23 : (tw10_ops[23]?.bind fun x => x.dst) = some 45 := rfl
      have g23 : x.tmps[45]? = some undef := (hns.out 45 (by omega)).trans (congrArg some q23)
      simp only [Array.getD_eq_getD_getElem?] at q31 q23
      clear hdeps
      refine wpOp_step ho (fun K hK => ?_)
      clear ho
      go_simp
      exact hK _ _ ⟨_, act_putD x hdef _ _, rfl, Below.refl _ _⟩
    | 33, ho =>
      have e : o = { dst := some 55, op := Op.pick (Operand.tmp 45) (Operand.const (Value.bool true)) (Operand.tmp 54), type := 4, pos := "outright.go:22", after := #[{ on := 23, ground := Ground.data }, { on := 32, ground := Ground.data }, { on := 12, ground := Ground.guard }], guard := some (12, true) } := (Option.some.inj ho).symm
      subst e
      have q23 : x.tmps.getD 45 undef = undef := hdeps { on := 23, ground := Ground.data } (by simp) rfl
      have q32 : x.tmps.getD 54 undef = undef := hdeps { on := 32, ground := Ground.data } (by simp) rfl
      have q12 : x.tmps.getD 34 undef = .bool false := hdeps { on := 12, ground := Ground.guard } (by simp) rfl
      have e12 : (tw10_ops[12]?.bind fun x => x.dst) = some 34 := rfl
      have g12 := get_someR q12 (fun h => by cases h)
      simp only [Array.getD_eq_getD_getElem?] at q23 q32 q12
      clear hdeps
      refine wpOp_step ho (fun K hK => ?_)
      clear ho
      go_simp
      exact hK _ _ ⟨_, act_putD x hdef _ _, rfl, Below.refl _ _⟩
    | 34, ho =>
      have e : o = { dst := some 56, op := Op.pick (Operand.tmp 34) (Operand.tmp 55) (Operand.const (Value.bool false)), type := 4, pos := "outright.go:22", after := #[{ on := 12, ground := Ground.data }, { on := 33, ground := Ground.data }, { on := 9, ground := Ground.guard }], guard := some (9, false) } := (Option.some.inj ho).symm
      subst e
      have q12 : x.tmps.getD 34 undef = .bool false := hdeps { on := 12, ground := Ground.data } (by simp) rfl
      have q33 : x.tmps.getD 55 undef = undef := hdeps { on := 33, ground := Ground.data } (by simp) rfl
      have q9 : x.tmps.getD 31 undef = .bool false := hdeps { on := 9, ground := Ground.guard } (by simp) rfl
      have e9 : (tw10_ops[9]?.bind fun x => x.dst) = some 31 := rfl
      have g9 := get_someR q9 (fun h => by cases h)
      simp only [Array.getD_eq_getD_getElem?] at q12 q33 q9
      clear hdeps
      refine wpOp_step ho (fun K hK => ?_)
      clear ho
      go_simp
      exact hK _ _ ⟨_, act_putD x hdef _ _, rfl, Below.refl _ _⟩
    | 35, ho =>
      have e : o = { dst := some 57, op := Op.pick (Operand.tmp 31) (Operand.const (Value.bool true)) (Operand.tmp 56), type := 4, pos := "outright.go:22", after := #[{ on := 9, ground := Ground.data }, { on := 34, ground := Ground.data }], guard := none } := (Option.some.inj ho).symm
      subst e
      have q9 : x.tmps.getD 31 undef = .bool false := hdeps { on := 9, ground := Ground.data } (by simp) rfl
      have q34 : x.tmps.getD 56 undef = .bool false := hdeps { on := 34, ground := Ground.data } (by simp) rfl
      simp only [Array.getD_eq_getD_getElem?] at q9 q34
      clear hdeps
      refine wpOp_step ho (fun K hK => ?_)
      clear ho
      go_simp
      exact hK _ _ ⟨_, act_putD x hdef _ _, rfl, Below.refl _ _⟩
    | k + 36, _ => omega
  · intro x w hB hdef hsz hs hv
    have hx := frame_sets x.tmps t0 hsz [22, 23, 24, 25, 26, 27, 28, 29, 30, 31, 32, 33, 34, 35, 36, 37, 38, 39, 40, 41, 42, 43, 44, 45, 46, 47, 48, 49, 50, 51, 52, 53, 54, 55, 56, 57] (fun s hn => hs s (fun j hj e => hn (tw10_list s (by rw [e]; exact hsl j hj))))
    have hq := hQ (fun d => x.tmps.getD d undef) w hB (hv 35 (by decide))
    obtain ⟨T, Df⟩ := x
    dsimp only at hx hdef hq
    subst hdef
    rw [← hx] at hq
    exact hq

def tw10S_val (b0 o0 la ca bl ol n Cl i p u vv q : Nat) : Nat → Value → World → Prop
  | 0, v, w => v = .int .i64 (i : Nat)
  | 1, v, w => v = .bool false
  | 2, v, w => v = .bool false
  | 3, v, w => v = undef
  | 4, v, w => v = undef
  | 5, v, w => v = undef
  | 6, v, w => v = undef
  | 7, v, w => v = undef
  | 8, v, w => v = .bool false
  | 9, v, w => v = .bool false
  | 10, v, w => v = .int .i64 (i : Nat)
  | 11, v, w => v = .bool true
  | 12, v, w => v = .bool true
  | 13, v, w => v = .slice (some ⟨bl, ol, none⟩) n Cl
  | 14, v, w => v = .int .i64 (i : Nat)
  | 15, v, w => v = .pointer (some ⟨bl, ol + i, none⟩)
  | 16, v, w => v = .int .i64 (u : Nat)
  | 17, v, w => v = .slice (some ⟨bl, ol, none⟩) n Cl
  | 18, v, w => v = .int .i64 (i : Nat)
  | 19, v, w => v = .int .i64 (p : Nat)
  | 20, v, w => v = .pointer (some ⟨bl, ol + p, none⟩)
  | 21, v, w => v = .int .i64 (vv : Nat)
  | 22, v, w => v = .bool false
  | 23, v, w => v = .bool false
  | 24, v, w => v = .slice (some ⟨b0, o0, none⟩) la ca
  | 25, v, w => v = .slice (some ⟨bl, ol, none⟩) n Cl
  | 26, v, w => v = .int .i64 (i : Nat)
  | 27, v, w => v = .pointer (some ⟨bl, ol + i, none⟩)
  | 28, v, w => v = .int .i64 (u : Nat)
  | 29, v, w => v = .int .i64 (q : Nat)
  | 30, v, w => v = .pointer (some ⟨b0, o0 + q, none⟩)
  | 31, v, w => v = .int .u8 10
  | 32, v, w => v = .bool false
  | 33, v, w => v = .bool false
  | 34, v, w => v = .bool false
  | 35, v, w => v = .bool false
  | _, _, _ => True
theorem tw10S_below (b0 o0 la ca bl ol n Cl i p u vv q : Nat) (w w' : World) (hb : Below w.heap.size w w') : ∀ j v, tw10S_val b0 o0 la ca bl ol n Cl i p u vv q j v w → tw10S_val b0 o0 la ca bl ol n Cl i p u vv q j v w' := by
  intro j v h
  match j, h with
  | 0, h => exact h
  | 1, h => exact h
  | 2, h => exact h
  | 3, h => exact h
  | 4, h => exact h
  | 5, h => exact h
  | 6, h => exact h
  | 7, h => exact h
  | 8, h => exact h
  | 9, h => exact h
  | 10, h => exact h
  | 11, h => exact h
  | 12, h => exact h
  | 13, h => exact h
  | 14, h => exact h
  | 15, h => exact h
  | 16, h => exact h
  | 17, h => exact h
  | 18, h => exact h
  | 19, h => exact h
  | 20, h => exact h
  | 21, h => exact h
  | 22, h => exact h
  | 23, h => exact h
  | 24, h => exact h
  | 25, h => exact h
  | 26, h => exact h
  | 27, h => exact h
  | 28, h => exact h
  | 29, h => exact h
  | 30, h => exact h
  | 31, h => exact h
  | 32, h => exact h
  | 33, h => exact h
  | 34, h => exact h
  | 35, h => exact h
  | _ + 36, h => exact h

set_option maxRecDepth 100000 in
set_option maxHeartbeats 10000000 in
theorem tw10S (b0 o0 la ca bl ol n Cl i p u vv q : Nat) (Q : Exit → Act → World → Prop) (t0 : Array Value) (w0 : World) (ht : t0.size = 129)
    (hs0 : t0.getD 0 undef = .slice (some ⟨b0, o0, none⟩) la ca) (hs5 : t0.getD 5 undef = .slice (some ⟨bl, ol, none⟩) n Cl) (hs7 : t0.getD 7 undef = .int .i64 (i : Nat))
    (hh : Hid (i = p + 1 ∧ i < n ∧ u = q + 1 ∧ vv < u ∧ q < la ∧ n ≤ 100000 ∧ la ≤ 100000))
    (ci : ∀ W, Below w0.heap.size w0 W → W.cell? ⟨bl, ol + i, none⟩ = some (.int .i64 (u : Nat)))
    (cp : ∀ W, Below w0.heap.size w0 W → W.cell? ⟨bl, ol + p, none⟩ = some (.int .i64 (vv : Nat)))
    (cq : ∀ W, Below w0.heap.size w0 W → W.cell? ⟨b0, o0 + q, none⟩ = some (.int .u8 10))
    (hQ : ∀ (vs : Nat → Value) (w : World), Below w0.heap.size w0 w → (vs 57 = .bool false) → Q .normal { tmps := [22, 23, 24, 25, 26, 27, 28, 29, 30, 31, 32, 33, 34, 35, 36, 37, 38, 39, 40, 41, 42, 43, 44, 45, 46, 47, 48, 49, 50, 51, 52, 53, 54, 55, 56, 57].foldl (fun y d => y.setIfInBounds d (vs d)) t0, defers := [] } w) :
    (Code.region 10 tw10_ops true).wp Try.prog Q { tmps := t0, defers := [] } w0 := by
  have hsl : ∀ j, j < 36 → tw10_mem (tw10_slot j) := by
    intro j hj
    match j, hj with
    | 0, _ => exact (by decide : tw10_mem 22)
    | 1, _ => exact (by decide : tw10_mem 23)
    | 2, _ => exact (by decide : tw10_mem 24)
    | 3, _ => exact (by decide : tw10_mem 25)
    | 4, _ => exact (by decide : tw10_mem 26)
    | 5, _ => exact (by decide : tw10_mem 27)
    | 6, _ => exact (by decide : tw10_mem 28)
    | 7, _ => exact (by decide : tw10_mem 29)
    | 8, _ => exact (by decide : tw10_mem 30)
    | 9, _ => exact (by decide : tw10_mem 31)
    | 10, _ => exact (by decide : tw10_mem 32)
    | 11, _ => exact (by decide : tw10_mem 33)
    | 12, _ => exact (by decide : tw10_mem 34)
    | 13, _ => exact (by decide : tw10_mem 35)
    | 14, _ => exact (by decide : tw10_mem 36)
    | 15, _ => exact (by decide : tw10_mem 37)
    | 16, _ => exact (by decide : tw10_mem 38)
    | 17, _ => exact (by decide : tw10_mem 39)
    | 18, _ => exact (by decide : tw10_mem 40)
    | 19, _ => exact (by decide : tw10_mem 41)
    | 20, _ => exact (by decide : tw10_mem 42)
    | 21, _ => exact (by decide : tw10_mem 43)
    | 22, _ => exact (by decide : tw10_mem 44)
    | 23, _ => exact (by decide : tw10_mem 45)
    | 24, _ => exact (by decide : tw10_mem 46)
    | 25, _ => exact (by decide : tw10_mem 47)
    | 26, _ => exact (by decide : tw10_mem 48)
    | 27, _ => exact (by decide : tw10_mem 49)
    | 28, _ => exact (by decide : tw10_mem 50)
    | 29, _ => exact (by decide : tw10_mem 51)
    | 30, _ => exact (by decide : tw10_mem 52)
    | 31, _ => exact (by decide : tw10_mem 53)
    | 32, _ => exact (by decide : tw10_mem 54)
    | 33, _ => exact (by decide : tw10_mem 55)
    | 34, _ => exact (by decide : tw10_mem 56)
    | 35, _ => exact (by decide : tw10_mem 57)
    | k + 36, hj => omega
  refine wp_region_inv (by kernel_rfl) tw10_slot (tw10S_val b0 o0 la ca bl ol n Cl i p u vv q) t0 w0 ?_ ?_ ?_ (tw10S_below b0 o0 la ca bl ol n Cl i p u vv q) ?_ ?_
  · intro j o ho
    have hj : j < 36 := (Array.getElem?_eq_some_iff.1 ho).1
    rw [ht]
    match j, ho with
    | 0, ho => cases ho; exact ⟨rfl, by decide⟩
    | 1, ho => cases ho; exact ⟨rfl, by decide⟩
    | 2, ho => cases ho; exact ⟨rfl, by decide⟩
    | 3, ho => cases ho; exact ⟨rfl, by decide⟩
    | 4, ho => cases ho; exact ⟨rfl, by decide⟩
    | 5, ho => cases ho; exact ⟨rfl, by decide⟩
    | 6, ho => cases ho; exact ⟨rfl, by decide⟩
    | 7, ho => cases ho; exact ⟨rfl, by decide⟩
    | 8, ho => cases ho; exact ⟨rfl, by decide⟩
    | 9, ho => cases ho; exact ⟨rfl, by decide⟩
    | 10, ho => cases ho; exact ⟨rfl, by decide⟩
    | 11, ho => cases ho; exact ⟨rfl, by decide⟩
    | 12, ho => cases ho; exact ⟨rfl, by decide⟩
    | 13, ho => cases ho; exact ⟨rfl, by decide⟩
    | 14, ho => cases ho; exact ⟨rfl, by decide⟩
    | 15, ho => cases ho; exact ⟨rfl, by decide⟩
    | 16, ho => cases ho; exact ⟨rfl, by decide⟩
    | 17, ho => cases ho; exact ⟨rfl, by decide⟩
    | 18, ho => cases ho; exact ⟨rfl, by decide⟩
    | 19, ho => cases ho; exact ⟨rfl, by decide⟩
    | 20, ho => cases ho; exact ⟨rfl, by decide⟩
    | 21, ho => cases ho; exact ⟨rfl, by decide⟩
    | 22, ho => cases ho; exact ⟨rfl, by decide⟩
    | 23, ho => cases ho; exact ⟨rfl, by decide⟩
    | 24, ho => cases ho; exact ⟨rfl, by decide⟩
    | 25, ho => cases ho; exact ⟨rfl, by decide⟩
    | 26, ho => cases ho; exact ⟨rfl, by decide⟩
    | 27, ho => cases ho; exact ⟨rfl, by decide⟩
    | 28, ho => cases ho; exact ⟨rfl, by decide⟩
    | 29, ho => cases ho; exact ⟨rfl, by decide⟩
    | 30, ho => cases ho; exact ⟨rfl, by decide⟩
    | 31, ho => cases ho; exact ⟨rfl, by decide⟩
    | 32, ho => cases ho; exact ⟨rfl, by decide⟩
    | 33, ho => cases ho; exact ⟨rfl, by decide⟩
    | 34, ho => cases ho; exact ⟨rfl, by decide⟩
    | 35, ho => cases ho; exact ⟨rfl, by decide⟩
    | k + 36, _ => omega
  · intro i j hi hj h
    exact tw10_inj i j hi hj h
  · intro j o ho
    have hj : j < 36 := (Array.getElem?_eq_some_iff.1 ho).1
    match j, ho with
    | 0, ho => cases ho; decide
    | 1, ho => cases ho; decide
    | 2, ho => cases ho; decide
    | 3, ho => cases ho; decide
    | 4, ho => cases ho; decide
    | 5, ho => cases ho; decide
    | 6, ho => cases ho; decide
    | 7, ho => cases ho; decide
    | 8, ho => cases ho; decide
    | 9, ho => cases ho; decide
    | 10, ho => cases ho; decide
    | 11, ho => cases ho; decide
    | 12, ho => cases ho; decide
    | 13, ho => cases ho; decide
    | 14, ho => cases ho; decide
    | 15, ho => cases ho; decide
    | 16, ho => cases ho; decide
    | 17, ho => cases ho; decide
    | 18, ho => cases ho; decide
    | 19, ho => cases ho; decide
    | 20, ho => cases ho; decide
    | 21, ho => cases ho; decide
    | 22, ho => cases ho; decide
    | 23, ho => cases ho; decide
    | 24, ho => cases ho; decide
    | 25, ho => cases ho; decide
    | 26, ho => cases ho; decide
    | 27, ho => cases ho; decide
    | 28, ho => cases ho; decide
    | 29, ho => cases ho; decide
    | 30, ho => cases ho; decide
    | 31, ho => cases ho; decide
    | 32, ho => cases ho; decide
    | 33, ho => cases ho; decide
    | 34, ho => cases ho; decide
    | 35, ho => cases ho; decide
    | k + 36, _ => omega
  · intro j o ho x w hB hdef hsz hs hdeps
    have hs' : ∀ s, ¬ tw10_mem s → x.tmps.getD s undef = t0.getD s undef := fun s hn => hs s (fun j hj e => hn (by rw [e]; exact hsl j hj))
    have u0 := (hs' 0 (by decide)).trans hs0
    have u5 := (hs' 5 (by decide)).trans hs5
    have u7 := (hs' 7 (by decide)).trans hs7
    have hj : j < 36 := (Array.getElem?_eq_some_iff.1 ho).1
    have hns : Hid (∀ s, s < 129 → x.tmps[s]? = some (x.tmps.getD s undef)) := fun s h => by rw [Array.getD_eq_getD_getElem?, Array.getElem?_eq_getElem (by omega)]; rfl
    clear hs hs' hsl hsz ht hQ hs0 hs5 hs7
    simp only [Array.getD_eq_getD_getElem?] at u0 u5 u7
    match j, ho with
    | 0, ho =>
      have e : o = { dst := some 22, op := Op.move (Operand.tmp 7), type := 3, pos := "outright.go:22", after := #[], guard := none } := (Option.some.inj ho).symm
      subst e
      clear hdeps
      refine wpOp_step ho (fun K hK => ?_)
      clear ho
      go_simp
      exact hK _ _ ⟨_, act_putD x hdef _ _, rfl, Below.refl _ _⟩
    | 1, ho =>
      have e : o = { dst := some 23, op := Op.binOp BinOp.eql 3 (Operand.tmp 22) (Operand.const (Value.int IntKind.i64 0)) 3, type := 4, pos := "outright.go:22", after := #[{ on := 0, ground := Ground.data }], guard := none } := (Option.some.inj ho).symm
      subst e
      have q0 : x.tmps.getD 22 undef = .int .i64 (i : Nat) := hdeps { on := 0, ground := Ground.data } (by simp) rfl
      simp only [Array.getD_eq_getD_getElem?] at q0
      clear hdeps
      have f0 : ((i : Int) == 0) = false := by have := hh.out; simp; omega
      refine wpOp_step ho (fun K hK => ?_)
      clear ho
      go_simp
      exact hK _ _ ⟨_, act_putD x hdef _ _, rfl, Below.refl _ _⟩
    | 2, ho =>
      have e : o = { dst := some 24, op := Op.move (Operand.tmp 23), type := 4, pos := "outright.go:22", after := #[{ on := 1, ground := Ground.data }], guard := none } := (Option.some.inj ho).symm
      subst e
      have q1 : x.tmps.getD 23 undef = .bool false := hdeps { on := 1, ground := Ground.data } (by simp) rfl
      simp only [Array.getD_eq_getD_getElem?] at q1
      clear hdeps
      refine wpOp_step ho (fun K hK => ?_)
      clear ho
      go_simp
      exact hK _ _ ⟨_, act_putD x hdef _ _, rfl, Below.refl _ _⟩
    | 3, ho =>
      have e : o = { dst := some 25, op := Op.move (Operand.tmp 5), type := 23, pos := "outright.go:22", after := #[{ on := 2, ground := Ground.guard }], guard := some (2, true) } := (Option.some.inj ho).symm
      subst e
      have q2 : x.tmps.getD 24 undef = .bool false := hdeps { on := 2, ground := Ground.guard } (by simp) rfl
      have e2 : (tw10_ops[2]?.bind fun x => x.dst) = some 24 := rfl
      have g2 := get_someR q2 (fun h => by cases h)
      simp only [Array.getD_eq_getD_getElem?] at q2
      clear hdeps
      refine wpOp_step ho (fun K hK => ?_)
      clear ho
      go_simp
      exact hK _ _ ⟨_, act_putD x hdef _ _, rfl, Below.refl _ _⟩
    | 4, ho =>
      have e : o = { dst := some 26, op := Op.move (Operand.tmp 7), type := 3, pos := "outright.go:22", after := #[{ on := 2, ground := Ground.guard }], guard := some (2, true) } := (Option.some.inj ho).symm
      subst e
      have q2 : x.tmps.getD 24 undef = .bool false := hdeps { on := 2, ground := Ground.guard } (by simp) rfl
      have e2 : (tw10_ops[2]?.bind fun x => x.dst) = some 24 := rfl
      have g2 := get_someR q2 (fun h => by cases h)
      simp only [Array.getD_eq_getD_getElem?] at q2
      clear hdeps
      refine wpOp_step ho (fun K hK => ?_)
      clear ho
      go_simp
      exact hK _ _ ⟨_, act_putD x hdef _ _, rfl, Below.refl _ _⟩
    | 5, ho =>
      have e : o = { dst := some 27, op := Op.indexAddr 23 (Operand.tmp 25) (Operand.tmp 26), type := 0, pos := "outright.go:22", after := #[{ on := 3, ground := Ground.data }, { on := 4, ground := Ground.data }, { on := 2, ground := Ground.guard }], guard := some (2, true) } := (Option.some.inj ho).symm
      subst e
      have q3 : x.tmps.getD 25 undef = undef := hdeps { on := 3, ground := Ground.data } (by simp) rfl
      have q4 : x.tmps.getD 26 undef = undef := hdeps { on := 4, ground := Ground.data } (by simp) rfl
      have q2 : x.tmps.getD 24 undef = .bool false := hdeps { on := 2, ground := Ground.guard } (by simp) rfl
      have e2 : (tw10_ops[2]?.bind fun x => x.dst) = some 24 := rfl
      have g2 := get_someR q2 (fun h => by cases h)
      simp only [Array.getD_eq_getD_getElem?] at q3 q4 q2
      clear hdeps
      refine wpOp_step ho (fun K hK => ?_)
      clear ho
      go_simp
      exact hK _ _ ⟨_, act_putD x hdef _ _, rfl, Below.refl _ _⟩
    | 6, ho =>
      have e : o = { dst := some 28, op := Op.load 3 (Operand.tmp 27), type := 3, pos := "outright.go:22", after := #[{ on := 5, ground := Ground.data }, { on := 2, ground := Ground.guard }], guard := some (2, true) } := (Option.some.inj ho).symm
      subst e
      have q5 : x.tmps.getD 27 undef = undef := hdeps { on := 5, ground := Ground.data } (by simp) rfl
      have q2 : x.tmps.getD 24 undef = .bool false := hdeps { on := 2, ground := Ground.guard } (by simp) rfl
      have e2 : (tw10_ops[2]?.bind fun x => x.dst) = some 24 := rfl
      have g2 := get_someR q2 (fun h => by cases h)
      simp only [Array.getD_eq_getD_getElem?] at q5 q2
      clear hdeps
      refine wpOp_step ho (fun K hK => ?_)
      clear ho
      go_simp
      exact hK _ _ ⟨_, act_putD x hdef _ _, rfl, Below.refl _ _⟩
    | 7, ho =>
      have e : o = { dst := some 29, op := Op.binOp BinOp.neq 3 (Operand.tmp 28) (Operand.const (Value.int IntKind.i64 0)) 3, type := 4, pos := "outright.go:22", after := #[{ on := 6, ground := Ground.data }, { on := 2, ground := Ground.guard }], guard := some (2, true) } := (Option.some.inj ho).symm
      subst e
      have q6 : x.tmps.getD 28 undef = undef := hdeps { on := 6, ground := Ground.data } (by simp) rfl
      have q2 : x.tmps.getD 24 undef = .bool false := hdeps { on := 2, ground := Ground.guard } (by simp) rfl
      have e2 : (tw10_ops[2]?.bind fun x => x.dst) = some 24 := rfl
      have g2 := get_someR q2 (fun h => by cases h)
      simp only [Array.getD_eq_getD_getElem?] at q6 q2
      clear hdeps
      refine wpOp_step ho (fun K hK => ?_)
      clear ho
      go_simp
      exact hK _ _ ⟨_, act_putD x hdef _ _, rfl, Below.refl _ _⟩
    | 8, ho =>
      have e : o = { dst := some 30, op := Op.pick (Operand.tmp 24) (Operand.tmp 29) (Operand.const (Value.bool false)), type := 4, pos := "outright.go:22", after := #[{ on := 2, ground := Ground.data }, { on := 7, ground := Ground.data }], guard := none } := (Option.some.inj ho).symm
      subst e
      have q2 : x.tmps.getD 24 undef = .bool false := hdeps { on := 2, ground := Ground.data } (by simp) rfl
      have q7 : x.tmps.getD 29 undef = undef := hdeps { on := 7, ground := Ground.data } (by simp) rfl
      simp only [Array.getD_eq_getD_getElem?] at q2 q7
      clear hdeps
      refine wpOp_step ho (fun K hK => ?_)
      clear ho
      go_simp
      exact hK _ _ ⟨_, act_putD x hdef _ _, rfl, Below.refl _ _⟩
    | 9, ho =>
      have e : o = { dst := some 31, op := Op.move (Operand.tmp 30), type := 4, pos := "outright.go:22", after := #[{ on := 8, ground := Ground.data }, { on := 2, ground := Ground.chain }], guard := none } := (Option.some.inj ho).symm
      subst e
      have q8 : x.tmps.getD 30 undef = .bool false := hdeps { on := 8, ground := Ground.data } (by simp) rfl
      simp only [Array.getD_eq_getD_getElem?] at q8
      clear hdeps
      refine wpOp_step ho (fun K hK => ?_)
      clear ho
      go_simp
      exact hK _ _ ⟨_, act_putD x hdef _ _, rfl, Below.refl _ _⟩
    | 10, ho =>
      have e : o = { dst := some 32, op := Op.move (Operand.tmp 7), type := 3, pos := "outright.go:22", after := #[{ on := 9, ground := Ground.guard }], guard := some (9, false) } := (Option.some.inj ho).symm
      subst e
      have q9 : x.tmps.getD 31 undef = .bool false := hdeps { on := 9, ground := Ground.guard } (by simp) rfl
      have e9 : (tw10_ops[9]?.bind fun x => x.dst) = some 31 := rfl
      have g9 := get_someR q9 (fun h => by cases h)
      simp only [Array.getD_eq_getD_getElem?] at q9
      clear hdeps
      refine wpOp_step ho (fun K hK => ?_)
      clear ho
      go_simp
      exact hK _ _ ⟨_, act_putD x hdef _ _, rfl, Below.refl _ _⟩
    | 11, ho =>
      have e : o = { dst := some 33, op := Op.binOp BinOp.gtr 3 (Operand.tmp 32) (Operand.const (Value.int IntKind.i64 0)) 3, type := 4, pos := "outright.go:22", after := #[{ on := 10, ground := Ground.data }, { on := 9, ground := Ground.guard }], guard := some (9, false) } := (Option.some.inj ho).symm
      subst e
      have q10 : x.tmps.getD 32 undef = .int .i64 (i : Nat) := hdeps { on := 10, ground := Ground.data } (by simp) rfl
      have q9 : x.tmps.getD 31 undef = .bool false := hdeps { on := 9, ground := Ground.guard } (by simp) rfl
      have e9 : (tw10_ops[9]?.bind fun x => x.dst) = some 31 := rfl
      have g9 := get_someR q9 (fun h => by cases h)
      simp only [Array.getD_eq_getD_getElem?] at q10 q9
      clear hdeps
      have f0 : 0 < i := by have := hh.out; omega
      refine wpOp_step ho (fun K hK => ?_)
      clear ho
      go_simp
      exact hK _ _ ⟨_, act_putD x hdef _ _, rfl, Below.refl _ _⟩
    | 12, ho =>
      have e : o = { dst := some 34, op := Op.move (Operand.tmp 33), type := 4, pos := "outright.go:22", after := #[{ on := 11, ground := Ground.data }, { on := 9, ground := Ground.chain }, { on := 9, ground := Ground.guard }], guard := some (9, false) } := (Option.some.inj ho).symm
      subst e
      have q11 : x.tmps.getD 33 undef = .bool true := hdeps { on := 11, ground := Ground.data } (by simp) rfl
      have q9 : x.tmps.getD 31 undef = .bool false := hdeps { on := 9, ground := Ground.guard } (by simp) rfl
      have e9 : (tw10_ops[9]?.bind fun x => x.dst) = some 31 := rfl
      have g9 := get_someR q9 (fun h => by cases h)
      simp only [Array.getD_eq_getD_getElem?] at q11 q9
      clear hdeps
      refine wpOp_step ho (fun K hK => ?_)
      clear ho
      go_simp
      exact hK _ _ ⟨_, act_putD x hdef _ _, rfl, Below.refl _ _⟩
    | 13, ho =>
      have e : o = { dst := some 35, op := Op.move (Operand.tmp 5), type := 23, pos := "outright.go:22", after := #[{ on := 12, ground := Ground.guard }], guard := some (12, true) } := (Option.some.inj ho).symm
      subst e
      have q12 : x.tmps.getD 34 undef = .bool true := hdeps { on := 12, ground := Ground.guard } (by simp) rfl
      have e12 : (tw10_ops[12]?.bind fun x => x.dst) = some 34 := rfl
      have g12 := get_someR q12 (fun h => by cases h)
      simp only [Array.getD_eq_getD_getElem?] at q12
      clear hdeps
      refine wpOp_step ho (fun K hK => ?_)
      clear ho
      go_simp
      exact hK _ _ ⟨_, act_putD x hdef _ _, rfl, Below.refl _ _⟩
    | 14, ho =>
      have e : o = { dst := some 36, op := Op.move (Operand.tmp 7), type := 3, pos := "outright.go:22", after := #[{ on := 12, ground := Ground.guard }], guard := some (12, true) } := (Option.some.inj ho).symm
      subst e
      have q12 : x.tmps.getD 34 undef = .bool true := hdeps { on := 12, ground := Ground.guard } (by simp) rfl
      have e12 : (tw10_ops[12]?.bind fun x => x.dst) = some 34 := rfl
      have g12 := get_someR q12 (fun h => by cases h)
      simp only [Array.getD_eq_getD_getElem?] at q12
      clear hdeps
      refine wpOp_step ho (fun K hK => ?_)
      clear ho
      go_simp
      exact hK _ _ ⟨_, act_putD x hdef _ _, rfl, Below.refl _ _⟩
    | 15, ho =>
      have e : o = { dst := some 37, op := Op.indexAddr 23 (Operand.tmp 35) (Operand.tmp 36), type := 0, pos := "outright.go:22", after := #[{ on := 13, ground := Ground.data }, { on := 14, ground := Ground.data }, { on := 12, ground := Ground.guard }], guard := some (12, true) } := (Option.some.inj ho).symm
      subst e
      have q13 : x.tmps.getD 35 undef = .slice (some ⟨bl, ol, none⟩) n Cl := hdeps { on := 13, ground := Ground.data } (by simp) rfl
      have q14 : x.tmps.getD 36 undef = .int .i64 (i : Nat) := hdeps { on := 14, ground := Ground.data } (by simp) rfl
      have q12 : x.tmps.getD 34 undef = .bool true := hdeps { on := 12, ground := Ground.guard } (by simp) rfl
      have e12 : (tw10_ops[12]?.bind fun x => x.dst) = some 34 := rfl
      have g12 := get_someR q12 (fun h => by cases h)
      simp only [Array.getD_eq_getD_getElem?] at q13 q14 q12
      clear hdeps
      have f0 : (0 : Int) ≤ (i : Int) := by have := hh.out; omega
      have f1 : (i : Int) < (n : Int) := by have := hh.out; omega
      refine wpOp_step ho (fun K hK => ?_)
      clear ho
      go_simp
      exact hK _ _ ⟨_, act_putD x hdef _ _, rfl, Below.refl _ _⟩
    | 16, ho =>
      have e : o = { dst := some 38, op := Op.load 3 (Operand.tmp 37), type := 3, pos := "outright.go:22", after := #[{ on := 15, ground := Ground.data }, { on := 12, ground := Ground.guard }], guard := some (12, true) } := (Option.some.inj ho).symm
      subst e
      have q15 : x.tmps.getD 37 undef = .pointer (some ⟨bl, ol + i, none⟩) := hdeps { on := 15, ground := Ground.data } (by simp) rfl
      have q12 : x.tmps.getD 34 undef = .bool true := hdeps { on := 12, ground := Ground.guard } (by simp) rfl
      have e12 : (tw10_ops[12]?.bind fun x => x.dst) = some 34 := rfl
      have g12 := get_someR q12 (fun h => by cases h)
      simp only [Array.getD_eq_getD_getElem?] at q15 q12
      clear hdeps
      have m := ci w hB
      refine wpOp_step ho (fun K hK => ?_)
      clear ho
      go_simp
      exact hK _ _ ⟨_, act_putD x hdef _ _, rfl, Below.refl _ _⟩
    | 17, ho =>
      have e : o = { dst := some 39, op := Op.move (Operand.tmp 5), type := 23, pos := "outright.go:22", after := #[{ on := 12, ground := Ground.guard }], guard := some (12, true) } := (Option.some.inj ho).symm
      subst e
      have q12 : x.tmps.getD 34 undef = .bool true := hdeps { on := 12, ground := Ground.guard } (by simp) rfl
      have e12 : (tw10_ops[12]?.bind fun x => x.dst) = some 34 := rfl
      have g12 := get_someR q12 (fun h => by cases h)
      simp only [Array.getD_eq_getD_getElem?] at q12
      clear hdeps
      refine wpOp_step ho (fun K hK => ?_)
      clear ho
      go_simp
      exact hK _ _ ⟨_, act_putD x hdef _ _, rfl, Below.refl _ _⟩
    | 18, ho =>
      have e : o = { dst := some 40, op := Op.move (Operand.tmp 7), type := 3, pos := "outright.go:22", after := #[{ on := 12, ground := Ground.guard }], guard := some (12, true) } := (Option.some.inj ho).symm
      subst e
      have q12 : x.tmps.getD 34 undef = .bool true := hdeps { on := 12, ground := Ground.guard } (by simp) rfl
      have e12 : (tw10_ops[12]?.bind fun x => x.dst) = some 34 := rfl
      have g12 := get_someR q12 (fun h => by cases h)
      simp only [Array.getD_eq_getD_getElem?] at q12
      clear hdeps
      refine wpOp_step ho (fun K hK => ?_)
      clear ho
      go_simp
      exact hK _ _ ⟨_, act_putD x hdef _ _, rfl, Below.refl _ _⟩
    | 19, ho =>
      have e : o = { dst := some 41, op := Op.binOp BinOp.sub 3 (Operand.tmp 40) (Operand.const (Value.int IntKind.i64 1)) 3, type := 3, pos := "outright.go:22", after := #[{ on := 18, ground := Ground.data }, { on := 12, ground := Ground.guard }], guard := some (12, true) } := (Option.some.inj ho).symm
      subst e
      have q18 : x.tmps.getD 40 undef = .int .i64 (i : Nat) := hdeps { on := 18, ground := Ground.data } (by simp) rfl
      have q12 : x.tmps.getD 34 undef = .bool true := hdeps { on := 12, ground := Ground.guard } (by simp) rfl
      have e12 : (tw10_ops[12]?.bind fun x => x.dst) = some 34 := rfl
      have g12 := get_someR q12 (fun h => by cases h)
      simp only [Array.getD_eq_getD_getElem?] at q18 q12
      clear hdeps
      have f0 : (i : Int) - 1 = (p : Int) := by have := hh.out; omega
      refine wpOp_step ho (fun K hK => ?_)
      clear ho
      go_simp
      rw [show IntKind.i64.wrap (p : Int) = (p : Int) from IntWalk.i64_in _ (by have := hh.out; omega)]
      exact hK _ _ ⟨_, act_putD x hdef _ _, rfl, Below.refl _ _⟩
    | 20, ho =>
      have e : o = { dst := some 42, op := Op.indexAddr 23 (Operand.tmp 39) (Operand.tmp 41), type := 0, pos := "outright.go:22", after := #[{ on := 17, ground := Ground.data }, { on := 19, ground := Ground.data }, { on := 12, ground := Ground.guard }], guard := some (12, true) } := (Option.some.inj ho).symm
      subst e
      have q17 : x.tmps.getD 39 undef = .slice (some ⟨bl, ol, none⟩) n Cl := hdeps { on := 17, ground := Ground.data } (by simp) rfl
      have q19 : x.tmps.getD 41 undef = .int .i64 (p : Nat) := hdeps { on := 19, ground := Ground.data } (by simp) rfl
      have q12 : x.tmps.getD 34 undef = .bool true := hdeps { on := 12, ground := Ground.guard } (by simp) rfl
      have e12 : (tw10_ops[12]?.bind fun x => x.dst) = some 34 := rfl
      have g12 := get_someR q12 (fun h => by cases h)
      simp only [Array.getD_eq_getD_getElem?] at q17 q19 q12
      clear hdeps
      have f0 : (0 : Int) ≤ (p : Int) := by have := hh.out; omega
      have f1 : (p : Int) < (n : Int) := by have := hh.out; omega
      refine wpOp_step ho (fun K hK => ?_)
      clear ho
      go_simp
      exact hK _ _ ⟨_, act_putD x hdef _ _, rfl, Below.refl _ _⟩
    | 21, ho =>
      have e : o = { dst := some 43, op := Op.load 3 (Operand.tmp 42), type := 3, pos := "outright.go:22", after := #[{ on := 20, ground := Ground.data }, { on := 12, ground := Ground.guard }], guard := some (12, true) } := (Option.some.inj ho).symm
      subst e
      have q20 : x.tmps.getD 42 undef = .pointer (some ⟨bl, ol + p, none⟩) := hdeps { on := 20, ground := Ground.data } (by simp) rfl
      have q12 : x.tmps.getD 34 undef = .bool true := hdeps { on := 12, ground := Ground.guard } (by simp) rfl
      have e12 : (tw10_ops[12]?.bind fun x => x.dst) = some 34 := rfl
      have g12 := get_someR q12 (fun h => by cases h)
      simp only [Array.getD_eq_getD_getElem?] at q20 q12
      clear hdeps
      have m := cp w hB
      refine wpOp_step ho (fun K hK => ?_)
      clear ho
      go_simp
      exact hK _ _ ⟨_, act_putD x hdef _ _, rfl, Below.refl _ _⟩
    | 22, ho =>
      have e : o = { dst := some 44, op := Op.binOp BinOp.leq 3 (Operand.tmp 38) (Operand.tmp 43) 3, type := 4, pos := "outright.go:22", after := #[{ on := 16, ground := Ground.data }, { on := 21, ground := Ground.data }, { on := 12, ground := Ground.guard }], guard := some (12, true) } := (Option.some.inj ho).symm
      subst e
      have q16 : x.tmps.getD 38 undef = .int .i64 (u : Nat) := hdeps { on := 16, ground := Ground.data } (by simp) rfl
      have q21 : x.tmps.getD 43 undef = .int .i64 (vv : Nat) := hdeps { on := 21, ground := Ground.data } (by simp) rfl
      have q12 : x.tmps.getD 34 undef = .bool true := hdeps { on := 12, ground := Ground.guard } (by simp) rfl
      have e12 : (tw10_ops[12]?.bind fun x => x.dst) = some 34 := rfl
      have g12 := get_someR q12 (fun h => by cases h)
      simp only [Array.getD_eq_getD_getElem?] at q16 q21 q12
      clear hdeps
      have f0 : ¬ ((u : Int) ≤ (vv : Int)) := by have := hh.out; omega
      refine wpOp_step ho (fun K hK => ?_)
      clear ho
      go_simp
      exact hK _ _ ⟨_, act_putD x hdef _ _, rfl, Below.refl _ _⟩
    | 23, ho =>
      have e : o = { dst := some 45, op := Op.move (Operand.tmp 44), type := 4, pos := "outright.go:22", after := #[{ on := 22, ground := Ground.data }, { on := 12, ground := Ground.chain }, { on := 12, ground := Ground.guard }], guard := some (12, true) } := (Option.some.inj ho).symm
      subst e
      have q22 : x.tmps.getD 44 undef = .bool false := hdeps { on := 22, ground := Ground.data } (by simp) rfl
      have q12 : x.tmps.getD 34 undef = .bool true := hdeps { on := 12, ground := Ground.guard } (by simp) rfl
      have e12 : (tw10_ops[12]?.bind fun x => x.dst) = some 34 := rfl
      have g12 := get_someR q12 (fun h => by cases h)
      simp only [Array.getD_eq_getD_getElem?] at q22 q12
      clear hdeps
      refine wpOp_step ho (fun K hK => ?_)
      clear ho
      go_simp
      exact hK _ _ ⟨_, act_putD x hdef _ _, rfl, Below.refl _ _⟩
    | 24, ho =>
      have e : o = { dst := some 46, op := Op.move (Operand.tmp 0), type := 22, pos := "outright.go:22", after := #[{ on := 23, ground := Ground.guard }], guard := some (23, false) } := (Option.some.inj ho).symm
      subst e
      have q23 : x.tmps.getD 45 undef = .bool false := hdeps { on := 23, ground := Ground.guard } (by simp) rfl
      have e23 : (tw10_ops[23]?.bind fun x => x.dst) = some 45 := rfl
      have g23 := get_someR q23 (fun h => by cases h)
      simp only [Array.getD_eq_getD_getElem?] at q23
      clear hdeps
      refine wpOp_step ho (fun K hK => ?_)
      clear ho
      go_simp
      exact hK _ _ ⟨_, act_putD x hdef _ _, rfl, Below.refl _ _⟩
    | 25, ho =>
      have e : o = { dst := some 47, op := Op.move (Operand.tmp 5), type := 23, pos := "outright.go:22", after := #[{ on := 23, ground := Ground.guard }], guard := some (23, false) } := (Option.some.inj ho).symm
      subst e
      have q23 : x.tmps.getD 45 undef = .bool false := hdeps { on := 23, ground := Ground.guard } (by simp) rfl
      have e23 : (tw10_ops[23]?.bind fun x => x.dst) = some 45 := rfl
      have g23 := get_someR q23 (fun h => by cases h)
      simp only [Array.getD_eq_getD_getElem?] at q23
      clear hdeps
      refine wpOp_step ho (fun K hK => ?_)
      clear ho
      go_simp
      exact hK _ _ ⟨_, act_putD x hdef _ _, rfl, Below.refl _ _⟩
    | 26, ho =>
      have e : o = { dst := some 48, op := Op.move (Operand.tmp 7), type := 3, pos := "outright.go:22", after := #[{ on := 23, ground := Ground.guard }], guard := some (23, false) } := (Option.some.inj ho).symm
      subst e
      have q23 : x.tmps.getD 45 undef = .bool false := hdeps { on := 23, ground := Ground.guard } (by simp) rfl
      have e23 : (tw10_ops[23]?.bind fun x => x.dst) = some 45 := rfl
      have g23 := get_someR q23 (fun h => by cases h)
      simp only [Array.getD_eq_getD_getElem?] at q23
      clear hdeps
      refine wpOp_step ho (fun K hK => ?_)
      clear ho
      go_simp
      exact hK _ _ ⟨_, act_putD x hdef _ _, rfl, Below.refl _ _⟩
    | 27, ho =>
      have e : o = { dst := some 49, op := Op.indexAddr 23 (Operand.tmp 47) (Operand.tmp 48), type := 0, pos := "outright.go:22", after := #[{ on := 25, ground := Ground.data }, { on := 26, ground := Ground.data }, { on := 23, ground := Ground.guard }], guard := some (23, false) } := (Option.some.inj ho).symm
      subst e
      have q25 : x.tmps.getD 47 undef = .slice (some ⟨bl, ol, none⟩) n Cl := hdeps { on := 25, ground := Ground.data } (by simp) rfl
      have q26 : x.tmps.getD 48 undef = .int .i64 (i : Nat) := hdeps { on := 26, ground := Ground.data } (by simp) rfl
      have q23 : x.tmps.getD 45 undef = .bool false := hdeps { on := 23, ground := Ground.guard } (by simp) rfl
      have e23 : (tw10_ops[23]?.bind fun x => x.dst) = some 45 := rfl
      have g23 := get_someR q23 (fun h => by cases h)
      simp only [Array.getD_eq_getD_getElem?] at q25 q26 q23
      clear hdeps
      have f0 : (0 : Int) ≤ (i : Int) := by have := hh.out; omega
      have f1 : (i : Int) < (n : Int) := by have := hh.out; omega
      refine wpOp_step ho (fun K hK => ?_)
      clear ho
      go_simp
      exact hK _ _ ⟨_, act_putD x hdef _ _, rfl, Below.refl _ _⟩
    | 28, ho =>
      have e : o = { dst := some 50, op := Op.load 3 (Operand.tmp 49), type := 3, pos := "outright.go:22", after := #[{ on := 27, ground := Ground.data }, { on := 23, ground := Ground.guard }], guard := some (23, false) } := (Option.some.inj ho).symm
      subst e
      have q27 : x.tmps.getD 49 undef = .pointer (some ⟨bl, ol + i, none⟩) := hdeps { on := 27, ground := Ground.data } (by simp) rfl
      have q23 : x.tmps.getD 45 undef = .bool false := hdeps { on := 23, ground := Ground.guard } (by simp) rfl
      have e23 : (tw10_ops[23]?.bind fun x => x.dst) = some 45 := rfl
      have g23 := get_someR q23 (fun h => by cases h)
      simp only [Array.getD_eq_getD_getElem?] at q27 q23
      clear hdeps
      have m := ci w hB
      refine wpOp_step ho (fun K hK => ?_)
      clear ho
      go_simp
      exact hK _ _ ⟨_, act_putD x hdef _ _, rfl, Below.refl _ _⟩
    | 29, ho =>
      have e : o = { dst := some 51, op := Op.binOp BinOp.sub 3 (Operand.tmp 50) (Operand.const (Value.int IntKind.i64 1)) 3, type := 3, pos := "outright.go:22", after := #[{ on := 28, ground := Ground.data }, { on := 23, ground := Ground.guard }], guard := some (23, false) } := (Option.some.inj ho).symm
      subst e
      have q28 : x.tmps.getD 50 undef = .int .i64 (u : Nat) := hdeps { on := 28, ground := Ground.data } (by simp) rfl
      have q23 : x.tmps.getD 45 undef = .bool false := hdeps { on := 23, ground := Ground.guard } (by simp) rfl
      have e23 : (tw10_ops[23]?.bind fun x => x.dst) = some 45 := rfl
      have g23 := get_someR q23 (fun h => by cases h)
      simp only [Array.getD_eq_getD_getElem?] at q28 q23
      clear hdeps
      have f0 : (u : Int) - 1 = (q : Int) := by have := hh.out; omega
      refine wpOp_step ho (fun K hK => ?_)
      clear ho
      go_simp
      rw [show IntKind.i64.wrap (q : Int) = (q : Int) from IntWalk.i64_in _ (by have := hh.out; omega)]
      exact hK _ _ ⟨_, act_putD x hdef _ _, rfl, Below.refl _ _⟩
    | 30, ho =>
      have e : o = { dst := some 52, op := Op.indexAddr 22 (Operand.tmp 46) (Operand.tmp 51), type := 0, pos := "outright.go:22", after := #[{ on := 24, ground := Ground.data }, { on := 29, ground := Ground.data }, { on := 23, ground := Ground.guard }], guard := some (23, false) } := (Option.some.inj ho).symm
      subst e
      have q24 : x.tmps.getD 46 undef = .slice (some ⟨b0, o0, none⟩) la ca := hdeps { on := 24, ground := Ground.data } (by simp) rfl
      have q29 : x.tmps.getD 51 undef = .int .i64 (q : Nat) := hdeps { on := 29, ground := Ground.data } (by simp) rfl
      have q23 : x.tmps.getD 45 undef = .bool false := hdeps { on := 23, ground := Ground.guard } (by simp) rfl
      have e23 : (tw10_ops[23]?.bind fun x => x.dst) = some 45 := rfl
      have g23 := get_someR q23 (fun h => by cases h)
      simp only [Array.getD_eq_getD_getElem?] at q24 q29 q23
      clear hdeps
      have f0 : (0 : Int) ≤ (q : Int) := by have := hh.out; omega
      have f1 : (q : Int) < (la : Int) := by have := hh.out; omega
      refine wpOp_step ho (fun K hK => ?_)
      clear ho
      go_simp
      exact hK _ _ ⟨_, act_putD x hdef _ _, rfl, Below.refl _ _⟩
    | 31, ho =>
      have e : o = { dst := some 53, op := Op.load 5 (Operand.tmp 52), type := 5, pos := "outright.go:22", after := #[{ on := 30, ground := Ground.data }, { on := 23, ground := Ground.guard }], guard := some (23, false) } := (Option.some.inj ho).symm
      subst e
      have q30 : x.tmps.getD 52 undef = .pointer (some ⟨b0, o0 + q, none⟩) := hdeps { on := 30, ground := Ground.data } (by simp) rfl
      have q23 : x.tmps.getD 45 undef = .bool false := hdeps { on := 23, ground := Ground.guard } (by simp) rfl
      have e23 : (tw10_ops[23]?.bind fun x => x.dst) = some 45 := rfl
      have g23 := get_someR q23 (fun h => by cases h)
      simp only [Array.getD_eq_getD_getElem?] at q30 q23
      clear hdeps
      have m := cq w hB
      refine wpOp_step ho (fun K hK => ?_)
      clear ho
      go_simp
      exact hK _ _ ⟨_, act_putD x hdef _ _, rfl, Below.refl _ _⟩
    | 32, ho =>
      have e : o = { dst := some 54, op := Op.binOp BinOp.neq 5 (Operand.tmp 53) (Operand.const (Value.int IntKind.u8 10)) 5, type := 4, pos := "outright.go:22", after := #[{ on := 31, ground := Ground.data }, { on := 23, ground := Ground.guard }], guard := some (23, false) } := (Option.some.inj ho).symm
      subst e
      have q31 : x.tmps.getD 53 undef = .int .u8 10 := hdeps { on := 31, ground := Ground.data } (by simp) rfl
      have q23 : x.tmps.getD 45 undef = .bool false := hdeps { on := 23, ground := Ground.guard } (by simp) rfl
      have e23 : (tw10_ops[23]?.bind fun x => x.dst) = some 45 := rfl
      have g23 := get_someR q23 (fun h => by cases h)
      simp only [Array.getD_eq_getD_getElem?] at q31 q23
      clear hdeps
      refine wpOp_step ho (fun K hK => ?_)
      clear ho
      go_simp
      exact hK _ _ ⟨_, act_putD x hdef _ _, rfl, Below.refl _ _⟩
    | 33, ho =>
      have e : o = { dst := some 55, op := Op.pick (Operand.tmp 45) (Operand.const (Value.bool true)) (Operand.tmp 54), type := 4, pos := "outright.go:22", after := #[{ on := 23, ground := Ground.data }, { on := 32, ground := Ground.data }, { on := 12, ground := Ground.guard }], guard := some (12, true) } := (Option.some.inj ho).symm
      subst e
      have q23 : x.tmps.getD 45 undef = .bool false := hdeps { on := 23, ground := Ground.data } (by simp) rfl
      have q32 : x.tmps.getD 54 undef = .bool false := hdeps { on := 32, ground := Ground.data } (by simp) rfl
      have q12 : x.tmps.getD 34 undef = .bool true := hdeps { on := 12, ground := Ground.guard } (by simp) rfl
      have e12 : (tw10_ops[12]?.bind fun x => x.dst) = some 34 := rfl
      have g12 := get_someR q12 (fun h => by cases h)
      simp only [Array.getD_eq_getD_getElem?] at q23 q32 q12
      clear hdeps
      refine wpOp_step ho (fun K hK => ?_)
      clear ho
      go_simp
      exact hK _ _ ⟨_, act_putD x hdef _ _, rfl, Below.refl _ _⟩
    | 34, ho =>
      have e : o = { dst := some 56, op := Op.pick (Operand.tmp 34) (Operand.tmp 55) (Operand.const (Value.bool false)), type := 4, pos := "outright.go:22", after := #[{ on := 12, ground := Ground.data }, { on := 33, ground := Ground.data }, { on := 9, ground := Ground.guard }], guard := some (9, false) } := (Option.some.inj ho).symm
      subst e
      have q12 : x.tmps.getD 34 undef = .bool true := hdeps { on := 12, ground := Ground.data } (by simp) rfl
      have q33 : x.tmps.getD 55 undef = .bool false := hdeps { on := 33, ground := Ground.data } (by simp) rfl
      have q9 : x.tmps.getD 31 undef = .bool false := hdeps { on := 9, ground := Ground.guard } (by simp) rfl
      have e9 : (tw10_ops[9]?.bind fun x => x.dst) = some 31 := rfl
      have g9 := get_someR q9 (fun h => by cases h)
      simp only [Array.getD_eq_getD_getElem?] at q12 q33 q9
      clear hdeps
      refine wpOp_step ho (fun K hK => ?_)
      clear ho
      go_simp
      exact hK _ _ ⟨_, act_putD x hdef _ _, rfl, Below.refl _ _⟩
    | 35, ho =>
      have e : o = { dst := some 57, op := Op.pick (Operand.tmp 31) (Operand.const (Value.bool true)) (Operand.tmp 56), type := 4, pos := "outright.go:22", after := #[{ on := 9, ground := Ground.data }, { on := 34, ground := Ground.data }], guard := none } := (Option.some.inj ho).symm
      subst e
      have q9 : x.tmps.getD 31 undef = .bool false := hdeps { on := 9, ground := Ground.data } (by simp) rfl
      have q34 : x.tmps.getD 56 undef = .bool false := hdeps { on := 34, ground := Ground.data } (by simp) rfl
      simp only [Array.getD_eq_getD_getElem?] at q9 q34
      clear hdeps
      refine wpOp_step ho (fun K hK => ?_)
      clear ho
      go_simp
      exact hK _ _ ⟨_, act_putD x hdef _ _, rfl, Below.refl _ _⟩
    | k + 36, _ => omega
  · intro x w hB hdef hsz hs hv
    have hx := frame_sets x.tmps t0 hsz [22, 23, 24, 25, 26, 27, 28, 29, 30, 31, 32, 33, 34, 35, 36, 37, 38, 39, 40, 41, 42, 43, 44, 45, 46, 47, 48, 49, 50, 51, 52, 53, 54, 55, 56, 57] (fun s hn => hs s (fun j hj e => hn (tw10_list s (by rw [e]; exact hsl j hj))))
    have hq := hQ (fun d => x.tmps.getD d undef) w hB (hv 35 (by decide))
    obtain ⟨T, Df⟩ := x
    dsimp only at hx hdef hq
    subst hdef
    rw [← hx] at hq
    exact hq

abbrev tw15_mem (s : Nat) : Prop := s ∈ [71, 72, 73, 74, 75, 76, 77, 78, 79, 80, 81, 82, 83, 84, 85, 86, 87, 88, 89, 90]
theorem tw15_list (s : Nat) (h : tw15_mem s) : s ∈ [71, 72, 73, 74, 75, 76, 77, 78, 79, 80, 81, 82, 83, 84, 85, 86, 87, 88, 89, 90] := h
def tw15_ops : Array Oper :=
  #[{ dst := some 71, op := Op.move (Operand.tmp 6), type := 35, pos := "outright.go:30", after := #[], guard := none },
    { dst := some 72, op := Op.call { callee := Callee.value (Operand.func 21), args := #[Operand.tmp 71, Operand.const (Value.string { data := #[10] })], argTypes := #[35, 9] }, type := 9, pos := "outright.go:30", after := #[{ on := 0, ground := Ground.data }], guard := none },
    { dst := some 73, op := Op.move (Operand.tmp 0), type := 22, pos := "outright.go:30", after := #[], guard := none },
    { dst := some 74, op := Op.convert 22 9 (Operand.tmp 73), type := 9, pos := "outright.go:30", after := #[{ on := 2, ground := Ground.data }], guard := none },
    { dst := some 75, op := Op.binOp BinOp.neq 9 (Operand.tmp 72) (Operand.tmp 74) 9, type := 4, pos := "outright.go:30", after := #[{ on := 1, ground := Ground.data }, { on := 3, ground := Ground.data }], guard := none },
    { dst := some 76, op := Op.move (Operand.tmp 75), type := 4, pos := "outright.go:30", after := #[{ on := 4, ground := Ground.data }, { on := 1, ground := Ground.chain }], guard := none },
    { dst := some 77, op := Op.move (Operand.tmp 0), type := 22, pos := "outright.go:30", after := #[{ on := 5, ground := Ground.guard }], guard := some (5, false) },
    { dst := some 78, op := Op.move (Operand.tmp 5), type := 23, pos := "outright.go:30", after := #[{ on := 5, ground := Ground.guard }], guard := some (5, false) },
    { dst := some 79, op := Op.call { callee := Callee.value (Operand.func 15), args := #[Operand.tmp 77, Operand.tmp 78, Operand.const (Value.int IntKind.i64 0)], argTypes := #[22, 23, 3] }, type := 9, pos := "outright.go:30", after := #[{ on := 6, ground := Ground.data }, { on := 7, ground := Ground.data }, { on := 5, ground := Ground.chain }, { on := 5, ground := Ground.guard }], guard := some (5, false) },
    { dst := some 80, op := Op.binOp BinOp.neq 9 (Operand.tmp 79) (Operand.const (Value.string { data := #[] })) 9, type := 4, pos := "outright.go:30", after := #[{ on := 8, ground := Ground.data }, { on := 5, ground := Ground.guard }], guard := some (5, false) },
    { dst := some 81, op := Op.pick (Operand.tmp 76) (Operand.const (Value.bool true)) (Operand.tmp 80), type := 4, pos := "outright.go:30", after := #[{ on := 5, ground := Ground.data }, { on := 9, ground := Ground.data }], guard := none },
    { dst := some 82, op := Op.move (Operand.tmp 81), type := 4, pos := "outright.go:30", after := #[{ on := 10, ground := Ground.data }, { on := 8, ground := Ground.chain }], guard := none },
    { dst := some 83, op := Op.move (Operand.tmp 0), type := 22, pos := "outright.go:30", after := #[{ on := 11, ground := Ground.guard }], guard := some (11, false) },
    { dst := some 84, op := Op.move (Operand.tmp 5), type := 23, pos := "outright.go:30", after := #[{ on := 11, ground := Ground.guard }], guard := some (11, false) },
    { dst := some 85, op := Op.move (Operand.tmp 5), type := 23, pos := "outright.go:30", after := #[{ on := 11, ground := Ground.guard }], guard := some (11, false) },
    { dst := some 86, op := Op.call { callee := Callee.builtin Builtin.len, args := #[Operand.tmp 85], argTypes := #[23] }, type := 3, pos := "outright.go:30", after := #[{ on := 14, ground := Ground.data }, { on := 11, ground := Ground.guard }], guard := some (11, false) },
    { dst := some 87, op := Op.binOp BinOp.add 3 (Operand.tmp 86) (Operand.const (Value.int IntKind.i64 1)) 3, type := 3, pos := "outright.go:30", after := #[{ on := 15, ground := Ground.data }, { on := 11, ground := Ground.guard }], guard := some (11, false) },
    { dst := some 88, op := Op.call { callee := Callee.value (Operand.func 15), args := #[Operand.tmp 83, Operand.tmp 84, Operand.tmp 87], argTypes := #[22, 23, 3] }, type := 9, pos := "outright.go:30", after := #[{ on := 12, ground := Ground.data }, { on := 13, ground := Ground.data }, { on := 16, ground := Ground.data }, { on := 11, ground := Ground.chain }, { on := 11, ground := Ground.guard }], guard := some (11, false) },
    { dst := some 89, op := Op.binOp BinOp.neq 9 (Operand.tmp 88) (Operand.const (Value.string { data := #[] })) 9, type := 4, pos := "outright.go:30", after := #[{ on := 17, ground := Ground.data }, { on := 11, ground := Ground.guard }], guard := some (11, false) },
    { dst := some 90, op := Op.pick (Operand.tmp 82) (Operand.const (Value.bool true)) (Operand.tmp 89), type := 4, pos := "outright.go:30", after := #[{ on := 11, ground := Ground.data }, { on := 18, ground := Ground.data }], guard := none }]
def tw15_slot : Nat → Nat
  | 0 => 71
  | 1 => 72
  | 2 => 73
  | 3 => 74
  | 4 => 75
  | 5 => 76
  | 6 => 77
  | 7 => 78
  | 8 => 79
  | 9 => 80
  | 10 => 81
  | 11 => 82
  | 12 => 83
  | 13 => 84
  | 14 => 85
  | 15 => 86
  | 16 => 87
  | 17 => 88
  | 18 => 89
  | 19 => 90
  | j + 20 => 1129 + j
set_option maxRecDepth 100000 in
theorem tw15_inj (i j : Nat) (hi : i < 20) (hj : j < 20) (h : tw15_slot i = tw15_slot j) : i = j := by
  have key : ∀ i j : Fin 20, tw15_slot i.val = tw15_slot j.val → i = j := by decide
  exact Fin.mk.inj (key ⟨i, hi⟩ ⟨j, hj⟩ h)
def tw15_val (A AL : Option Addr) (la ca CL bl ol n Cl : Nat) (S : ByteArray) : Nat → Value → World → Prop
  | 0, v, w => v = .slice AL n CL
  | 1, v, w => v = .string S
  | 2, v, w => v = .slice A la ca
  | 3, v, w => v = .string S
  | 4, v, w => v = .bool false
  | 5, v, w => v = .bool false
  | 6, v, w => v = .slice A la ca
  | 7, v, w => v = .slice (some ⟨bl, ol, none⟩) n Cl
  | 8, v, w => v = .string ⟨#[]⟩
  | 9, v, w => v = .bool false
  | 10, v, w => v = .bool false
  | 11, v, w => v = .bool false
  | 12, v, w => v = .slice A la ca
  | 13, v, w => v = .slice (some ⟨bl, ol, none⟩) n Cl
  | 14, v, w => v = .slice (some ⟨bl, ol, none⟩) n Cl
  | 15, v, w => v = .int .i64 (n : Nat)
  | 16, v, w => v = .int .i64 ((n : Int) + 1)
  | 17, v, w => v = .string ⟨#[]⟩
  | 18, v, w => v = .bool false
  | 19, v, w => v = .bool false
  | _, _, _ => True
theorem tw15_below (A AL : Option Addr) (la ca CL bl ol n Cl : Nat) (S : ByteArray) (w w' : World) (hb : Below w.heap.size w w') : ∀ j v, tw15_val A AL la ca CL bl ol n Cl S j v w → tw15_val A AL la ca CL bl ol n Cl S j v w' := by
  intro j v h
  match j, h with
  | 0, h => exact h
  | 1, h => exact h
  | 2, h => exact h
  | 3, h => exact h
  | 4, h => exact h
  | 5, h => exact h
  | 6, h => exact h
  | 7, h => exact h
  | 8, h => exact h
  | 9, h => exact h
  | 10, h => exact h
  | 11, h => exact h
  | 12, h => exact h
  | 13, h => exact h
  | 14, h => exact h
  | 15, h => exact h
  | 16, h => exact h
  | 17, h => exact h
  | 18, h => exact h
  | 19, h => exact h
  | _ + 20, h => exact h

set_option maxRecDepth 100000 in
set_option maxHeartbeats 10000000 in
theorem tw15 (A AL : Option Addr) (la ca CL bl ol n Cl : Nat) (S : ByteArray) (Q : Exit → Act → World → Prop) (t0 : Array Value) (w0 : World) (ht : t0.size = 129)
    (hs0 : t0.getD 0 undef = .slice A la ca) (hs5 : t0.getD 5 undef = .slice (some ⟨bl, ol, none⟩) n Cl) (hs6 : t0.getD 6 undef = .slice AL n CL)
    (hh : Hid (n ≤ 100000))
    (cv : ∀ W, Below w0.heap.size w0 W → (convert 22 9 (.slice A la ca)).run Try.prog W = .ok (.string S) W)
    (c1 : ∀ W, Below w0.heap.size w0 W → Calls Try.prog 21 #[.slice AL n CL, .string ⟨#[10]⟩] W fun e w' => e = .returned (.string S) ∧ Below W.heap.size W w')
    (c2 : ∀ W, Below w0.heap.size w0 W → Calls Try.prog 15 #[.slice A la ca, .slice (some ⟨bl, ol, none⟩) n Cl, .int .i64 0] W fun e w' => e = .returned (.string ⟨#[]⟩) ∧ Below W.heap.size W w')
    (c3 : ∀ W, Below w0.heap.size w0 W → Calls Try.prog 15 #[.slice A la ca, .slice (some ⟨bl, ol, none⟩) n Cl, .int .i64 ((n : Int) + 1)] W fun e w' => e = .returned (.string ⟨#[]⟩) ∧ Below W.heap.size W w')
    (hQ : ∀ (vs : Nat → Value) (w : World), Below w0.heap.size w0 w → (vs 90 = .bool false) → Q .normal { tmps := [71, 72, 73, 74, 75, 76, 77, 78, 79, 80, 81, 82, 83, 84, 85, 86, 87, 88, 89, 90].foldl (fun y d => y.setIfInBounds d (vs d)) t0, defers := [] } w) :
    (Code.region 15 tw15_ops true).wp Try.prog Q { tmps := t0, defers := [] } w0 := by
  have hsl : ∀ j, j < 20 → tw15_mem (tw15_slot j) := by
    intro j hj
    match j, hj with
    | 0, _ => exact (by decide : tw15_mem 71)
    | 1, _ => exact (by decide : tw15_mem 72)
    | 2, _ => exact (by decide : tw15_mem 73)
    | 3, _ => exact (by decide : tw15_mem 74)
    | 4, _ => exact (by decide : tw15_mem 75)
    | 5, _ => exact (by decide : tw15_mem 76)
    | 6, _ => exact (by decide : tw15_mem 77)
    | 7, _ => exact (by decide : tw15_mem 78)
    | 8, _ => exact (by decide : tw15_mem 79)
    | 9, _ => exact (by decide : tw15_mem 80)
    | 10, _ => exact (by decide : tw15_mem 81)
    | 11, _ => exact (by decide : tw15_mem 82)
    | 12, _ => exact (by decide : tw15_mem 83)
    | 13, _ => exact (by decide : tw15_mem 84)
    | 14, _ => exact (by decide : tw15_mem 85)
    | 15, _ => exact (by decide : tw15_mem 86)
    | 16, _ => exact (by decide : tw15_mem 87)
    | 17, _ => exact (by decide : tw15_mem 88)
    | 18, _ => exact (by decide : tw15_mem 89)
    | 19, _ => exact (by decide : tw15_mem 90)
    | k + 20, hj => omega
  refine wp_region_inv (by kernel_rfl) tw15_slot (tw15_val A AL la ca CL bl ol n Cl S) t0 w0 ?_ ?_ ?_ (tw15_below A AL la ca CL bl ol n Cl S) ?_ ?_
  · intro j o ho
    have hj : j < 20 := (Array.getElem?_eq_some_iff.1 ho).1
    rw [ht]
    match j, ho with
    | 0, ho => cases ho; exact ⟨rfl, by decide⟩
    | 1, ho => cases ho; exact ⟨rfl, by decide⟩
    | 2, ho => cases ho; exact ⟨rfl, by decide⟩
    | 3, ho => cases ho; exact ⟨rfl, by decide⟩
    | 4, ho => cases ho; exact ⟨rfl, by decide⟩
    | 5, ho => cases ho; exact ⟨rfl, by decide⟩
    | 6, ho => cases ho; exact ⟨rfl, by decide⟩
    | 7, ho => cases ho; exact ⟨rfl, by decide⟩
    | 8, ho => cases ho; exact ⟨rfl, by decide⟩
    | 9, ho => cases ho; exact ⟨rfl, by decide⟩
    | 10, ho => cases ho; exact ⟨rfl, by decide⟩
    | 11, ho => cases ho; exact ⟨rfl, by decide⟩
    | 12, ho => cases ho; exact ⟨rfl, by decide⟩
    | 13, ho => cases ho; exact ⟨rfl, by decide⟩
    | 14, ho => cases ho; exact ⟨rfl, by decide⟩
    | 15, ho => cases ho; exact ⟨rfl, by decide⟩
    | 16, ho => cases ho; exact ⟨rfl, by decide⟩
    | 17, ho => cases ho; exact ⟨rfl, by decide⟩
    | 18, ho => cases ho; exact ⟨rfl, by decide⟩
    | 19, ho => cases ho; exact ⟨rfl, by decide⟩
    | k + 20, _ => omega
  · intro i j hi hj h
    exact tw15_inj i j hi hj h
  · intro j o ho
    have hj : j < 20 := (Array.getElem?_eq_some_iff.1 ho).1
    match j, ho with
    | 0, ho => cases ho; decide
    | 1, ho => cases ho; decide
    | 2, ho => cases ho; decide
    | 3, ho => cases ho; decide
    | 4, ho => cases ho; decide
    | 5, ho => cases ho; decide
    | 6, ho => cases ho; decide
    | 7, ho => cases ho; decide
    | 8, ho => cases ho; decide
    | 9, ho => cases ho; decide
    | 10, ho => cases ho; decide
    | 11, ho => cases ho; decide
    | 12, ho => cases ho; decide
    | 13, ho => cases ho; decide
    | 14, ho => cases ho; decide
    | 15, ho => cases ho; decide
    | 16, ho => cases ho; decide
    | 17, ho => cases ho; decide
    | 18, ho => cases ho; decide
    | 19, ho => cases ho; decide
    | k + 20, _ => omega
  · intro j o ho x w hB hdef hsz hs hdeps
    have hs' : ∀ s, ¬ tw15_mem s → x.tmps.getD s undef = t0.getD s undef := fun s hn => hs s (fun j hj e => hn (by rw [e]; exact hsl j hj))
    have u0 := (hs' 0 (by decide)).trans hs0
    have u5 := (hs' 5 (by decide)).trans hs5
    have u6 := (hs' 6 (by decide)).trans hs6
    have hj : j < 20 := (Array.getElem?_eq_some_iff.1 ho).1
    have hns : Hid (∀ s, s < 129 → x.tmps[s]? = some (x.tmps.getD s undef)) := fun s h => by rw [Array.getD_eq_getD_getElem?, Array.getElem?_eq_getElem (by omega)]; rfl
    clear hs hs' hsl hsz ht hQ hs0 hs5 hs6
    simp only [Array.getD_eq_getD_getElem?] at u0 u5 u6
    match j, ho with
    | 0, ho =>
      have e : o = { dst := some 71, op := Op.move (Operand.tmp 6), type := 35, pos := "outright.go:30", after := #[], guard := none } := (Option.some.inj ho).symm
      subst e
      clear hdeps
      refine wpOp_step ho (fun K hK => ?_)
      clear ho
      go_simp
      exact hK _ _ ⟨_, act_putD x hdef _ _, rfl, Below.refl _ _⟩
    | 1, ho =>
      have e : o = { dst := some 72, op := Op.call { callee := Callee.value (Operand.func 21), args := #[Operand.tmp 71, Operand.const (Value.string { data := #[10] })], argTypes := #[35, 9] }, type := 9, pos := "outright.go:30", after := #[{ on := 0, ground := Ground.data }], guard := none } := (Option.some.inj ho).symm
      subst e
      have q0 : x.tmps.getD 71 undef = .slice AL n CL := hdeps { on := 0, ground := Ground.data } (by simp) rfl
      simp only [Array.getD_eq_getD_getElem?] at q0
      clear hdeps
      refine wpOp_step ho (fun K hK => ?_)
      clear ho
      go_simp
      refine (c1 w hB).mono ?_
      rintro e w' ⟨rfl, hb⟩
      exact hK _ _ ⟨_, act_putD x hdef _ _, rfl, hb⟩
    | 2, ho =>
      have e : o = { dst := some 73, op := Op.move (Operand.tmp 0), type := 22, pos := "outright.go:30", after := #[], guard := none } := (Option.some.inj ho).symm
      subst e
      clear hdeps
      refine wpOp_step ho (fun K hK => ?_)
      clear ho
      go_simp
      exact hK _ _ ⟨_, act_putD x hdef _ _, rfl, Below.refl _ _⟩
    | 3, ho =>
      have e : o = { dst := some 74, op := Op.convert 22 9 (Operand.tmp 73), type := 9, pos := "outright.go:30", after := #[{ on := 2, ground := Ground.data }], guard := none } := (Option.some.inj ho).symm
      subst e
      have q2 : x.tmps.getD 73 undef = .slice A la ca := hdeps { on := 2, ground := Ground.data } (by simp) rfl
      simp only [Array.getD_eq_getD_getElem?] at q2
      clear hdeps
      have m := cv w hB
      refine wpOp_step ho (fun K hK => ?_)
      clear ho
      go_simp
      exact hK _ _ ⟨_, act_putD x hdef _ _, rfl, Below.refl _ _⟩
    | 4, ho =>
      have e : o = { dst := some 75, op := Op.binOp BinOp.neq 9 (Operand.tmp 72) (Operand.tmp 74) 9, type := 4, pos := "outright.go:30", after := #[{ on := 1, ground := Ground.data }, { on := 3, ground := Ground.data }], guard := none } := (Option.some.inj ho).symm
      subst e
      have q1 : x.tmps.getD 72 undef = .string S := hdeps { on := 1, ground := Ground.data } (by simp) rfl
      have q3 : x.tmps.getD 74 undef = .string S := hdeps { on := 3, ground := Ground.data } (by simp) rfl
      simp only [Array.getD_eq_getD_getElem?] at q1 q3
      clear hdeps
      refine wpOp_step ho (fun K hK => ?_)
      clear ho
      go_simp
      exact hK _ _ ⟨_, act_putD x hdef _ _, rfl, Below.refl _ _⟩
    | 5, ho =>
      have e : o = { dst := some 76, op := Op.move (Operand.tmp 75), type := 4, pos := "outright.go:30", after := #[{ on := 4, ground := Ground.data }, { on := 1, ground := Ground.chain }], guard := none } := (Option.some.inj ho).symm
      subst e
      have q4 : x.tmps.getD 75 undef = .bool false := hdeps { on := 4, ground := Ground.data } (by simp) rfl
      simp only [Array.getD_eq_getD_getElem?] at q4
      clear hdeps
      refine wpOp_step ho (fun K hK => ?_)
      clear ho
      go_simp
      exact hK _ _ ⟨_, act_putD x hdef _ _, rfl, Below.refl _ _⟩
    | 6, ho =>
      have e : o = { dst := some 77, op := Op.move (Operand.tmp 0), type := 22, pos := "outright.go:30", after := #[{ on := 5, ground := Ground.guard }], guard := some (5, false) } := (Option.some.inj ho).symm
      subst e
      have q5 : x.tmps.getD 76 undef = .bool false := hdeps { on := 5, ground := Ground.guard } (by simp) rfl
      have e5 : (tw15_ops[5]?.bind fun x => x.dst) = some 76 := rfl
      have g5 := get_someR q5 (fun h => by cases h)
      simp only [Array.getD_eq_getD_getElem?] at q5
      clear hdeps
      refine wpOp_step ho (fun K hK => ?_)
      clear ho
      go_simp
      exact hK _ _ ⟨_, act_putD x hdef _ _, rfl, Below.refl _ _⟩
    | 7, ho =>
      have e : o = { dst := some 78, op := Op.move (Operand.tmp 5), type := 23, pos := "outright.go:30", after := #[{ on := 5, ground := Ground.guard }], guard := some (5, false) } := (Option.some.inj ho).symm
      subst e
      have q5 : x.tmps.getD 76 undef = .bool false := hdeps { on := 5, ground := Ground.guard } (by simp) rfl
      have e5 : (tw15_ops[5]?.bind fun x => x.dst) = some 76 := rfl
      have g5 := get_someR q5 (fun h => by cases h)
      simp only [Array.getD_eq_getD_getElem?] at q5
      clear hdeps
      refine wpOp_step ho (fun K hK => ?_)
      clear ho
      go_simp
      exact hK _ _ ⟨_, act_putD x hdef _ _, rfl, Below.refl _ _⟩
    | 8, ho =>
      have e : o = { dst := some 79, op := Op.call { callee := Callee.value (Operand.func 15), args := #[Operand.tmp 77, Operand.tmp 78, Operand.const (Value.int IntKind.i64 0)], argTypes := #[22, 23, 3] }, type := 9, pos := "outright.go:30", after := #[{ on := 6, ground := Ground.data }, { on := 7, ground := Ground.data }, { on := 5, ground := Ground.chain }, { on := 5, ground := Ground.guard }], guard := some (5, false) } := (Option.some.inj ho).symm
      subst e
      have q6 : x.tmps.getD 77 undef = .slice A la ca := hdeps { on := 6, ground := Ground.data } (by simp) rfl
      have q7 : x.tmps.getD 78 undef = .slice (some ⟨bl, ol, none⟩) n Cl := hdeps { on := 7, ground := Ground.data } (by simp) rfl
      have q5 : x.tmps.getD 76 undef = .bool false := hdeps { on := 5, ground := Ground.guard } (by simp) rfl
      have e5 : (tw15_ops[5]?.bind fun x => x.dst) = some 76 := rfl
      have g5 := get_someR q5 (fun h => by cases h)
      simp only [Array.getD_eq_getD_getElem?] at q6 q7 q5
      clear hdeps
      refine wpOp_step ho (fun K hK => ?_)
      clear ho
      go_simp
      refine (c2 w hB).mono ?_
      rintro e w' ⟨rfl, hb⟩
      exact hK _ _ ⟨_, act_putD x hdef _ _, rfl, hb⟩
    | 9, ho =>
      have e : o = { dst := some 80, op := Op.binOp BinOp.neq 9 (Operand.tmp 79) (Operand.const (Value.string { data := #[] })) 9, type := 4, pos := "outright.go:30", after := #[{ on := 8, ground := Ground.data }, { on := 5, ground := Ground.guard }], guard := some (5, false) } := (Option.some.inj ho).symm
      subst e
      have q8 : x.tmps.getD 79 undef = .string ⟨#[]⟩ := hdeps { on := 8, ground := Ground.data } (by simp) rfl
      have q5 : x.tmps.getD 76 undef = .bool false := hdeps { on := 5, ground := Ground.guard } (by simp) rfl
      have e5 : (tw15_ops[5]?.bind fun x => x.dst) = some 76 := rfl
      have g5 := get_someR q5 (fun h => by cases h)
      simp only [Array.getD_eq_getD_getElem?] at q8 q5
      clear hdeps
      refine wpOp_step ho (fun K hK => ?_)
      clear ho
      go_simp
      exact hK _ _ ⟨_, act_putD x hdef _ _, rfl, Below.refl _ _⟩
    | 10, ho =>
      have e : o = { dst := some 81, op := Op.pick (Operand.tmp 76) (Operand.const (Value.bool true)) (Operand.tmp 80), type := 4, pos := "outright.go:30", after := #[{ on := 5, ground := Ground.data }, { on := 9, ground := Ground.data }], guard := none } := (Option.some.inj ho).symm
      subst e
      have q5 : x.tmps.getD 76 undef = .bool false := hdeps { on := 5, ground := Ground.data } (by simp) rfl
      have q9 : x.tmps.getD 80 undef = .bool false := hdeps { on := 9, ground := Ground.data } (by simp) rfl
      simp only [Array.getD_eq_getD_getElem?] at q5 q9
      clear hdeps
      refine wpOp_step ho (fun K hK => ?_)
      clear ho
      go_simp
      exact hK _ _ ⟨_, act_putD x hdef _ _, rfl, Below.refl _ _⟩
    | 11, ho =>
      have e : o = { dst := some 82, op := Op.move (Operand.tmp 81), type := 4, pos := "outright.go:30", after := #[{ on := 10, ground := Ground.data }, { on := 8, ground := Ground.chain }], guard := none } := (Option.some.inj ho).symm
      subst e
      have q10 : x.tmps.getD 81 undef = .bool false := hdeps { on := 10, ground := Ground.data } (by simp) rfl
      simp only [Array.getD_eq_getD_getElem?] at q10
      clear hdeps
      refine wpOp_step ho (fun K hK => ?_)
      clear ho
      go_simp
      exact hK _ _ ⟨_, act_putD x hdef _ _, rfl, Below.refl _ _⟩
    | 12, ho =>
      have e : o = { dst := some 83, op := Op.move (Operand.tmp 0), type := 22, pos := "outright.go:30", after := #[{ on := 11, ground := Ground.guard }], guard := some (11, false) } := (Option.some.inj ho).symm
      subst e
      have q11 : x.tmps.getD 82 undef = .bool false := hdeps { on := 11, ground := Ground.guard } (by simp) rfl
      have e11 : (tw15_ops[11]?.bind fun x => x.dst) = some 82 := rfl
      have g11 := get_someR q11 (fun h => by cases h)
      simp only [Array.getD_eq_getD_getElem?] at q11
      clear hdeps
      refine wpOp_step ho (fun K hK => ?_)
      clear ho
      go_simp
      exact hK _ _ ⟨_, act_putD x hdef _ _, rfl, Below.refl _ _⟩
    | 13, ho =>
      have e : o = { dst := some 84, op := Op.move (Operand.tmp 5), type := 23, pos := "outright.go:30", after := #[{ on := 11, ground := Ground.guard }], guard := some (11, false) } := (Option.some.inj ho).symm
      subst e
      have q11 : x.tmps.getD 82 undef = .bool false := hdeps { on := 11, ground := Ground.guard } (by simp) rfl
      have e11 : (tw15_ops[11]?.bind fun x => x.dst) = some 82 := rfl
      have g11 := get_someR q11 (fun h => by cases h)
      simp only [Array.getD_eq_getD_getElem?] at q11
      clear hdeps
      refine wpOp_step ho (fun K hK => ?_)
      clear ho
      go_simp
      exact hK _ _ ⟨_, act_putD x hdef _ _, rfl, Below.refl _ _⟩
    | 14, ho =>
      have e : o = { dst := some 85, op := Op.move (Operand.tmp 5), type := 23, pos := "outright.go:30", after := #[{ on := 11, ground := Ground.guard }], guard := some (11, false) } := (Option.some.inj ho).symm
      subst e
      have q11 : x.tmps.getD 82 undef = .bool false := hdeps { on := 11, ground := Ground.guard } (by simp) rfl
      have e11 : (tw15_ops[11]?.bind fun x => x.dst) = some 82 := rfl
      have g11 := get_someR q11 (fun h => by cases h)
      simp only [Array.getD_eq_getD_getElem?] at q11
      clear hdeps
      refine wpOp_step ho (fun K hK => ?_)
      clear ho
      go_simp
      exact hK _ _ ⟨_, act_putD x hdef _ _, rfl, Below.refl _ _⟩
    | 15, ho =>
      have e : o = { dst := some 86, op := Op.call { callee := Callee.builtin Builtin.len, args := #[Operand.tmp 85], argTypes := #[23] }, type := 3, pos := "outright.go:30", after := #[{ on := 14, ground := Ground.data }, { on := 11, ground := Ground.guard }], guard := some (11, false) } := (Option.some.inj ho).symm
      subst e
      have q14 : x.tmps.getD 85 undef = .slice (some ⟨bl, ol, none⟩) n Cl := hdeps { on := 14, ground := Ground.data } (by simp) rfl
      have q11 : x.tmps.getD 82 undef = .bool false := hdeps { on := 11, ground := Ground.guard } (by simp) rfl
      have e11 : (tw15_ops[11]?.bind fun x => x.dst) = some 82 := rfl
      have g11 := get_someR q11 (fun h => by cases h)
      simp only [Array.getD_eq_getD_getElem?] at q14 q11
      clear hdeps
      refine wpOp_step ho (fun K hK => ?_)
      clear ho
      go_simp
      exact hK _ _ ⟨_, act_putD x hdef _ _, rfl, Below.refl _ _⟩
    | 16, ho =>
      have e : o = { dst := some 87, op := Op.binOp BinOp.add 3 (Operand.tmp 86) (Operand.const (Value.int IntKind.i64 1)) 3, type := 3, pos := "outright.go:30", after := #[{ on := 15, ground := Ground.data }, { on := 11, ground := Ground.guard }], guard := some (11, false) } := (Option.some.inj ho).symm
      subst e
      have q15 : x.tmps.getD 86 undef = .int .i64 (n : Nat) := hdeps { on := 15, ground := Ground.data } (by simp) rfl
      have q11 : x.tmps.getD 82 undef = .bool false := hdeps { on := 11, ground := Ground.guard } (by simp) rfl
      have e11 : (tw15_ops[11]?.bind fun x => x.dst) = some 82 := rfl
      have g11 := get_someR q11 (fun h => by cases h)
      simp only [Array.getD_eq_getD_getElem?] at q15 q11
      clear hdeps
      have f0 : (n : Int) + 1 ≤ 9223372036854775807 := by have := hh.out; omega
      have f1 : (0 : Int) ≤ (n : Int) := by have := hh.out; omega
      refine wpOp_step ho (fun K hK => ?_)
      clear ho
      go_simp
      rw [IntWalk.i64_in _ (by have := hh.out; omega)]
      exact hK _ _ ⟨_, act_putD x hdef _ _, rfl, Below.refl _ _⟩
    | 17, ho =>
      have e : o = { dst := some 88, op := Op.call { callee := Callee.value (Operand.func 15), args := #[Operand.tmp 83, Operand.tmp 84, Operand.tmp 87], argTypes := #[22, 23, 3] }, type := 9, pos := "outright.go:30", after := #[{ on := 12, ground := Ground.data }, { on := 13, ground := Ground.data }, { on := 16, ground := Ground.data }, { on := 11, ground := Ground.chain }, { on := 11, ground := Ground.guard }], guard := some (11, false) } := (Option.some.inj ho).symm
      subst e
      have q12 : x.tmps.getD 83 undef = .slice A la ca := hdeps { on := 12, ground := Ground.data } (by simp) rfl
      have q13 : x.tmps.getD 84 undef = .slice (some ⟨bl, ol, none⟩) n Cl := hdeps { on := 13, ground := Ground.data } (by simp) rfl
      have q16 : x.tmps.getD 87 undef = .int .i64 ((n : Int) + 1) := hdeps { on := 16, ground := Ground.data } (by simp) rfl
      have q11 : x.tmps.getD 82 undef = .bool false := hdeps { on := 11, ground := Ground.guard } (by simp) rfl
      have e11 : (tw15_ops[11]?.bind fun x => x.dst) = some 82 := rfl
      have g11 := get_someR q11 (fun h => by cases h)
      simp only [Array.getD_eq_getD_getElem?] at q12 q13 q16 q11
      clear hdeps
      refine wpOp_step ho (fun K hK => ?_)
      clear ho
      go_simp
      refine (c3 w hB).mono ?_
      rintro e w' ⟨rfl, hb⟩
      exact hK _ _ ⟨_, act_putD x hdef _ _, rfl, hb⟩
    | 18, ho =>
      have e : o = { dst := some 89, op := Op.binOp BinOp.neq 9 (Operand.tmp 88) (Operand.const (Value.string { data := #[] })) 9, type := 4, pos := "outright.go:30", after := #[{ on := 17, ground := Ground.data }, { on := 11, ground := Ground.guard }], guard := some (11, false) } := (Option.some.inj ho).symm
      subst e
      have q17 : x.tmps.getD 88 undef = .string ⟨#[]⟩ := hdeps { on := 17, ground := Ground.data } (by simp) rfl
      have q11 : x.tmps.getD 82 undef = .bool false := hdeps { on := 11, ground := Ground.guard } (by simp) rfl
      have e11 : (tw15_ops[11]?.bind fun x => x.dst) = some 82 := rfl
      have g11 := get_someR q11 (fun h => by cases h)
      simp only [Array.getD_eq_getD_getElem?] at q17 q11
      clear hdeps
      refine wpOp_step ho (fun K hK => ?_)
      clear ho
      go_simp
      exact hK _ _ ⟨_, act_putD x hdef _ _, rfl, Below.refl _ _⟩
    | 19, ho =>
      have e : o = { dst := some 90, op := Op.pick (Operand.tmp 82) (Operand.const (Value.bool true)) (Operand.tmp 89), type := 4, pos := "outright.go:30", after := #[{ on := 11, ground := Ground.data }, { on := 18, ground := Ground.data }], guard := none } := (Option.some.inj ho).symm
      subst e
      have q11 : x.tmps.getD 82 undef = .bool false := hdeps { on := 11, ground := Ground.data } (by simp) rfl
      have q18 : x.tmps.getD 89 undef = .bool false := hdeps { on := 18, ground := Ground.data } (by simp) rfl
      simp only [Array.getD_eq_getD_getElem?] at q11 q18
      clear hdeps
      refine wpOp_step ho (fun K hK => ?_)
      clear ho
      go_simp
      exact hK _ _ ⟨_, act_putD x hdef _ _, rfl, Below.refl _ _⟩
    | k + 20, _ => omega
  · intro x w hB hdef hsz hs hv
    have hx := frame_sets x.tmps t0 hsz [71, 72, 73, 74, 75, 76, 77, 78, 79, 80, 81, 82, 83, 84, 85, 86, 87, 88, 89, 90] (fun s hn => hs s (fun j hj e => hn (tw15_list s (by rw [e]; exact hsl j hj))))
    have hq := hQ (fun d => x.tmps.getD d undef) w hB (hv 19 (by decide))
    obtain ⟨T, Df⟩ := x
    dsimp only at hx hdef hq
    subst hdef
    rw [← hx] at hq
    exact hq

end Go.Proofs.Yteanibapabafnaa
