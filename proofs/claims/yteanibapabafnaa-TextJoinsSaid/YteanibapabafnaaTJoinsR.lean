/-
  TextJoins' regions that draw their order (written by tools/gen-tjoins.py).
-/
import Derived.Test.YteanibapabafnaaRelM
namespace Go.Proofs.Yteanibapabafnaa
open Go.RowKit
set_option linter.unusedVariables false
set_option linter.unusedSimpArgs false

abbrev tj12_mem (s : Nat) : Prop := s ∈ [48, 49, 50, 51, 52, 53, 54, 55, 56, 57, 58, 59, 60, 61, 62, 63, 64, 65, 66, 67, 68, 69, 70, 71, 72, 73, 74, 75]
theorem tj12_list (s : Nat) (h : tj12_mem s) : s ∈ [48, 49, 50, 51, 52, 53, 54, 55, 56, 57, 58, 59, 60, 61, 62, 63, 64, 65, 66, 67, 68, 69, 70, 71, 72, 73, 74, 75] := h
def tj12_ops : Array Oper :=
  #[{ dst := some 48, op := Op.move (Operand.tmp 11), type := 3, pos := "outright.go:54", after := #[], guard := none },
    { dst := some 49, op := Op.move (Operand.tmp 8), type := 23, pos := "outright.go:54", after := #[], guard := none },
    { dst := some 50, op := Op.call { callee := Callee.builtin Builtin.len, args := #[Operand.tmp 49], argTypes := #[23] }, type := 3, pos := "outright.go:54", after := #[{ on := 1, ground := Ground.data }], guard := none },
    { dst := some 51, op := Op.binOp BinOp.lss 3 (Operand.tmp 48) (Operand.tmp 50) 3, type := 4, pos := "outright.go:54", after := #[{ on := 0, ground := Ground.data }, { on := 2, ground := Ground.data }], guard := none },
    { dst := some 52, op := Op.move (Operand.tmp 51), type := 4, pos := "outright.go:54", after := #[{ on := 3, ground := Ground.data }], guard := none },
    { dst := some 53, op := Op.move (Operand.tmp 10), type := 23, pos := "outright.go:54", after := #[{ on := 4, ground := Ground.guard }], guard := some (4, true) },
    { dst := some 54, op := Op.move (Operand.tmp 11), type := 3, pos := "outright.go:54", after := #[{ on := 4, ground := Ground.guard }], guard := some (4, true) },
    { dst := some 55, op := Op.indexAddr 23 (Operand.tmp 53) (Operand.tmp 54), type := 0, pos := "outright.go:54", after := #[{ on := 5, ground := Ground.data }, { on := 6, ground := Ground.data }, { on := 4, ground := Ground.guard }], guard := some (4, true) },
    { dst := some 56, op := Op.load 3 (Operand.tmp 55), type := 3, pos := "outright.go:54", after := #[{ on := 7, ground := Ground.data }, { on := 4, ground := Ground.guard }], guard := some (4, true) },
    { dst := some 57, op := Op.move (Operand.tmp 8), type := 23, pos := "outright.go:54", after := #[{ on := 4, ground := Ground.guard }], guard := some (4, true) },
    { dst := some 58, op := Op.move (Operand.tmp 11), type := 3, pos := "outright.go:54", after := #[{ on := 4, ground := Ground.guard }], guard := some (4, true) },
    { dst := some 59, op := Op.indexAddr 23 (Operand.tmp 57) (Operand.tmp 58), type := 0, pos := "outright.go:54", after := #[{ on := 9, ground := Ground.data }, { on := 10, ground := Ground.data }, { on := 4, ground := Ground.guard }], guard := some (4, true) },
    { dst := some 60, op := Op.load 3 (Operand.tmp 59), type := 3, pos := "outright.go:54", after := #[{ on := 11, ground := Ground.data }, { on := 4, ground := Ground.guard }], guard := some (4, true) },
    { dst := some 61, op := Op.binOp BinOp.neq 3 (Operand.tmp 56) (Operand.tmp 60) 3, type := 4, pos := "outright.go:54", after := #[{ on := 8, ground := Ground.data }, { on := 12, ground := Ground.data }, { on := 4, ground := Ground.guard }], guard := some (4, true) },
    { dst := some 62, op := Op.move (Operand.tmp 61), type := 4, pos := "outright.go:54", after := #[{ on := 13, ground := Ground.data }, { on := 4, ground := Ground.chain }, { on := 4, ground := Ground.guard }], guard := some (4, true) },
    { dst := some 63, op := Op.move (Operand.tmp 7), type := 22, pos := "outright.go:54", after := #[{ on := 14, ground := Ground.guard }], guard := some (14, false) },
    { dst := some 64, op := Op.move (Operand.tmp 10), type := 23, pos := "outright.go:54", after := #[{ on := 14, ground := Ground.guard }], guard := some (14, false) },
    { dst := some 65, op := Op.move (Operand.tmp 11), type := 3, pos := "outright.go:54", after := #[{ on := 14, ground := Ground.guard }], guard := some (14, false) },
    { dst := some 66, op := Op.binOp BinOp.add 3 (Operand.tmp 65) (Operand.const (Value.int IntKind.i64 1)) 3, type := 3, pos := "outright.go:54", after := #[{ on := 17, ground := Ground.data }, { on := 14, ground := Ground.guard }], guard := some (14, false) },
    { dst := some 67, op := Op.call { callee := Callee.value (Operand.func 15), args := #[Operand.tmp 63, Operand.tmp 64, Operand.tmp 66], argTypes := #[22, 23, 3] }, type := 9, pos := "outright.go:54", after := #[{ on := 15, ground := Ground.data }, { on := 16, ground := Ground.data }, { on := 18, ground := Ground.data }, { on := 14, ground := Ground.chain }, { on := 14, ground := Ground.guard }], guard := some (14, false) },
    { dst := some 68, op := Op.move (Operand.tmp 0), type := 22, pos := "outright.go:54", after := #[{ on := 14, ground := Ground.guard }], guard := some (14, false) },
    { dst := some 69, op := Op.move (Operand.tmp 8), type := 23, pos := "outright.go:54", after := #[{ on := 14, ground := Ground.guard }], guard := some (14, false) },
    { dst := some 70, op := Op.move (Operand.tmp 11), type := 3, pos := "outright.go:54", after := #[{ on := 14, ground := Ground.guard }], guard := some (14, false) },
    { dst := some 71, op := Op.binOp BinOp.add 3 (Operand.tmp 70) (Operand.const (Value.int IntKind.i64 1)) 3, type := 3, pos := "outright.go:54", after := #[{ on := 22, ground := Ground.data }, { on := 14, ground := Ground.guard }], guard := some (14, false) },
    { dst := some 72, op := Op.call { callee := Callee.value (Operand.func 15), args := #[Operand.tmp 68, Operand.tmp 69, Operand.tmp 71], argTypes := #[22, 23, 3] }, type := 9, pos := "outright.go:54", after := #[{ on := 20, ground := Ground.data }, { on := 21, ground := Ground.data }, { on := 23, ground := Ground.data }, { on := 19, ground := Ground.chain }, { on := 14, ground := Ground.guard }], guard := some (14, false) },
    { dst := some 73, op := Op.binOp BinOp.neq 9 (Operand.tmp 67) (Operand.tmp 72) 9, type := 4, pos := "outright.go:54", after := #[{ on := 19, ground := Ground.data }, { on := 24, ground := Ground.data }, { on := 14, ground := Ground.guard }], guard := some (14, false) },
    { dst := some 74, op := Op.pick (Operand.tmp 62) (Operand.const (Value.bool true)) (Operand.tmp 73), type := 4, pos := "outright.go:54", after := #[{ on := 14, ground := Ground.data }, { on := 25, ground := Ground.data }, { on := 4, ground := Ground.guard }], guard := some (4, true) },
    { dst := some 75, op := Op.pick (Operand.tmp 52) (Operand.tmp 74) (Operand.const (Value.bool false)), type := 4, pos := "outright.go:54", after := #[{ on := 4, ground := Ground.data }, { on := 26, ground := Ground.data }], guard := none }]
def tj12_slot : Nat → Nat
  | 0 => 48
  | 1 => 49
  | 2 => 50
  | 3 => 51
  | 4 => 52
  | 5 => 53
  | 6 => 54
  | 7 => 55
  | 8 => 56
  | 9 => 57
  | 10 => 58
  | 11 => 59
  | 12 => 60
  | 13 => 61
  | 14 => 62
  | 15 => 63
  | 16 => 64
  | 17 => 65
  | 18 => 66
  | 19 => 67
  | 20 => 68
  | 21 => 69
  | 22 => 70
  | 23 => 71
  | 24 => 72
  | 25 => 73
  | 26 => 74
  | 27 => 75
  | j + 28 => 1110 + j
set_option maxRecDepth 100000 in
theorem tj12_inj (i j : Nat) (hi : i < 28) (hj : j < 28) (h : tj12_slot i = tj12_slot j) : i = j := by
  have key : ∀ i j : Fin 28, tj12_slot i.val = tj12_slot j.val → i = j := by decide
  exact Fin.mk.inj (key ⟨i, hi⟩ ⟨j, hj⟩ h)
def tj12T_val (A AL : Option Addr) (la ca n CL bx ox nx Cx bz oz nz Cz i : Nat) (vz : Int) (S : ByteArray) : Nat → Value → World → Prop
  | 0, v, w => v = .int .i64 (i : Nat)
  | 1, v, w => v = .slice (some ⟨bx, ox, none⟩) nx Cx
  | 2, v, w => v = .int .i64 (nx : Nat)
  | 3, v, w => v = .bool true
  | 4, v, w => v = .bool true
  | 5, v, w => v = .slice (some ⟨bz, oz, none⟩) nz Cz
  | 6, v, w => v = .int .i64 (i : Nat)
  | 7, v, w => v = .pointer (some ⟨bz, oz + i, none⟩)
  | 8, v, w => v = .int .i64 vz
  | 9, v, w => v = .slice (some ⟨bx, ox, none⟩) nx Cx
  | 10, v, w => v = .int .i64 (i : Nat)
  | 11, v, w => v = .pointer (some ⟨bx, ox + i, none⟩)
  | 12, v, w => v = .int .i64 vz
  | 13, v, w => v = .bool false
  | 14, v, w => v = .bool false
  | 15, v, w => v = .slice AL n CL
  | 16, v, w => v = .slice (some ⟨bz, oz, none⟩) nz Cz
  | 17, v, w => v = .int .i64 (i : Nat)
  | 18, v, w => v = .int .i64 ((i : Int) + 1)
  | 19, v, w => v = .string S
  | 20, v, w => v = .slice A la ca
  | 21, v, w => v = .slice (some ⟨bx, ox, none⟩) nx Cx
  | 22, v, w => v = .int .i64 (i : Nat)
  | 23, v, w => v = .int .i64 ((i : Int) + 1)
  | 24, v, w => v = .string S
  | 25, v, w => v = .bool false
  | 26, v, w => v = .bool false
  | 27, v, w => v = .bool false
  | _, _, _ => True
theorem tj12T_below (A AL : Option Addr) (la ca n CL bx ox nx Cx bz oz nz Cz i : Nat) (vz : Int) (S : ByteArray) (w w' : World) (hb : Below w.heap.size w w') : ∀ j v, tj12T_val A AL la ca n CL bx ox nx Cx bz oz nz Cz i vz S j v w → tj12T_val A AL la ca n CL bx ox nx Cx bz oz nz Cz i vz S j v w' := by
  intro j v h
  match j, h with
  | 0, h => exact h
  | 1, h => exact h
  | 2, h => exact h
  | 3, h => exact h
  | 4, h => exact h
  | 5, h => exact h
  | 6, h => exact h
  | 7, h => exact h
  | 8, h => exact h
  | 9, h => exact h
  | 10, h => exact h
  | 11, h => exact h
  | 12, h => exact h
  | 13, h => exact h
  | 14, h => exact h
  | 15, h => exact h
  | 16, h => exact h
  | 17, h => exact h
  | 18, h => exact h
  | 19, h => exact h
  | 20, h => exact h
  | 21, h => exact h
  | 22, h => exact h
  | 23, h => exact h
  | 24, h => exact h
  | 25, h => exact h
  | 26, h => exact h
  | 27, h => exact h
  | _ + 28, h => exact h

set_option maxRecDepth 100000 in
set_option maxHeartbeats 10000000 in
theorem tj12T (A AL : Option Addr) (la ca n CL bx ox nx Cx bz oz nz Cz i : Nat) (vz : Int) (S : ByteArray) (Q : Exit → Act → World → Prop) (t0 : Array Value) (w0 : World) (ht : t0.size = 110)
    (hs0 : t0.getD 0 undef = .slice A la ca) (hs7 : t0.getD 7 undef = .slice AL n CL) (hs8 : t0.getD 8 undef = .slice (some ⟨bx, ox, none⟩) nx Cx) (hs10 : t0.getD 10 undef = .slice (some ⟨bz, oz, none⟩) nz Cz) (hs11 : t0.getD 11 undef = .int .i64 (i : Nat))
    (hh : Hid (i < nx ∧ i < nz ∧ nz ≤ 100000 ∧ nx ≤ 100000))
    (cz : ∀ W, Below w0.heap.size w0 W → W.cell? ⟨bz, oz + i, none⟩ = some (.int .i64 vz))
    (cx : ∀ W, Below w0.heap.size w0 W → W.cell? ⟨bx, ox + i, none⟩ = some (.int .i64 vz))
    (c1 : ∀ W, Below w0.heap.size w0 W → Calls Try.prog 15 #[.slice AL n CL, .slice (some ⟨bz, oz, none⟩) nz Cz, .int .i64 ((i : Int) + 1)] W fun e w' => e = .returned (.string S) ∧ Below W.heap.size W w')
    (c2 : ∀ W, Below w0.heap.size w0 W → Calls Try.prog 15 #[.slice A la ca, .slice (some ⟨bx, ox, none⟩) nx Cx, .int .i64 ((i : Int) + 1)] W fun e w' => e = .returned (.string S) ∧ Below W.heap.size W w')
    (hQ : ∀ (vs : Nat → Value) (w : World), Below w0.heap.size w0 w → (vs 75 = .bool false) → Q .normal { tmps := [48, 49, 50, 51, 52, 53, 54, 55, 56, 57, 58, 59, 60, 61, 62, 63, 64, 65, 66, 67, 68, 69, 70, 71, 72, 73, 74, 75].foldl (fun y d => y.setIfInBounds d (vs d)) t0, defers := [] } w) :
    (Code.region 12 tj12_ops true).wp Try.prog Q { tmps := t0, defers := [] } w0 := by
  have hsl : ∀ j, j < 28 → tj12_mem (tj12_slot j) := by
    intro j hj
    match j, hj with
    | 0, _ => exact (by decide : tj12_mem 48)
    | 1, _ => exact (by decide : tj12_mem 49)
    | 2, _ => exact (by decide : tj12_mem 50)
    | 3, _ => exact (by decide : tj12_mem 51)
    | 4, _ => exact (by decide : tj12_mem 52)
    | 5, _ => exact (by decide : tj12_mem 53)
    | 6, _ => exact (by decide : tj12_mem 54)
    | 7, _ => exact (by decide : tj12_mem 55)
    | 8, _ => exact (by decide : tj12_mem 56)
    | 9, _ => exact (by decide : tj12_mem 57)
    | 10, _ => exact (by decide : tj12_mem 58)
    | 11, _ => exact (by decide : tj12_mem 59)
    | 12, _ => exact (by decide : tj12_mem 60)
    | 13, _ => exact (by decide : tj12_mem 61)
    | 14, _ => exact (by decide : tj12_mem 62)
    | 15, _ => exact (by decide : tj12_mem 63)
    | 16, _ => exact (by decide : tj12_mem 64)
    | 17, _ => exact (by decide : tj12_mem 65)
    | 18, _ => exact (by decide : tj12_mem 66)
    | 19, _ => exact (by decide : tj12_mem 67)
    | 20, _ => exact (by decide : tj12_mem 68)
    | 21, _ => exact (by decide : tj12_mem 69)
    | 22, _ => exact (by decide : tj12_mem 70)
    | 23, _ => exact (by decide : tj12_mem 71)
    | 24, _ => exact (by decide : tj12_mem 72)
    | 25, _ => exact (by decide : tj12_mem 73)
    | 26, _ => exact (by decide : tj12_mem 74)
    | 27, _ => exact (by decide : tj12_mem 75)
    | k + 28, hj => omega
  refine wp_region_inv (by kernel_rfl) tj12_slot (tj12T_val A AL la ca n CL bx ox nx Cx bz oz nz Cz i vz S) t0 w0 ?_ ?_ ?_ (tj12T_below A AL la ca n CL bx ox nx Cx bz oz nz Cz i vz S) ?_ ?_
  · intro j o ho
    have hj : j < 28 := (Array.getElem?_eq_some_iff.1 ho).1
    rw [ht]
    match j, ho with
    | 0, ho => cases ho; exact ⟨rfl, by decide⟩
    | 1, ho => cases ho; exact ⟨rfl, by decide⟩
    | 2, ho => cases ho; exact ⟨rfl, by decide⟩
    | 3, ho => cases ho; exact ⟨rfl, by decide⟩
    | 4, ho => cases ho; exact ⟨rfl, by decide⟩
    | 5, ho => cases ho; exact ⟨rfl, by decide⟩
    | 6, ho => cases ho; exact ⟨rfl, by decide⟩
    | 7, ho => cases ho; exact ⟨rfl, by decide⟩
    | 8, ho => cases ho; exact ⟨rfl, by decide⟩
    | 9, ho => cases ho; exact ⟨rfl, by decide⟩
    | 10, ho => cases ho; exact ⟨rfl, by decide⟩
    | 11, ho => cases ho; exact ⟨rfl, by decide⟩
    | 12, ho => cases ho; exact ⟨rfl, by decide⟩
    | 13, ho => cases ho; exact ⟨rfl, by decide⟩
    | 14, ho => cases ho; exact ⟨rfl, by decide⟩
    | 15, ho => cases ho; exact ⟨rfl, by decide⟩
    | 16, ho => cases ho; exact ⟨rfl, by decide⟩
    | 17, ho => cases ho; exact ⟨rfl, by decide⟩
    | 18, ho => cases ho; exact ⟨rfl, by decide⟩
    | 19, ho => cases ho; exact ⟨rfl, by decide⟩
    | 20, ho => cases ho; exact ⟨rfl, by decide⟩
    | 21, ho => cases ho; exact ⟨rfl, by decide⟩
    | 22, ho => cases ho; exact ⟨rfl, by decide⟩
    | 23, ho => cases ho; exact ⟨rfl, by decide⟩
    | 24, ho => cases ho; exact ⟨rfl, by decide⟩
    | 25, ho => cases ho; exact ⟨rfl, by decide⟩
    | 26, ho => cases ho; exact ⟨rfl, by decide⟩
    | 27, ho => cases ho; exact ⟨rfl, by decide⟩
    | k + 28, _ => omega
  · intro i j hi hj h
    exact tj12_inj i j hi hj h
  · intro j o ho
    have hj : j < 28 := (Array.getElem?_eq_some_iff.1 ho).1
    match j, ho with
    | 0, ho => cases ho; decide
    | 1, ho => cases ho; decide
    | 2, ho => cases ho; decide
    | 3, ho => cases ho; decide
    | 4, ho => cases ho; decide
    | 5, ho => cases ho; decide
    | 6, ho => cases ho; decide
    | 7, ho => cases ho; decide
    | 8, ho => cases ho; decide
    | 9, ho => cases ho; decide
    | 10, ho => cases ho; decide
    | 11, ho => cases ho; decide
    | 12, ho => cases ho; decide
    | 13, ho => cases ho; decide
    | 14, ho => cases ho; decide
    | 15, ho => cases ho; decide
    | 16, ho => cases ho; decide
    | 17, ho => cases ho; decide
    | 18, ho => cases ho; decide
    | 19, ho => cases ho; decide
    | 20, ho => cases ho; decide
    | 21, ho => cases ho; decide
    | 22, ho => cases ho; decide
    | 23, ho => cases ho; decide
    | 24, ho => cases ho; decide
    | 25, ho => cases ho; decide
    | 26, ho => cases ho; decide
    | 27, ho => cases ho; decide
    | k + 28, _ => omega
  · intro j o ho x w hB hdef hsz hs hdeps
    have hs' : ∀ s, ¬ tj12_mem s → x.tmps.getD s undef = t0.getD s undef := fun s hn => hs s (fun j hj e => hn (by rw [e]; exact hsl j hj))
    have u0 := (hs' 0 (by decide)).trans hs0
    have u7 := (hs' 7 (by decide)).trans hs7
    have u8 := (hs' 8 (by decide)).trans hs8
    have u10 := (hs' 10 (by decide)).trans hs10
    have u11 := (hs' 11 (by decide)).trans hs11
    have hj : j < 28 := (Array.getElem?_eq_some_iff.1 ho).1
    have hns : Hid (∀ s, s < 110 → x.tmps[s]? = some (x.tmps.getD s undef)) := fun s h => by rw [Array.getD_eq_getD_getElem?, Array.getElem?_eq_getElem (by omega)]; rfl
    clear hs hs' hsl hsz ht hQ hs0 hs7 hs8 hs10 hs11
    simp only [Array.getD_eq_getD_getElem?] at u0 u7 u8 u10 u11
    match j, ho with
    | 0, ho =>
      have e : o = { dst := some 48, op := Op.move (Operand.tmp 11), type := 3, pos := "outright.go:54", after := #[], guard := none } := (Option.some.inj ho).symm
      subst e
      clear hdeps
      refine wpOp_step ho (fun K hK => ?_)
      clear ho
      go_simp
      exact hK _ _ ⟨_, act_putD x hdef _ _, rfl, Below.refl _ _⟩
    | 1, ho =>
      have e : o = { dst := some 49, op := Op.move (Operand.tmp 8), type := 23, pos := "outright.go:54", after := #[], guard := none } := (Option.some.inj ho).symm
      subst e
      clear hdeps
      refine wpOp_step ho (fun K hK => ?_)
      clear ho
      go_simp
      exact hK _ _ ⟨_, act_putD x hdef _ _, rfl, Below.refl _ _⟩
    | 2, ho =>
      have e : o = { dst := some 50, op := Op.call { callee := Callee.builtin Builtin.len, args := #[Operand.tmp 49], argTypes := #[23] }, type := 3, pos := "outright.go:54", after := #[{ on := 1, ground := Ground.data }], guard := none } := (Option.some.inj ho).symm
      subst e
      have q1 : x.tmps.getD 49 undef = .slice (some ⟨bx, ox, none⟩) nx Cx := hdeps { on := 1, ground := Ground.data } (by simp) rfl
      simp only [Array.getD_eq_getD_getElem?] at q1
      clear hdeps
      refine wpOp_step ho (fun K hK => ?_)
      clear ho
      go_simp
      exact hK _ _ ⟨_, act_putD x hdef _ _, rfl, Below.refl _ _⟩
    | 3, ho =>
      have e : o = { dst := some 51, op := Op.binOp BinOp.lss 3 (Operand.tmp 48) (Operand.tmp 50) 3, type := 4, pos := "outright.go:54", after := #[{ on := 0, ground := Ground.data }, { on := 2, ground := Ground.data }], guard := none } := (Option.some.inj ho).symm
      subst e
      have q0 : x.tmps.getD 48 undef = .int .i64 (i : Nat) := hdeps { on := 0, ground := Ground.data } (by simp) rfl
      have q2 : x.tmps.getD 50 undef = .int .i64 (nx : Nat) := hdeps { on := 2, ground := Ground.data } (by simp) rfl
      simp only [Array.getD_eq_getD_getElem?] at q0 q2
      clear hdeps
      have i1 : (i : Int) < (nx : Int) := by have := hh.out; omega
      refine wpOp_step ho (fun K hK => ?_)
      clear ho
      go_simp
      exact hK _ _ ⟨_, act_putD x hdef _ _, rfl, Below.refl _ _⟩
    | 4, ho =>
      have e : o = { dst := some 52, op := Op.move (Operand.tmp 51), type := 4, pos := "outright.go:54", after := #[{ on := 3, ground := Ground.data }], guard := none } := (Option.some.inj ho).symm
      subst e
      have q3 : x.tmps.getD 51 undef = .bool true := hdeps { on := 3, ground := Ground.data } (by simp) rfl
      simp only [Array.getD_eq_getD_getElem?] at q3
      clear hdeps
      refine wpOp_step ho (fun K hK => ?_)
      clear ho
      go_simp
      exact hK _ _ ⟨_, act_putD x hdef _ _, rfl, Below.refl _ _⟩
    | 5, ho =>
      have e : o = { dst := some 53, op := Op.move (Operand.tmp 10), type := 23, pos := "outright.go:54", after := #[{ on := 4, ground := Ground.guard }], guard := some (4, true) } := (Option.some.inj ho).symm
      subst e
      have q4 : x.tmps.getD 52 undef = .bool true := hdeps { on := 4, ground := Ground.guard } (by simp) rfl
      have e4 : (tj12_ops[4]?.bind fun x => x.dst) = some 52 := rfl
      have g4 := get_someR q4 (fun h => by cases h)
      simp only [Array.getD_eq_getD_getElem?] at q4
      clear hdeps
      refine wpOp_step ho (fun K hK => ?_)
      clear ho
      go_simp
      exact hK _ _ ⟨_, act_putD x hdef _ _, rfl, Below.refl _ _⟩
    | 6, ho =>
      have e : o = { dst := some 54, op := Op.move (Operand.tmp 11), type := 3, pos := "outright.go:54", after := #[{ on := 4, ground := Ground.guard }], guard := some (4, true) } := (Option.some.inj ho).symm
      subst e
      have q4 : x.tmps.getD 52 undef = .bool true := hdeps { on := 4, ground := Ground.guard } (by simp) rfl
      have e4 : (tj12_ops[4]?.bind fun x => x.dst) = some 52 := rfl
      have g4 := get_someR q4 (fun h => by cases h)
      simp only [Array.getD_eq_getD_getElem?] at q4
      clear hdeps
      refine wpOp_step ho (fun K hK => ?_)
      clear ho
      go_simp
      exact hK _ _ ⟨_, act_putD x hdef _ _, rfl, Below.refl _ _⟩
    | 7, ho =>
      have e : o = { dst := some 55, op := Op.indexAddr 23 (Operand.tmp 53) (Operand.tmp 54), type := 0, pos := "outright.go:54", after := #[{ on := 5, ground := Ground.data }, { on := 6, ground := Ground.data }, { on := 4, ground := Ground.guard }], guard := some (4, true) } := (Option.some.inj ho).symm
      subst e
      have q5 : x.tmps.getD 53 undef = .slice (some ⟨bz, oz, none⟩) nz Cz := hdeps { on := 5, ground := Ground.data } (by simp) rfl
      have q6 : x.tmps.getD 54 undef = .int .i64 (i : Nat) := hdeps { on := 6, ground := Ground.data } (by simp) rfl
      have q4 : x.tmps.getD 52 undef = .bool true := hdeps { on := 4, ground := Ground.guard } (by simp) rfl
      have e4 : (tj12_ops[4]?.bind fun x => x.dst) = some 52 := rfl
      have g4 := get_someR q4 (fun h => by cases h)
      simp only [Array.getD_eq_getD_getElem?] at q5 q6 q4
      clear hdeps
      have i0 : (0 : Int) ≤ (i : Int) := by omega
      have i1 : (i : Int) < (nz : Int) := by have := hh.out; omega
      refine wpOp_step ho (fun K hK => ?_)
      clear ho
      go_simp
      exact hK _ _ ⟨_, act_putD x hdef _ _, rfl, Below.refl _ _⟩
    | 8, ho =>
      have e : o = { dst := some 56, op := Op.load 3 (Operand.tmp 55), type := 3, pos := "outright.go:54", after := #[{ on := 7, ground := Ground.data }, { on := 4, ground := Ground.guard }], guard := some (4, true) } := (Option.some.inj ho).symm
      subst e
      have q7 : x.tmps.getD 55 undef = .pointer (some ⟨bz, oz + i, none⟩) := hdeps { on := 7, ground := Ground.data } (by simp) rfl
      have q4 : x.tmps.getD 52 undef = .bool true := hdeps { on := 4, ground := Ground.guard } (by simp) rfl
      have e4 : (tj12_ops[4]?.bind fun x => x.dst) = some 52 := rfl
      have g4 := get_someR q4 (fun h => by cases h)
      simp only [Array.getD_eq_getD_getElem?] at q7 q4
      clear hdeps
      have m := cz w hB
      refine wpOp_step ho (fun K hK => ?_)
      clear ho
      go_simp
      exact hK _ _ ⟨_, act_putD x hdef _ _, rfl, Below.refl _ _⟩
    | 9, ho =>
      have e : o = { dst := some 57, op := Op.move (Operand.tmp 8), type := 23, pos := "outright.go:54", after := #[{ on := 4, ground := Ground.guard }], guard := some (4, true) } := (Option.some.inj ho).symm
      subst e
      have q4 : x.tmps.getD 52 undef = .bool true := hdeps { on := 4, ground := Ground.guard } (by simp) rfl
      have e4 : (tj12_ops[4]?.bind fun x => x.dst) = some 52 := rfl
      have g4 := get_someR q4 (fun h => by cases h)
      simp only [Array.getD_eq_getD_getElem?] at q4
      clear hdeps
      refine wpOp_step ho (fun K hK => ?_)
      clear ho
      go_simp
      exact hK _ _ ⟨_, act_putD x hdef _ _, rfl, Below.refl _ _⟩
    | 10, ho =>
      have e : o = { dst := some 58, op := Op.move (Operand.tmp 11), type := 3, pos := "outright.go:54", after := #[{ on := 4, ground := Ground.guard }], guard := some (4, true) } := (Option.some.inj ho).symm
      subst e
      have q4 : x.tmps.getD 52 undef = .bool true := hdeps { on := 4, ground := Ground.guard } (by simp) rfl
      have e4 : (tj12_ops[4]?.bind fun x => x.dst) = some 52 := rfl
      have g4 := get_someR q4 (fun h => by cases h)
      simp only [Array.getD_eq_getD_getElem?] at q4
      clear hdeps
      refine wpOp_step ho (fun K hK => ?_)
      clear ho
      go_simp
      exact hK _ _ ⟨_, act_putD x hdef _ _, rfl, Below.refl _ _⟩
    | 11, ho =>
      have e : o = { dst := some 59, op := Op.indexAddr 23 (Operand.tmp 57) (Operand.tmp 58), type := 0, pos := "outright.go:54", after := #[{ on := 9, ground := Ground.data }, { on := 10, ground := Ground.data }, { on := 4, ground := Ground.guard }], guard := some (4, true) } := (Option.some.inj ho).symm
      subst e
      have q9 : x.tmps.getD 57 undef = .slice (some ⟨bx, ox, none⟩) nx Cx := hdeps { on := 9, ground := Ground.data } (by simp) rfl
      have q10 : x.tmps.getD 58 undef = .int .i64 (i : Nat) := hdeps { on := 10, ground := Ground.data } (by simp) rfl
      have q4 : x.tmps.getD 52 undef = .bool true := hdeps { on := 4, ground := Ground.guard } (by simp) rfl
      have e4 : (tj12_ops[4]?.bind fun x => x.dst) = some 52 := rfl
      have g4 := get_someR q4 (fun h => by cases h)
      simp only [Array.getD_eq_getD_getElem?] at q9 q10 q4
      clear hdeps
      have i0 : (0 : Int) ≤ (i : Int) := by omega
      have i1 : (i : Int) < (nx : Int) := by have := hh.out; omega
      refine wpOp_step ho (fun K hK => ?_)
      clear ho
      go_simp
      exact hK _ _ ⟨_, act_putD x hdef _ _, rfl, Below.refl _ _⟩
    | 12, ho =>
      have e : o = { dst := some 60, op := Op.load 3 (Operand.tmp 59), type := 3, pos := "outright.go:54", after := #[{ on := 11, ground := Ground.data }, { on := 4, ground := Ground.guard }], guard := some (4, true) } := (Option.some.inj ho).symm
      subst e
      have q11 : x.tmps.getD 59 undef = .pointer (some ⟨bx, ox + i, none⟩) := hdeps { on := 11, ground := Ground.data } (by simp) rfl
      have q4 : x.tmps.getD 52 undef = .bool true := hdeps { on := 4, ground := Ground.guard } (by simp) rfl
      have e4 : (tj12_ops[4]?.bind fun x => x.dst) = some 52 := rfl
      have g4 := get_someR q4 (fun h => by cases h)
      simp only [Array.getD_eq_getD_getElem?] at q11 q4
      clear hdeps
      have m := cx w hB
      refine wpOp_step ho (fun K hK => ?_)
      clear ho
      go_simp
      exact hK _ _ ⟨_, act_putD x hdef _ _, rfl, Below.refl _ _⟩
    | 13, ho =>
      have e : o = { dst := some 61, op := Op.binOp BinOp.neq 3 (Operand.tmp 56) (Operand.tmp 60) 3, type := 4, pos := "outright.go:54", after := #[{ on := 8, ground := Ground.data }, { on := 12, ground := Ground.data }, { on := 4, ground := Ground.guard }], guard := some (4, true) } := (Option.some.inj ho).symm
      subst e
      have q8 : x.tmps.getD 56 undef = .int .i64 vz := hdeps { on := 8, ground := Ground.data } (by simp) rfl
      have q12 : x.tmps.getD 60 undef = .int .i64 vz := hdeps { on := 12, ground := Ground.data } (by simp) rfl
      have q4 : x.tmps.getD 52 undef = .bool true := hdeps { on := 4, ground := Ground.guard } (by simp) rfl
      have e4 : (tj12_ops[4]?.bind fun x => x.dst) = some 52 := rfl
      have g4 := get_someR q4 (fun h => by cases h)
      simp only [Array.getD_eq_getD_getElem?] at q8 q12 q4
      clear hdeps
      refine wpOp_step ho (fun K hK => ?_)
      clear ho
      go_simp
      exact hK _ _ ⟨_, act_putD x hdef _ _, rfl, Below.refl _ _⟩
    | 14, ho =>
      have e : o = { dst := some 62, op := Op.move (Operand.tmp 61), type := 4, pos := "outright.go:54", after := #[{ on := 13, ground := Ground.data }, { on := 4, ground := Ground.chain }, { on := 4, ground := Ground.guard }], guard := some (4, true) } := (Option.some.inj ho).symm
      subst e
      have q13 : x.tmps.getD 61 undef = .bool false := hdeps { on := 13, ground := Ground.data } (by simp) rfl
      have q4 : x.tmps.getD 52 undef = .bool true := hdeps { on := 4, ground := Ground.guard } (by simp) rfl
      have e4 : (tj12_ops[4]?.bind fun x => x.dst) = some 52 := rfl
      have g4 := get_someR q4 (fun h => by cases h)
      simp only [Array.getD_eq_getD_getElem?] at q13 q4
      clear hdeps
      refine wpOp_step ho (fun K hK => ?_)
      clear ho
      go_simp
      exact hK _ _ ⟨_, act_putD x hdef _ _, rfl, Below.refl _ _⟩
    | 15, ho =>
      have e : o = { dst := some 63, op := Op.move (Operand.tmp 7), type := 22, pos := "outright.go:54", after := #[{ on := 14, ground := Ground.guard }], guard := some (14, false) } := (Option.some.inj ho).symm
      subst e
      have q14 : x.tmps.getD 62 undef = .bool false := hdeps { on := 14, ground := Ground.guard } (by simp) rfl
      have e14 : (tj12_ops[14]?.bind fun x => x.dst) = some 62 := rfl
      have g14 := get_someR q14 (fun h => by cases h)
      simp only [Array.getD_eq_getD_getElem?] at q14
      clear hdeps
      refine wpOp_step ho (fun K hK => ?_)
      clear ho
      go_simp
      exact hK _ _ ⟨_, act_putD x hdef _ _, rfl, Below.refl _ _⟩
    | 16, ho =>
      have e : o = { dst := some 64, op := Op.move (Operand.tmp 10), type := 23, pos := "outright.go:54", after := #[{ on := 14, ground := Ground.guard }], guard := some (14, false) } := (Option.some.inj ho).symm
      subst e
      have q14 : x.tmps.getD 62 undef = .bool false := hdeps { on := 14, ground := Ground.guard } (by simp) rfl
      have e14 : (tj12_ops[14]?.bind fun x => x.dst) = some 62 := rfl
      have g14 := get_someR q14 (fun h => by cases h)
      simp only [Array.getD_eq_getD_getElem?] at q14
      clear hdeps
      refine wpOp_step ho (fun K hK => ?_)
      clear ho
      go_simp
      exact hK _ _ ⟨_, act_putD x hdef _ _, rfl, Below.refl _ _⟩
    | 17, ho =>
      have e : o = { dst := some 65, op := Op.move (Operand.tmp 11), type := 3, pos := "outright.go:54", after := #[{ on := 14, ground := Ground.guard }], guard := some (14, false) } := (Option.some.inj ho).symm
      subst e
      have q14 : x.tmps.getD 62 undef = .bool false := hdeps { on := 14, ground := Ground.guard } (by simp) rfl
      have e14 : (tj12_ops[14]?.bind fun x => x.dst) = some 62 := rfl
      have g14 := get_someR q14 (fun h => by cases h)
      simp only [Array.getD_eq_getD_getElem?] at q14
      clear hdeps
      refine wpOp_step ho (fun K hK => ?_)
      clear ho
      go_simp
      exact hK _ _ ⟨_, act_putD x hdef _ _, rfl, Below.refl _ _⟩
    | 18, ho =>
      have e : o = { dst := some 66, op := Op.binOp BinOp.add 3 (Operand.tmp 65) (Operand.const (Value.int IntKind.i64 1)) 3, type := 3, pos := "outright.go:54", after := #[{ on := 17, ground := Ground.data }, { on := 14, ground := Ground.guard }], guard := some (14, false) } := (Option.some.inj ho).symm
      subst e
      have q17 : x.tmps.getD 65 undef = .int .i64 (i : Nat) := hdeps { on := 17, ground := Ground.data } (by simp) rfl
      have q14 : x.tmps.getD 62 undef = .bool false := hdeps { on := 14, ground := Ground.guard } (by simp) rfl
      have e14 : (tj12_ops[14]?.bind fun x => x.dst) = some 62 := rfl
      have g14 := get_someR q14 (fun h => by cases h)
      simp only [Array.getD_eq_getD_getElem?] at q17 q14
      clear hdeps
      have i2 : (i : Int) + 1 ≤ 9223372036854775807 := by have := hh.out; omega
      have i3 : (0 : Int) ≤ (i : Int) := by omega
      refine wpOp_step ho (fun K hK => ?_)
      clear ho
      go_simp
      rw [IntWalk.i64_in _ (by have := hh.out; omega)]
      exact hK _ _ ⟨_, act_putD x hdef _ _, rfl, Below.refl _ _⟩
    | 19, ho =>
      have e : o = { dst := some 67, op := Op.call { callee := Callee.value (Operand.func 15), args := #[Operand.tmp 63, Operand.tmp 64, Operand.tmp 66], argTypes := #[22, 23, 3] }, type := 9, pos := "outright.go:54", after := #[{ on := 15, ground := Ground.data }, { on := 16, ground := Ground.data }, { on := 18, ground := Ground.data }, { on := 14, ground := Ground.chain }, { on := 14, ground := Ground.guard }], guard := some (14, false) } := (Option.some.inj ho).symm
      subst e
      have q15 : x.tmps.getD 63 undef = .slice AL n CL := hdeps { on := 15, ground := Ground.data } (by simp) rfl
      have q16 : x.tmps.getD 64 undef = .slice (some ⟨bz, oz, none⟩) nz Cz := hdeps { on := 16, ground := Ground.data } (by simp) rfl
      have q18 : x.tmps.getD 66 undef = .int .i64 ((i : Int) + 1) := hdeps { on := 18, ground := Ground.data } (by simp) rfl
      have q14 : x.tmps.getD 62 undef = .bool false := hdeps { on := 14, ground := Ground.guard } (by simp) rfl
      have e14 : (tj12_ops[14]?.bind fun x => x.dst) = some 62 := rfl
      have g14 := get_someR q14 (fun h => by cases h)
      simp only [Array.getD_eq_getD_getElem?] at q15 q16 q18 q14
      clear hdeps
      refine wpOp_step ho (fun K hK => ?_)
      clear ho
      go_simp
      refine (c1 w hB).mono ?_
      rintro e w' ⟨rfl, hb⟩
      exact hK _ _ ⟨_, act_putD x hdef _ _, rfl, hb⟩
    | 20, ho =>
      have e : o = { dst := some 68, op := Op.move (Operand.tmp 0), type := 22, pos := "outright.go:54", after := #[{ on := 14, ground := Ground.guard }], guard := some (14, false) } := (Option.some.inj ho).symm
      subst e
      have q14 : x.tmps.getD 62 undef = .bool false := hdeps { on := 14, ground := Ground.guard } (by simp) rfl
      have e14 : (tj12_ops[14]?.bind fun x => x.dst) = some 62 := rfl
      have g14 := get_someR q14 (fun h => by cases h)
      simp only [Array.getD_eq_getD_getElem?] at q14
      clear hdeps
      refine wpOp_step ho (fun K hK => ?_)
      clear ho
      go_simp
      exact hK _ _ ⟨_, act_putD x hdef _ _, rfl, Below.refl _ _⟩
    | 21, ho =>
      have e : o = { dst := some 69, op := Op.move (Operand.tmp 8), type := 23, pos := "outright.go:54", after := #[{ on := 14, ground := Ground.guard }], guard := some (14, false) } := (Option.some.inj ho).symm
      subst e
      have q14 : x.tmps.getD 62 undef = .bool false := hdeps { on := 14, ground := Ground.guard } (by simp) rfl
      have e14 : (tj12_ops[14]?.bind fun x => x.dst) = some 62 := rfl
      have g14 := get_someR q14 (fun h => by cases h)
      simp only [Array.getD_eq_getD_getElem?] at q14
      clear hdeps
      refine wpOp_step ho (fun K hK => ?_)
      clear ho
      go_simp
      exact hK _ _ ⟨_, act_putD x hdef _ _, rfl, Below.refl _ _⟩
    | 22, ho =>
      have e : o = { dst := some 70, op := Op.move (Operand.tmp 11), type := 3, pos := "outright.go:54", after := #[{ on := 14, ground := Ground.guard }], guard := some (14, false) } := (Option.some.inj ho).symm
      subst e
      have q14 : x.tmps.getD 62 undef = .bool false := hdeps { on := 14, ground := Ground.guard } (by simp) rfl
      have e14 : (tj12_ops[14]?.bind fun x => x.dst) = some 62 := rfl
      have g14 := get_someR q14 (fun h => by cases h)
      simp only [Array.getD_eq_getD_getElem?] at q14
      clear hdeps
      refine wpOp_step ho (fun K hK => ?_)
      clear ho
      go_simp
      exact hK _ _ ⟨_, act_putD x hdef _ _, rfl, Below.refl _ _⟩
    | 23, ho =>
      have e : o = { dst := some 71, op := Op.binOp BinOp.add 3 (Operand.tmp 70) (Operand.const (Value.int IntKind.i64 1)) 3, type := 3, pos := "outright.go:54", after := #[{ on := 22, ground := Ground.data }, { on := 14, ground := Ground.guard }], guard := some (14, false) } := (Option.some.inj ho).symm
      subst e
      have q22 : x.tmps.getD 70 undef = .int .i64 (i : Nat) := hdeps { on := 22, ground := Ground.data } (by simp) rfl
      have q14 : x.tmps.getD 62 undef = .bool false := hdeps { on := 14, ground := Ground.guard } (by simp) rfl
      have e14 : (tj12_ops[14]?.bind fun x => x.dst) = some 62 := rfl
      have g14 := get_someR q14 (fun h => by cases h)
      simp only [Array.getD_eq_getD_getElem?] at q22 q14
      clear hdeps
      have i2 : (i : Int) + 1 ≤ 9223372036854775807 := by have := hh.out; omega
      have i3 : (0 : Int) ≤ (i : Int) := by omega
      refine wpOp_step ho (fun K hK => ?_)
      clear ho
      go_simp
      rw [IntWalk.i64_in _ (by have := hh.out; omega)]
      exact hK _ _ ⟨_, act_putD x hdef _ _, rfl, Below.refl _ _⟩
    | 24, ho =>
      have e : o = { dst := some 72, op := Op.call { callee := Callee.value (Operand.func 15), args := #[Operand.tmp 68, Operand.tmp 69, Operand.tmp 71], argTypes := #[22, 23, 3] }, type := 9, pos := "outright.go:54", after := #[{ on := 20, ground := Ground.data }, { on := 21, ground := Ground.data }, { on := 23, ground := Ground.data }, { on := 19, ground := Ground.chain }, { on := 14, ground := Ground.guard }], guard := some (14, false) } := (Option.some.inj ho).symm
      subst e
      have q20 : x.tmps.getD 68 undef = .slice A la ca := hdeps { on := 20, ground := Ground.data } (by simp) rfl
      have q21 : x.tmps.getD 69 undef = .slice (some ⟨bx, ox, none⟩) nx Cx := hdeps { on := 21, ground := Ground.data } (by simp) rfl
      have q23 : x.tmps.getD 71 undef = .int .i64 ((i : Int) + 1) := hdeps { on := 23, ground := Ground.data } (by simp) rfl
      have q14 : x.tmps.getD 62 undef = .bool false := hdeps { on := 14, ground := Ground.guard } (by simp) rfl
      have e14 : (tj12_ops[14]?.bind fun x => x.dst) = some 62 := rfl
      have g14 := get_someR q14 (fun h => by cases h)
      simp only [Array.getD_eq_getD_getElem?] at q20 q21 q23 q14
      clear hdeps
      refine wpOp_step ho (fun K hK => ?_)
      clear ho
      go_simp
      refine (c2 w hB).mono ?_
      rintro e w' ⟨rfl, hb⟩
      exact hK _ _ ⟨_, act_putD x hdef _ _, rfl, hb⟩
    | 25, ho =>
      have e : o = { dst := some 73, op := Op.binOp BinOp.neq 9 (Operand.tmp 67) (Operand.tmp 72) 9, type := 4, pos := "outright.go:54", after := #[{ on := 19, ground := Ground.data }, { on := 24, ground := Ground.data }, { on := 14, ground := Ground.guard }], guard := some (14, false) } := (Option.some.inj ho).symm
      subst e
      have q19 : x.tmps.getD 67 undef = .string S := hdeps { on := 19, ground := Ground.data } (by simp) rfl
      have q24 : x.tmps.getD 72 undef = .string S := hdeps { on := 24, ground := Ground.data } (by simp) rfl
      have q14 : x.tmps.getD 62 undef = .bool false := hdeps { on := 14, ground := Ground.guard } (by simp) rfl
      have e14 : (tj12_ops[14]?.bind fun x => x.dst) = some 62 := rfl
      have g14 := get_someR q14 (fun h => by cases h)
      simp only [Array.getD_eq_getD_getElem?] at q19 q24 q14
      clear hdeps
      refine wpOp_step ho (fun K hK => ?_)
      clear ho
      go_simp
      exact hK _ _ ⟨_, act_putD x hdef _ _, rfl, Below.refl _ _⟩
    | 26, ho =>
      have e : o = { dst := some 74, op := Op.pick (Operand.tmp 62) (Operand.const (Value.bool true)) (Operand.tmp 73), type := 4, pos := "outright.go:54", after := #[{ on := 14, ground := Ground.data }, { on := 25, ground := Ground.data }, { on := 4, ground := Ground.guard }], guard := some (4, true) } := (Option.some.inj ho).symm
      subst e
      have q14 : x.tmps.getD 62 undef = .bool false := hdeps { on := 14, ground := Ground.data } (by simp) rfl
      have q25 : x.tmps.getD 73 undef = .bool false := hdeps { on := 25, ground := Ground.data } (by simp) rfl
      have q4 : x.tmps.getD 52 undef = .bool true := hdeps { on := 4, ground := Ground.guard } (by simp) rfl
      have e4 : (tj12_ops[4]?.bind fun x => x.dst) = some 52 := rfl
      have g4 := get_someR q4 (fun h => by cases h)
      simp only [Array.getD_eq_getD_getElem?] at q14 q25 q4
      clear hdeps
      refine wpOp_step ho (fun K hK => ?_)
      clear ho
      go_simp
      exact hK _ _ ⟨_, act_putD x hdef _ _, rfl, Below.refl _ _⟩
    | 27, ho =>
      have e : o = { dst := some 75, op := Op.pick (Operand.tmp 52) (Operand.tmp 74) (Operand.const (Value.bool false)), type := 4, pos := "outright.go:54", after := #[{ on := 4, ground := Ground.data }, { on := 26, ground := Ground.data }], guard := none } := (Option.some.inj ho).symm
      subst e
      have q4 : x.tmps.getD 52 undef = .bool true := hdeps { on := 4, ground := Ground.data } (by simp) rfl
      have q26 : x.tmps.getD 74 undef = .bool false := hdeps { on := 26, ground := Ground.data } (by simp) rfl
      simp only [Array.getD_eq_getD_getElem?] at q4 q26
      clear hdeps
      refine wpOp_step ho (fun K hK => ?_)
      clear ho
      go_simp
      exact hK _ _ ⟨_, act_putD x hdef _ _, rfl, Below.refl _ _⟩
    | k + 28, _ => omega
  · intro x w hB hdef hsz hs hv
    have hx := frame_sets x.tmps t0 hsz [48, 49, 50, 51, 52, 53, 54, 55, 56, 57, 58, 59, 60, 61, 62, 63, 64, 65, 66, 67, 68, 69, 70, 71, 72, 73, 74, 75] (fun s hn => hs s (fun j hj e => hn (tj12_list s (by rw [e]; exact hsl j hj))))
    have hq := hQ (fun d => x.tmps.getD d undef) w hB (hv 27 (by decide))
    obtain ⟨T, Df⟩ := x
    dsimp only at hx hdef hq
    subst hdef
    rw [← hx] at hq
    exact hq

def tj12F_val (bx ox nx Cx i : Nat) : Nat → Value → World → Prop
  | 0, v, w => v = .int .i64 (i : Nat)
  | 1, v, w => v = .slice (some ⟨bx, ox, none⟩) nx Cx
  | 2, v, w => v = .int .i64 (nx : Nat)
  | 3, v, w => v = .bool false
  | 4, v, w => v = .bool false
  | 5, v, w => v = undef
  | 6, v, w => v = undef
  | 7, v, w => v = undef
  | 8, v, w => v = undef
  | 9, v, w => v = undef
  | 10, v, w => v = undef
  | 11, v, w => v = undef
  | 12, v, w => v = undef
  | 13, v, w => v = undef
  | 14, v, w => v = undef
  | 15, v, w => v = undef
  | 16, v, w => v = undef
  | 17, v, w => v = undef
  | 18, v, w => v = undef
  | 19, v, w => v = undef
  | 20, v, w => v = undef
  | 21, v, w => v = undef
  | 22, v, w => v = undef
  | 23, v, w => v = undef
  | 24, v, w => v = undef
  | 25, v, w => v = undef
  | 26, v, w => v = undef
  | 27, v, w => v = .bool false
  | _, _, _ => True
theorem tj12F_below (bx ox nx Cx i : Nat) (w w' : World) (hb : Below w.heap.size w w') : ∀ j v, tj12F_val bx ox nx Cx i j v w → tj12F_val bx ox nx Cx i j v w' := by
  intro j v h
  match j, h with
  | 0, h => exact h
  | 1, h => exact h
  | 2, h => exact h
  | 3, h => exact h
  | 4, h => exact h
  | 5, h => exact h
  | 6, h => exact h
  | 7, h => exact h
  | 8, h => exact h
  | 9, h => exact h
  | 10, h => exact h
  | 11, h => exact h
  | 12, h => exact h
  | 13, h => exact h
  | 14, h => exact h
  | 15, h => exact h
  | 16, h => exact h
  | 17, h => exact h
  | 18, h => exact h
  | 19, h => exact h
  | 20, h => exact h
  | 21, h => exact h
  | 22, h => exact h
  | 23, h => exact h
  | 24, h => exact h
  | 25, h => exact h
  | 26, h => exact h
  | 27, h => exact h
  | _ + 28, h => exact h

set_option maxRecDepth 100000 in
set_option maxHeartbeats 10000000 in
theorem tj12F (bx ox nx Cx i : Nat) (Q : Exit → Act → World → Prop) (t0 : Array Value) (w0 : World) (ht : t0.size = 110)
    (hs8 : t0.getD 8 undef = .slice (some ⟨bx, ox, none⟩) nx Cx) (hs11 : t0.getD 11 undef = .int .i64 (i : Nat))
    (hh : Hid (nx ≤ i))
    (hQ : ∀ (vs : Nat → Value) (w : World), Below w0.heap.size w0 w → (vs 75 = .bool false) → Q .normal { tmps := [48, 49, 50, 51, 52, 53, 54, 55, 56, 57, 58, 59, 60, 61, 62, 63, 64, 65, 66, 67, 68, 69, 70, 71, 72, 73, 74, 75].foldl (fun y d => y.setIfInBounds d (vs d)) t0, defers := [] } w) :
    (Code.region 12 tj12_ops true).wp Try.prog Q { tmps := t0, defers := [] } w0 := by
  have hsl : ∀ j, j < 28 → tj12_mem (tj12_slot j) := by
    intro j hj
    match j, hj with
    | 0, _ => exact (by decide : tj12_mem 48)
    | 1, _ => exact (by decide : tj12_mem 49)
    | 2, _ => exact (by decide : tj12_mem 50)
    | 3, _ => exact (by decide : tj12_mem 51)
    | 4, _ => exact (by decide : tj12_mem 52)
    | 5, _ => exact (by decide : tj12_mem 53)
    | 6, _ => exact (by decide : tj12_mem 54)
    | 7, _ => exact (by decide : tj12_mem 55)
    | 8, _ => exact (by decide : tj12_mem 56)
    | 9, _ => exact (by decide : tj12_mem 57)
    | 10, _ => exact (by decide : tj12_mem 58)
    | 11, _ => exact (by decide : tj12_mem 59)
    | 12, _ => exact (by decide : tj12_mem 60)
    | 13, _ => exact (by decide : tj12_mem 61)
    | 14, _ => exact (by decide : tj12_mem 62)
    | 15, _ => exact (by decide : tj12_mem 63)
    | 16, _ => exact (by decide : tj12_mem 64)
    | 17, _ => exact (by decide : tj12_mem 65)
    | 18, _ => exact (by decide : tj12_mem 66)
    | 19, _ => exact (by decide : tj12_mem 67)
    | 20, _ => exact (by decide : tj12_mem 68)
    | 21, _ => exact (by decide : tj12_mem 69)
    | 22, _ => exact (by decide : tj12_mem 70)
    | 23, _ => exact (by decide : tj12_mem 71)
    | 24, _ => exact (by decide : tj12_mem 72)
    | 25, _ => exact (by decide : tj12_mem 73)
    | 26, _ => exact (by decide : tj12_mem 74)
    | 27, _ => exact (by decide : tj12_mem 75)
    | k + 28, hj => omega
  refine wp_region_inv (by kernel_rfl) tj12_slot (tj12F_val bx ox nx Cx i) t0 w0 ?_ ?_ ?_ (tj12F_below bx ox nx Cx i) ?_ ?_
  · intro j o ho
    have hj : j < 28 := (Array.getElem?_eq_some_iff.1 ho).1
    rw [ht]
    match j, ho with
    | 0, ho => cases ho; exact ⟨rfl, by decide⟩
    | 1, ho => cases ho; exact ⟨rfl, by decide⟩
    | 2, ho => cases ho; exact ⟨rfl, by decide⟩
    | 3, ho => cases ho; exact ⟨rfl, by decide⟩
    | 4, ho => cases ho; exact ⟨rfl, by decide⟩
    | 5, ho => cases ho; exact ⟨rfl, by decide⟩
    | 6, ho => cases ho; exact ⟨rfl, by decide⟩
    | 7, ho => cases ho; exact ⟨rfl, by decide⟩
    | 8, ho => cases ho; exact ⟨rfl, by decide⟩
    | 9, ho => cases ho; exact ⟨rfl, by decide⟩
    | 10, ho => cases ho; exact ⟨rfl, by decide⟩
    | 11, ho => cases ho; exact ⟨rfl, by decide⟩
    | 12, ho => cases ho; exact ⟨rfl, by decide⟩
    | 13, ho => cases ho; exact ⟨rfl, by decide⟩
    | 14, ho => cases ho; exact ⟨rfl, by decide⟩
    | 15, ho => cases ho; exact ⟨rfl, by decide⟩
    | 16, ho => cases ho; exact ⟨rfl, by decide⟩
    | 17, ho => cases ho; exact ⟨rfl, by decide⟩
    | 18, ho => cases ho; exact ⟨rfl, by decide⟩
    | 19, ho => cases ho; exact ⟨rfl, by decide⟩
    | 20, ho => cases ho; exact ⟨rfl, by decide⟩
    | 21, ho => cases ho; exact ⟨rfl, by decide⟩
    | 22, ho => cases ho; exact ⟨rfl, by decide⟩
    | 23, ho => cases ho; exact ⟨rfl, by decide⟩
    | 24, ho => cases ho; exact ⟨rfl, by decide⟩
    | 25, ho => cases ho; exact ⟨rfl, by decide⟩
    | 26, ho => cases ho; exact ⟨rfl, by decide⟩
    | 27, ho => cases ho; exact ⟨rfl, by decide⟩
    | k + 28, _ => omega
  · intro i j hi hj h
    exact tj12_inj i j hi hj h
  · intro j o ho
    have hj : j < 28 := (Array.getElem?_eq_some_iff.1 ho).1
    match j, ho with
    | 0, ho => cases ho; decide
    | 1, ho => cases ho; decide
    | 2, ho => cases ho; decide
    | 3, ho => cases ho; decide
    | 4, ho => cases ho; decide
    | 5, ho => cases ho; decide
    | 6, ho => cases ho; decide
    | 7, ho => cases ho; decide
    | 8, ho => cases ho; decide
    | 9, ho => cases ho; decide
    | 10, ho => cases ho; decide
    | 11, ho => cases ho; decide
    | 12, ho => cases ho; decide
    | 13, ho => cases ho; decide
    | 14, ho => cases ho; decide
    | 15, ho => cases ho; decide
    | 16, ho => cases ho; decide
    | 17, ho => cases ho; decide
    | 18, ho => cases ho; decide
    | 19, ho => cases ho; decide
    | 20, ho => cases ho; decide
    | 21, ho => cases ho; decide
    | 22, ho => cases ho; decide
    | 23, ho => cases ho; decide
    | 24, ho => cases ho; decide
    | 25, ho => cases ho; decide
    | 26, ho => cases ho; decide
    | 27, ho => cases ho; decide
    | k + 28, _ => omega
  · intro j o ho x w hB hdef hsz hs hdeps
    have hs' : ∀ s, ¬ tj12_mem s → x.tmps.getD s undef = t0.getD s undef := fun s hn => hs s (fun j hj e => hn (by rw [e]; exact hsl j hj))
    have u8 := (hs' 8 (by decide)).trans hs8
    have u11 := (hs' 11 (by decide)).trans hs11
    have hj : j < 28 := (Array.getElem?_eq_some_iff.1 ho).1
    have hns : Hid (∀ s, s < 110 → x.tmps[s]? = some (x.tmps.getD s undef)) := fun s h => by rw [Array.getD_eq_getD_getElem?, Array.getElem?_eq_getElem (by omega)]; rfl
    clear hs hs' hsl hsz ht hQ hs8 hs11
    simp only [Array.getD_eq_getD_getElem?] at u8 u11
    match j, ho with
    | 0, ho =>
      have e : o = { dst := some 48, op := Op.move (Operand.tmp 11), type := 3, pos := "outright.go:54", after := #[], guard := none } := (Option.some.inj ho).symm
      subst e
      clear hdeps
      refine wpOp_step ho (fun K hK => ?_)
      clear ho
      go_simp
      exact hK _ _ ⟨_, act_putD x hdef _ _, rfl, Below.refl _ _⟩
    | 1, ho =>
      have e : o = { dst := some 49, op := Op.move (Operand.tmp 8), type := 23, pos := "outright.go:54", after := #[], guard := none } := (Option.some.inj ho).symm
      subst e
      clear hdeps
      refine wpOp_step ho (fun K hK => ?_)
      clear ho
      go_simp
      exact hK _ _ ⟨_, act_putD x hdef _ _, rfl, Below.refl _ _⟩
    | 2, ho =>
      have e : o = { dst := some 50, op := Op.call { callee := Callee.builtin Builtin.len, args := #[Operand.tmp 49], argTypes := #[23] }, type := 3, pos := "outright.go:54", after := #[{ on := 1, ground := Ground.data }], guard := none } := (Option.some.inj ho).symm
      subst e
      have q1 : x.tmps.getD 49 undef = .slice (some ⟨bx, ox, none⟩) nx Cx := hdeps { on := 1, ground := Ground.data } (by simp) rfl
      simp only [Array.getD_eq_getD_getElem?] at q1
      clear hdeps
      refine wpOp_step ho (fun K hK => ?_)
      clear ho
      go_simp
      exact hK _ _ ⟨_, act_putD x hdef _ _, rfl, Below.refl _ _⟩
    | 3, ho =>
      have e : o = { dst := some 51, op := Op.binOp BinOp.lss 3 (Operand.tmp 48) (Operand.tmp 50) 3, type := 4, pos := "outright.go:54", after := #[{ on := 0, ground := Ground.data }, { on := 2, ground := Ground.data }], guard := none } := (Option.some.inj ho).symm
      subst e
      have q0 : x.tmps.getD 48 undef = .int .i64 (i : Nat) := hdeps { on := 0, ground := Ground.data } (by simp) rfl
      have q2 : x.tmps.getD 50 undef = .int .i64 (nx : Nat) := hdeps { on := 2, ground := Ground.data } (by simp) rfl
      simp only [Array.getD_eq_getD_getElem?] at q0 q2
      clear hdeps
      have i1 : ¬ ((i : Int) < (nx : Int)) := by have := hh.out; omega
      refine wpOp_step ho (fun K hK => ?_)
      clear ho
      go_simp
      exact hK _ _ ⟨_, act_putD x hdef _ _, rfl, Below.refl _ _⟩
    | 4, ho =>
      have e : o = { dst := some 52, op := Op.move (Operand.tmp 51), type := 4, pos := "outright.go:54", after := #[{ on := 3, ground := Ground.data }], guard := none } := (Option.some.inj ho).symm
      subst e
      have q3 : x.tmps.getD 51 undef = .bool false := hdeps { on := 3, ground := Ground.data } (by simp) rfl
      simp only [Array.getD_eq_getD_getElem?] at q3
      clear hdeps
      refine wpOp_step ho (fun K hK => ?_)
      clear ho
      go_simp
      exact hK _ _ ⟨_, act_putD x hdef _ _, rfl, Below.refl _ _⟩
    | 5, ho =>
      have e : o = { dst := some 53, op := Op.move (Operand.tmp 10), type := 23, pos := "outright.go:54", after := #[{ on := 4, ground := Ground.guard }], guard := some (4, true) } := (Option.some.inj ho).symm
      subst e
      have q4 : x.tmps.getD 52 undef = .bool false := hdeps { on := 4, ground := Ground.guard } (by simp) rfl
      have e4 : (tj12_ops[4]?.bind fun x => x.dst) = some 52 := rfl
      have g4 := get_someR q4 (fun h => by cases h)
      simp only [Array.getD_eq_getD_getElem?] at q4
      clear hdeps
      refine wpOp_step ho (fun K hK => ?_)
      clear ho
      go_simp
      exact hK _ _ ⟨_, act_putD x hdef _ _, rfl, Below.refl _ _⟩
    | 6, ho =>
      have e : o = { dst := some 54, op := Op.move (Operand.tmp 11), type := 3, pos := "outright.go:54", after := #[{ on := 4, ground := Ground.guard }], guard := some (4, true) } := (Option.some.inj ho).symm
      subst e
      have q4 : x.tmps.getD 52 undef = .bool false := hdeps { on := 4, ground := Ground.guard } (by simp) rfl
      have e4 : (tj12_ops[4]?.bind fun x => x.dst) = some 52 := rfl
      have g4 := get_someR q4 (fun h => by cases h)
      simp only [Array.getD_eq_getD_getElem?] at q4
      clear hdeps
      refine wpOp_step ho (fun K hK => ?_)
      clear ho
      go_simp
      exact hK _ _ ⟨_, act_putD x hdef _ _, rfl, Below.refl _ _⟩
    | 7, ho =>
      have e : o = { dst := some 55, op := Op.indexAddr 23 (Operand.tmp 53) (Operand.tmp 54), type := 0, pos := "outright.go:54", after := #[{ on := 5, ground := Ground.data }, { on := 6, ground := Ground.data }, { on := 4, ground := Ground.guard }], guard := some (4, true) } := (Option.some.inj ho).symm
      subst e
      have q5 : x.tmps.getD 53 undef = undef := hdeps { on := 5, ground := Ground.data } (by simp) rfl
      have q6 : x.tmps.getD 54 undef = undef := hdeps { on := 6, ground := Ground.data } (by simp) rfl
      have q4 : x.tmps.getD 52 undef = .bool false := hdeps { on := 4, ground := Ground.guard } (by simp) rfl
      have e4 : (tj12_ops[4]?.bind fun x => x.dst) = some 52 := rfl
      have g4 := get_someR q4 (fun h => by cases h)
      simp only [Array.getD_eq_getD_getElem?] at q5 q6 q4
      clear hdeps
      refine wpOp_step ho (fun K hK => ?_)
      clear ho
      go_simp
      exact hK _ _ ⟨_, act_putD x hdef _ _, rfl, Below.refl _ _⟩
    | 8, ho =>
      have e : o = { dst := some 56, op := Op.load 3 (Operand.tmp 55), type := 3, pos := "outright.go:54", after := #[{ on := 7, ground := Ground.data }, { on := 4, ground := Ground.guard }], guard := some (4, true) } := (Option.some.inj ho).symm
      subst e
      have q7 : x.tmps.getD 55 undef = undef := hdeps { on := 7, ground := Ground.data } (by simp) rfl
      have q4 : x.tmps.getD 52 undef = .bool false := hdeps { on := 4, ground := Ground.guard } (by simp) rfl
      have e4 : (tj12_ops[4]?.bind fun x => x.dst) = some 52 := rfl
      have g4 := get_someR q4 (fun h => by cases h)
      simp only [Array.getD_eq_getD_getElem?] at q7 q4
      clear hdeps
      refine wpOp_step ho (fun K hK => ?_)
      clear ho
      go_simp
      exact hK _ _ ⟨_, act_putD x hdef _ _, rfl, Below.refl _ _⟩
    | 9, ho =>
      have e : o = { dst := some 57, op := Op.move (Operand.tmp 8), type := 23, pos := "outright.go:54", after := #[{ on := 4, ground := Ground.guard }], guard := some (4, true) } := (Option.some.inj ho).symm
      subst e
      have q4 : x.tmps.getD 52 undef = .bool false := hdeps { on := 4, ground := Ground.guard } (by simp) rfl
      have e4 : (tj12_ops[4]?.bind fun x => x.dst) = some 52 := rfl
      have g4 := get_someR q4 (fun h => by cases h)
      simp only [Array.getD_eq_getD_getElem?] at q4
      clear hdeps
      refine wpOp_step ho (fun K hK => ?_)
      clear ho
      go_simp
      exact hK _ _ ⟨_, act_putD x hdef _ _, rfl, Below.refl _ _⟩
    | 10, ho =>
      have e : o = { dst := some 58, op := Op.move (Operand.tmp 11), type := 3, pos := "outright.go:54", after := #[{ on := 4, ground := Ground.guard }], guard := some (4, true) } := (Option.some.inj ho).symm
      subst e
      have q4 : x.tmps.getD 52 undef = .bool false := hdeps { on := 4, ground := Ground.guard } (by simp) rfl
      have e4 : (tj12_ops[4]?.bind fun x => x.dst) = some 52 := rfl
      have g4 := get_someR q4 (fun h => by cases h)
      simp only [Array.getD_eq_getD_getElem?] at q4
      clear hdeps
      refine wpOp_step ho (fun K hK => ?_)
      clear ho
      go_simp
      exact hK _ _ ⟨_, act_putD x hdef _ _, rfl, Below.refl _ _⟩
    | 11, ho =>
      have e : o = { dst := some 59, op := Op.indexAddr 23 (Operand.tmp 57) (Operand.tmp 58), type := 0, pos := "outright.go:54", after := #[{ on := 9, ground := Ground.data }, { on := 10, ground := Ground.data }, { on := 4, ground := Ground.guard }], guard := some (4, true) } := (Option.some.inj ho).symm
      subst e
      have q9 : x.tmps.getD 57 undef = undef := hdeps { on := 9, ground := Ground.data } (by simp) rfl
      have q10 : x.tmps.getD 58 undef = undef := hdeps { on := 10, ground := Ground.data } (by simp) rfl
      have q4 : x.tmps.getD 52 undef = .bool false := hdeps { on := 4, ground := Ground.guard } (by simp) rfl
      have e4 : (tj12_ops[4]?.bind fun x => x.dst) = some 52 := rfl
      have g4 := get_someR q4 (fun h => by cases h)
      simp only [Array.getD_eq_getD_getElem?] at q9 q10 q4
      clear hdeps
      refine wpOp_step ho (fun K hK => ?_)
      clear ho
      go_simp
      exact hK _ _ ⟨_, act_putD x hdef _ _, rfl, Below.refl _ _⟩
    | 12, ho =>
      have e : o = { dst := some 60, op := Op.load 3 (Operand.tmp 59), type := 3, pos := "outright.go:54", after := #[{ on := 11, ground := Ground.data }, { on := 4, ground := Ground.guard }], guard := some (4, true) } := (Option.some.inj ho).symm
      subst e
      have q11 : x.tmps.getD 59 undef = undef := hdeps { on := 11, ground := Ground.data } (by simp) rfl
      have q4 : x.tmps.getD 52 undef = .bool false := hdeps { on := 4, ground := Ground.guard } (by simp) rfl
      have e4 : (tj12_ops[4]?.bind fun x => x.dst) = some 52 := rfl
      have g4 := get_someR q4 (fun h => by cases h)
      simp only [Array.getD_eq_getD_getElem?] at q11 q4
      clear hdeps
      refine wpOp_step ho (fun K hK => ?_)
      clear ho
      go_simp
      exact hK _ _ ⟨_, act_putD x hdef _ _, rfl, Below.refl _ _⟩
    | 13, ho =>
      have e : o = { dst := some 61, op := Op.binOp BinOp.neq 3 (Operand.tmp 56) (Operand.tmp 60) 3, type := 4, pos := "outright.go:54", after := #[{ on := 8, ground := Ground.data }, { on := 12, ground := Ground.data }, { on := 4, ground := Ground.guard }], guard := some (4, true) } := (Option.some.inj ho).symm
      subst e
      have q8 : x.tmps.getD 56 undef = undef := hdeps { on := 8, ground := Ground.data } (by simp) rfl
      have q12 : x.tmps.getD 60 undef = undef := hdeps { on := 12, ground := Ground.data } (by simp) rfl
      have q4 : x.tmps.getD 52 undef = .bool false := hdeps { on := 4, ground := Ground.guard } (by simp) rfl
      have e4 : (tj12_ops[4]?.bind fun x => x.dst) = some 52 := rfl
      have g4 := get_someR q4 (fun h => by cases h)
      simp only [Array.getD_eq_getD_getElem?] at q8 q12 q4
      clear hdeps
      refine wpOp_step ho (fun K hK => ?_)
      clear ho
      go_simp
      exact hK _ _ ⟨_, act_putD x hdef _ _, rfl, Below.refl _ _⟩
    | 14, ho =>
      have e : o = { dst := some 62, op := Op.move (Operand.tmp 61), type := 4, pos := "outright.go:54", after := #[{ on := 13, ground := Ground.data }, { on := 4, ground := Ground.chain }, { on := 4, ground := Ground.guard }], guard := some (4, true) } := (Option.some.inj ho).symm
      subst e
      have q13 : x.tmps.getD 61 undef = undef := hdeps { on := 13, ground := Ground.data } (by simp) rfl
      have q4 : x.tmps.getD 52 undef = .bool false := hdeps { on := 4, ground := Ground.guard } (by simp) rfl
      have e4 : (tj12_ops[4]?.bind fun x => x.dst) = some 52 := rfl
      have g4 := get_someR q4 (fun h => by cases h)
      simp only [Array.getD_eq_getD_getElem?] at q13 q4
      clear hdeps
      refine wpOp_step ho (fun K hK => ?_)
      clear ho
      go_simp
      exact hK _ _ ⟨_, act_putD x hdef _ _, rfl, Below.refl _ _⟩
    | 15, ho =>
      have e : o = { dst := some 63, op := Op.move (Operand.tmp 7), type := 22, pos := "outright.go:54", after := #[{ on := 14, ground := Ground.guard }], guard := some (14, false) } := (Option.some.inj ho).symm
      subst e
      have q14 : x.tmps.getD 62 undef = undef := hdeps { on := 14, ground := Ground.guard } (by simp) rfl
      have e14 : (tj12_ops[14]?.bind fun x => x.dst) = some 62 := rfl
      have g14 : x.tmps[62]? = some undef := (hns.out 62 (by omega)).trans (congrArg some q14)
      simp only [Array.getD_eq_getD_getElem?] at q14
      clear hdeps
      refine wpOp_step ho (fun K hK => ?_)
      clear ho
      go_simp
      exact hK _ _ ⟨_, act_putD x hdef _ _, rfl, Below.refl _ _⟩
    | 16, ho =>
      have e : o = { dst := some 64, op := Op.move (Operand.tmp 10), type := 23, pos := "outright.go:54", after := #[{ on := 14, ground := Ground.guard }], guard := some (14, false) } := (Option.some.inj ho).symm
      subst e
      have q14 : x.tmps.getD 62 undef = undef := hdeps { on := 14, ground := Ground.guard } (by simp) rfl
      have e14 : (tj12_ops[14]?.bind fun x => x.dst) = some 62 := rfl
      have g14 : x.tmps[62]? = some undef := (hns.out 62 (by omega)).trans (congrArg some q14)
      simp only [Array.getD_eq_getD_getElem?] at q14
      clear hdeps
      refine wpOp_step ho (fun K hK => ?_)
      clear ho
      go_simp
      exact hK _ _ ⟨_, act_putD x hdef _ _, rfl, Below.refl _ _⟩
    | 17, ho =>
      have e : o = { dst := some 65, op := Op.move (Operand.tmp 11), type := 3, pos := "outright.go:54", after := #[{ on := 14, ground := Ground.guard }], guard := some (14, false) } := (Option.some.inj ho).symm
      subst e
      have q14 : x.tmps.getD 62 undef = undef := hdeps { on := 14, ground := Ground.guard } (by simp) rfl
      have e14 : (tj12_ops[14]?.bind fun x => x.dst) = some 62 := rfl
      have g14 : x.tmps[62]? = some undef := (hns.out 62 (by omega)).trans (congrArg some q14)
      simp only [Array.getD_eq_getD_getElem?] at q14
      clear hdeps
      refine wpOp_step ho (fun K hK => ?_)
      clear ho
      go_simp
      exact hK _ _ ⟨_, act_putD x hdef _ _, rfl, Below.refl _ _⟩
    | 18, ho =>
      have e : o = { dst := some 66, op := Op.binOp BinOp.add 3 (Operand.tmp 65) (Operand.const (Value.int IntKind.i64 1)) 3, type := 3, pos := "outright.go:54", after := #[{ on := 17, ground := Ground.data }, { on := 14, ground := Ground.guard }], guard := some (14, false) } := (Option.some.inj ho).symm
      subst e
      have q17 : x.tmps.getD 65 undef = undef := hdeps { on := 17, ground := Ground.data } (by simp) rfl
      have q14 : x.tmps.getD 62 undef = undef := hdeps { on := 14, ground := Ground.guard } (by simp) rfl
      have e14 : (tj12_ops[14]?.bind fun x => x.dst) = some 62 := rfl
      have g14 : x.tmps[62]? = some undef := (hns.out 62 (by omega)).trans (congrArg some q14)
      simp only [Array.getD_eq_getD_getElem?] at q17 q14
      clear hdeps
      refine wpOp_step ho (fun K hK => ?_)
      clear ho
      go_simp
      exact hK _ _ ⟨_, act_putD x hdef _ _, rfl, Below.refl _ _⟩
    | 19, ho =>
      have e : o = { dst := some 67, op := Op.call { callee := Callee.value (Operand.func 15), args := #[Operand.tmp 63, Operand.tmp 64, Operand.tmp 66], argTypes := #[22, 23, 3] }, type := 9, pos := "outright.go:54", after := #[{ on := 15, ground := Ground.data }, { on := 16, ground := Ground.data }, { on := 18, ground := Ground.data }, { on := 14, ground := Ground.chain }, { on := 14, ground := Ground.guard }], guard := some (14, false) } := (Option.some.inj ho).symm
      subst e
      have q15 : x.tmps.getD 63 undef = undef := hdeps { on := 15, ground := Ground.data } (by simp) rfl
      have q16 : x.tmps.getD 64 undef = undef := hdeps { on := 16, ground := Ground.data } (by simp) rfl
      have q18 : x.tmps.getD 66 undef = undef := hdeps { on := 18, ground := Ground.data } (by simp) rfl
      have q14 : x.tmps.getD 62 undef = undef := hdeps { on := 14, ground := Ground.guard } (by simp) rfl
      have e14 : (tj12_ops[14]?.bind fun x => x.dst) = some 62 := rfl
      have g14 : x.tmps[62]? = some undef := (hns.out 62 (by omega)).trans (congrArg some q14)
      simp only [Array.getD_eq_getD_getElem?] at q15 q16 q18 q14
      clear hdeps
      refine wpOp_step ho (fun K hK => ?_)
      clear ho
      go_simp
      exact hK _ _ ⟨_, act_putD x hdef _ _, rfl, Below.refl _ _⟩
    | 20, ho =>
      have e : o = { dst := some 68, op := Op.move (Operand.tmp 0), type := 22, pos := "outright.go:54", after := #[{ on := 14, ground := Ground.guard }], guard := some (14, false) } := (Option.some.inj ho).symm
      subst e
      have q14 : x.tmps.getD 62 undef = undef := hdeps { on := 14, ground := Ground.guard } (by simp) rfl
      have e14 : (tj12_ops[14]?.bind fun x => x.dst) = some 62 := rfl
      have g14 : x.tmps[62]? = some undef := (hns.out 62 (by omega)).trans (congrArg some q14)
      simp only [Array.getD_eq_getD_getElem?] at q14
      clear hdeps
      refine wpOp_step ho (fun K hK => ?_)
      clear ho
      go_simp
      exact hK _ _ ⟨_, act_putD x hdef _ _, rfl, Below.refl _ _⟩
    | 21, ho =>
      have e : o = { dst := some 69, op := Op.move (Operand.tmp 8), type := 23, pos := "outright.go:54", after := #[{ on := 14, ground := Ground.guard }], guard := some (14, false) } := (Option.some.inj ho).symm
      subst e
      have q14 : x.tmps.getD 62 undef = undef := hdeps { on := 14, ground := Ground.guard } (by simp) rfl
      have e14 : (tj12_ops[14]?.bind fun x => x.dst) = some 62 := rfl
      have g14 : x.tmps[62]? = some undef := (hns.out 62 (by omega)).trans (congrArg some q14)
      simp only [Array.getD_eq_getD_getElem?] at q14
      clear hdeps
      refine wpOp_step ho (fun K hK => ?_)
      clear ho
      go_simp
      exact hK _ _ ⟨_, act_putD x hdef _ _, rfl, Below.refl _ _⟩
    | 22, ho =>
      have e : o = { dst := some 70, op := Op.move (Operand.tmp 11), type := 3, pos := "outright.go:54", after := #[{ on := 14, ground := Ground.guard }], guard := some (14, false) } := (Option.some.inj ho).symm
      subst e
      have q14 : x.tmps.getD 62 undef = undef := hdeps { on := 14, ground := Ground.guard } (by simp) rfl
      have e14 : (tj12_ops[14]?.bind fun x => x.dst) = some 62 := rfl
      have g14 : x.tmps[62]? = some undef := (hns.out 62 (by omega)).trans (congrArg some q14)
      simp only [Array.getD_eq_getD_getElem?] at q14
      clear hdeps
      refine wpOp_step ho (fun K hK => ?_)
      clear ho
      go_simp
      exact hK _ _ ⟨_, act_putD x hdef _ _, rfl, Below.refl _ _⟩
    | 23, ho =>
      have e : o = { dst := some 71, op := Op.binOp BinOp.add 3 (Operand.tmp 70) (Operand.const (Value.int IntKind.i64 1)) 3, type := 3, pos := "outright.go:54", after := #[{ on := 22, ground := Ground.data }, { on := 14, ground := Ground.guard }], guard := some (14, false) } := (Option.some.inj ho).symm
      subst e
      have q22 : x.tmps.getD 70 undef = undef := hdeps { on := 22, ground := Ground.data } (by simp) rfl
      have q14 : x.tmps.getD 62 undef = undef := hdeps { on := 14, ground := Ground.guard } (by simp) rfl
      have e14 : (tj12_ops[14]?.bind fun x => x.dst) = some 62 := rfl
      have g14 : x.tmps[62]? = some undef := (hns.out 62 (by omega)).trans (congrArg some q14)
      simp only [Array.getD_eq_getD_getElem?] at q22 q14
      clear hdeps
      refine wpOp_step ho (fun K hK => ?_)
      clear ho
      go_simp
      exact hK _ _ ⟨_, act_putD x hdef _ _, rfl, Below.refl _ _⟩
    | 24, ho =>
      have e : o = { dst := some 72, op := Op.call { callee := Callee.value (Operand.func 15), args := #[Operand.tmp 68, Operand.tmp 69, Operand.tmp 71], argTypes := #[22, 23, 3] }, type := 9, pos := "outright.go:54", after := #[{ on := 20, ground := Ground.data }, { on := 21, ground := Ground.data }, { on := 23, ground := Ground.data }, { on := 19, ground := Ground.chain }, { on := 14, ground := Ground.guard }], guard := some (14, false) } := (Option.some.inj ho).symm
      subst e
      have q20 : x.tmps.getD 68 undef = undef := hdeps { on := 20, ground := Ground.data } (by simp) rfl
      have q21 : x.tmps.getD 69 undef = undef := hdeps { on := 21, ground := Ground.data } (by simp) rfl
      have q23 : x.tmps.getD 71 undef = undef := hdeps { on := 23, ground := Ground.data } (by simp) rfl
      have q14 : x.tmps.getD 62 undef = undef := hdeps { on := 14, ground := Ground.guard } (by simp) rfl
      have e14 : (tj12_ops[14]?.bind fun x => x.dst) = some 62 := rfl
      have g14 : x.tmps[62]? = some undef := (hns.out 62 (by omega)).trans (congrArg some q14)
      simp only [Array.getD_eq_getD_getElem?] at q20 q21 q23 q14
      clear hdeps
      refine wpOp_step ho (fun K hK => ?_)
      clear ho
      go_simp
      exact hK _ _ ⟨_, act_putD x hdef _ _, rfl, Below.refl _ _⟩
    | 25, ho =>
      have e : o = { dst := some 73, op := Op.binOp BinOp.neq 9 (Operand.tmp 67) (Operand.tmp 72) 9, type := 4, pos := "outright.go:54", after := #[{ on := 19, ground := Ground.data }, { on := 24, ground := Ground.data }, { on := 14, ground := Ground.guard }], guard := some (14, false) } := (Option.some.inj ho).symm
      subst e
      have q19 : x.tmps.getD 67 undef = undef := hdeps { on := 19, ground := Ground.data } (by simp) rfl
      have q24 : x.tmps.getD 72 undef = undef := hdeps { on := 24, ground := Ground.data } (by simp) rfl
      have q14 : x.tmps.getD 62 undef = undef := hdeps { on := 14, ground := Ground.guard } (by simp) rfl
      have e14 : (tj12_ops[14]?.bind fun x => x.dst) = some 62 := rfl
      have g14 : x.tmps[62]? = some undef := (hns.out 62 (by omega)).trans (congrArg some q14)
      simp only [Array.getD_eq_getD_getElem?] at q19 q24 q14
      clear hdeps
      refine wpOp_step ho (fun K hK => ?_)
      clear ho
      go_simp
      exact hK _ _ ⟨_, act_putD x hdef _ _, rfl, Below.refl _ _⟩
    | 26, ho =>
      have e : o = { dst := some 74, op := Op.pick (Operand.tmp 62) (Operand.const (Value.bool true)) (Operand.tmp 73), type := 4, pos := "outright.go:54", after := #[{ on := 14, ground := Ground.data }, { on := 25, ground := Ground.data }, { on := 4, ground := Ground.guard }], guard := some (4, true) } := (Option.some.inj ho).symm
      subst e
      have q14 : x.tmps.getD 62 undef = undef := hdeps { on := 14, ground := Ground.data } (by simp) rfl
      have q25 : x.tmps.getD 73 undef = undef := hdeps { on := 25, ground := Ground.data } (by simp) rfl
      have q4 : x.tmps.getD 52 undef = .bool false := hdeps { on := 4, ground := Ground.guard } (by simp) rfl
      have e4 : (tj12_ops[4]?.bind fun x => x.dst) = some 52 := rfl
      have g4 := get_someR q4 (fun h => by cases h)
      simp only [Array.getD_eq_getD_getElem?] at q14 q25 q4
      clear hdeps
      refine wpOp_step ho (fun K hK => ?_)
      clear ho
      go_simp
      exact hK _ _ ⟨_, act_putD x hdef _ _, rfl, Below.refl _ _⟩
    | 27, ho =>
      have e : o = { dst := some 75, op := Op.pick (Operand.tmp 52) (Operand.tmp 74) (Operand.const (Value.bool false)), type := 4, pos := "outright.go:54", after := #[{ on := 4, ground := Ground.data }, { on := 26, ground := Ground.data }], guard := none } := (Option.some.inj ho).symm
      subst e
      have q4 : x.tmps.getD 52 undef = .bool false := hdeps { on := 4, ground := Ground.data } (by simp) rfl
      have q26 : x.tmps.getD 74 undef = undef := hdeps { on := 26, ground := Ground.data } (by simp) rfl
      simp only [Array.getD_eq_getD_getElem?] at q4 q26
      clear hdeps
      refine wpOp_step ho (fun K hK => ?_)
      clear ho
      go_simp
      exact hK _ _ ⟨_, act_putD x hdef _ _, rfl, Below.refl _ _⟩
    | k + 28, _ => omega
  · intro x w hB hdef hsz hs hv
    have hx := frame_sets x.tmps t0 hsz [48, 49, 50, 51, 52, 53, 54, 55, 56, 57, 58, 59, 60, 61, 62, 63, 64, 65, 66, 67, 68, 69, 70, 71, 72, 73, 74, 75] (fun s hn => hs s (fun j hj e => hn (tj12_list s (by rw [e]; exact hsl j hj))))
    have hq := hQ (fun d => x.tmps.getD d undef) w hB (hv 27 (by decide))
    obtain ⟨T, Df⟩ := x
    dsimp only at hx hdef hq
    subst hdef
    rw [← hx] at hq
    exact hq

abbrev tj15_mem (s : Nat) : Prop := s ∈ [80, 81, 82, 83, 84, 85, 86, 87, 88, 89, 90, 91, 92, 93, 94, 95, 96, 97, 98, 99, 100, 101, 102, 103, 104, 105, 106, 107, 108, 109]
theorem tj15_list (s : Nat) (h : tj15_mem s) : s ∈ [80, 81, 82, 83, 84, 85, 86, 87, 88, 89, 90, 91, 92, 93, 94, 95, 96, 97, 98, 99, 100, 101, 102, 103, 104, 105, 106, 107, 108, 109] := h
def tj15_ops : Array Oper :=
  #[{ dst := some 80, op := Op.move (Operand.tmp 12), type := 3, pos := "outright.go:58", after := #[], guard := none },
    { dst := some 81, op := Op.binOp BinOp.geq 3 (Operand.tmp 80) (Operand.const (Value.int IntKind.i64 0)) 3, type := 4, pos := "outright.go:58", after := #[{ on := 0, ground := Ground.data }], guard := none },
    { dst := some 82, op := Op.move (Operand.tmp 81), type := 4, pos := "outright.go:58", after := #[{ on := 1, ground := Ground.data }], guard := none },
    { dst := some 83, op := Op.move (Operand.tmp 10), type := 23, pos := "outright.go:58", after := #[{ on := 2, ground := Ground.guard }], guard := some (2, true) },
    { dst := some 84, op := Op.move (Operand.tmp 11), type := 3, pos := "outright.go:58", after := #[{ on := 2, ground := Ground.guard }], guard := some (2, true) },
    { dst := some 85, op := Op.indexAddr 23 (Operand.tmp 83) (Operand.tmp 84), type := 0, pos := "outright.go:58", after := #[{ on := 3, ground := Ground.data }, { on := 4, ground := Ground.data }, { on := 2, ground := Ground.guard }], guard := some (2, true) },
    { dst := some 86, op := Op.load 3 (Operand.tmp 85), type := 3, pos := "outright.go:58", after := #[{ on := 5, ground := Ground.data }, { on := 2, ground := Ground.guard }], guard := some (2, true) },
    { dst := some 87, op := Op.move (Operand.tmp 9), type := 23, pos := "outright.go:58", after := #[{ on := 2, ground := Ground.guard }], guard := some (2, true) },
    { dst := some 88, op := Op.move (Operand.tmp 12), type := 3, pos := "outright.go:58", after := #[{ on := 2, ground := Ground.guard }], guard := some (2, true) },
    { dst := some 89, op := Op.indexAddr 23 (Operand.tmp 87) (Operand.tmp 88), type := 0, pos := "outright.go:58", after := #[{ on := 7, ground := Ground.data }, { on := 8, ground := Ground.data }, { on := 2, ground := Ground.guard }], guard := some (2, true) },
    { dst := some 90, op := Op.load 3 (Operand.tmp 89), type := 3, pos := "outright.go:58", after := #[{ on := 9, ground := Ground.data }, { on := 2, ground := Ground.guard }], guard := some (2, true) },
    { dst := some 91, op := Op.move (Operand.tmp 0), type := 22, pos := "outright.go:58", after := #[{ on := 2, ground := Ground.guard }], guard := some (2, true) },
    { dst := some 92, op := Op.call { callee := Callee.builtin Builtin.len, args := #[Operand.tmp 91], argTypes := #[22] }, type := 3, pos := "outright.go:58", after := #[{ on := 11, ground := Ground.data }, { on := 2, ground := Ground.guard }], guard := some (2, true) },
    { dst := some 93, op := Op.binOp BinOp.add 3 (Operand.tmp 90) (Operand.tmp 92) 3, type := 3, pos := "outright.go:58", after := #[{ on := 10, ground := Ground.data }, { on := 12, ground := Ground.data }, { on := 2, ground := Ground.guard }], guard := some (2, true) },
    { dst := some 94, op := Op.binOp BinOp.add 3 (Operand.tmp 93) (Operand.const (Value.int IntKind.i64 1)) 3, type := 3, pos := "outright.go:58", after := #[{ on := 13, ground := Ground.data }, { on := 2, ground := Ground.guard }], guard := some (2, true) },
    { dst := some 95, op := Op.binOp BinOp.neq 3 (Operand.tmp 86) (Operand.tmp 94) 3, type := 4, pos := "outright.go:58", after := #[{ on := 6, ground := Ground.data }, { on := 14, ground := Ground.data }, { on := 2, ground := Ground.guard }], guard := some (2, true) },
    { dst := some 96, op := Op.move (Operand.tmp 95), type := 4, pos := "outright.go:58", after := #[{ on := 15, ground := Ground.data }, { on := 2, ground := Ground.chain }, { on := 2, ground := Ground.guard }], guard := some (2, true) },
    { dst := some 97, op := Op.move (Operand.tmp 7), type := 22, pos := "outright.go:58", after := #[{ on := 16, ground := Ground.guard }], guard := some (16, false) },
    { dst := some 98, op := Op.move (Operand.tmp 10), type := 23, pos := "outright.go:58", after := #[{ on := 16, ground := Ground.guard }], guard := some (16, false) },
    { dst := some 99, op := Op.move (Operand.tmp 11), type := 3, pos := "outright.go:58", after := #[{ on := 16, ground := Ground.guard }], guard := some (16, false) },
    { dst := some 100, op := Op.binOp BinOp.add 3 (Operand.tmp 99) (Operand.const (Value.int IntKind.i64 1)) 3, type := 3, pos := "outright.go:58", after := #[{ on := 19, ground := Ground.data }, { on := 16, ground := Ground.guard }], guard := some (16, false) },
    { dst := some 101, op := Op.call { callee := Callee.value (Operand.func 15), args := #[Operand.tmp 97, Operand.tmp 98, Operand.tmp 100], argTypes := #[22, 23, 3] }, type := 9, pos := "outright.go:58", after := #[{ on := 17, ground := Ground.data }, { on := 18, ground := Ground.data }, { on := 20, ground := Ground.data }, { on := 16, ground := Ground.chain }, { on := 16, ground := Ground.guard }], guard := some (16, false) },
    { dst := some 102, op := Op.move (Operand.tmp 1), type := 22, pos := "outright.go:58", after := #[{ on := 16, ground := Ground.guard }], guard := some (16, false) },
    { dst := some 103, op := Op.move (Operand.tmp 9), type := 23, pos := "outright.go:58", after := #[{ on := 16, ground := Ground.guard }], guard := some (16, false) },
    { dst := some 104, op := Op.move (Operand.tmp 12), type := 3, pos := "outright.go:58", after := #[{ on := 16, ground := Ground.guard }], guard := some (16, false) },
    { dst := some 105, op := Op.binOp BinOp.add 3 (Operand.tmp 104) (Operand.const (Value.int IntKind.i64 1)) 3, type := 3, pos := "outright.go:58", after := #[{ on := 24, ground := Ground.data }, { on := 16, ground := Ground.guard }], guard := some (16, false) },
    { dst := some 106, op := Op.call { callee := Callee.value (Operand.func 15), args := #[Operand.tmp 102, Operand.tmp 103, Operand.tmp 105], argTypes := #[22, 23, 3] }, type := 9, pos := "outright.go:58", after := #[{ on := 22, ground := Ground.data }, { on := 23, ground := Ground.data }, { on := 25, ground := Ground.data }, { on := 21, ground := Ground.chain }, { on := 16, ground := Ground.guard }], guard := some (16, false) },
    { dst := some 107, op := Op.binOp BinOp.neq 9 (Operand.tmp 101) (Operand.tmp 106) 9, type := 4, pos := "outright.go:58", after := #[{ on := 21, ground := Ground.data }, { on := 26, ground := Ground.data }, { on := 16, ground := Ground.guard }], guard := some (16, false) },
    { dst := some 108, op := Op.pick (Operand.tmp 96) (Operand.const (Value.bool true)) (Operand.tmp 107), type := 4, pos := "outright.go:58", after := #[{ on := 16, ground := Ground.data }, { on := 27, ground := Ground.data }, { on := 2, ground := Ground.guard }], guard := some (2, true) },
    { dst := some 109, op := Op.pick (Operand.tmp 82) (Operand.tmp 108) (Operand.const (Value.bool false)), type := 4, pos := "outright.go:58", after := #[{ on := 2, ground := Ground.data }, { on := 28, ground := Ground.data }], guard := none }]
def tj15_slot : Nat → Nat
  | 0 => 80
  | 1 => 81
  | 2 => 82
  | 3 => 83
  | 4 => 84
  | 5 => 85
  | 6 => 86
  | 7 => 87
  | 8 => 88
  | 9 => 89
  | 10 => 90
  | 11 => 91
  | 12 => 92
  | 13 => 93
  | 14 => 94
  | 15 => 95
  | 16 => 96
  | 17 => 97
  | 18 => 98
  | 19 => 99
  | 20 => 100
  | 21 => 101
  | 22 => 102
  | 23 => 103
  | 24 => 104
  | 25 => 105
  | 26 => 106
  | 27 => 107
  | 28 => 108
  | 29 => 109
  | j + 30 => 1110 + j
set_option maxRecDepth 100000 in
theorem tj15_inj (i j : Nat) (hi : i < 30) (hj : j < 30) (h : tj15_slot i = tj15_slot j) : i = j := by
  have key : ∀ i j : Fin 30, tj15_slot i.val = tj15_slot j.val → i = j := by decide
  exact Fin.mk.inj (key ⟨i, hi⟩ ⟨j, hj⟩ h)
def tj15T_val (A B AL : Option Addr) (la ca lb cb n CL b9 o9 ny Cy bz oz nz Cz i k u : Nat) (S : ByteArray) : Nat → Value → World → Prop
  | 0, v, w => v = .int .i64 (k : Nat)
  | 1, v, w => v = .bool true
  | 2, v, w => v = .bool true
  | 3, v, w => v = .slice (some ⟨bz, oz, none⟩) nz Cz
  | 4, v, w => v = .int .i64 (i : Nat)
  | 5, v, w => v = .pointer (some ⟨bz, oz + i, none⟩)
  | 6, v, w => v = .int .i64 ((u : Int) + (la : Int) + 1)
  | 7, v, w => v = .slice (some ⟨b9, o9, none⟩) ny Cy
  | 8, v, w => v = .int .i64 (k : Nat)
  | 9, v, w => v = .pointer (some ⟨b9, o9 + k, none⟩)
  | 10, v, w => v = .int .i64 (u : Nat)
  | 11, v, w => v = .slice A la ca
  | 12, v, w => v = .int .i64 (la : Nat)
  | 13, v, w => v = .int .i64 ((u : Int) + (la : Int))
  | 14, v, w => v = .int .i64 ((u : Int) + (la : Int) + 1)
  | 15, v, w => v = .bool false
  | 16, v, w => v = .bool false
  | 17, v, w => v = .slice AL n CL
  | 18, v, w => v = .slice (some ⟨bz, oz, none⟩) nz Cz
  | 19, v, w => v = .int .i64 (i : Nat)
  | 20, v, w => v = .int .i64 ((i : Int) + 1)
  | 21, v, w => v = .string S
  | 22, v, w => v = .slice B lb cb
  | 23, v, w => v = .slice (some ⟨b9, o9, none⟩) ny Cy
  | 24, v, w => v = .int .i64 (k : Nat)
  | 25, v, w => v = .int .i64 ((k : Int) + 1)
  | 26, v, w => v = .string S
  | 27, v, w => v = .bool false
  | 28, v, w => v = .bool false
  | 29, v, w => v = .bool false
  | _, _, _ => True
theorem tj15T_below (A B AL : Option Addr) (la ca lb cb n CL b9 o9 ny Cy bz oz nz Cz i k u : Nat) (S : ByteArray) (w w' : World) (hb : Below w.heap.size w w') : ∀ j v, tj15T_val A B AL la ca lb cb n CL b9 o9 ny Cy bz oz nz Cz i k u S j v w → tj15T_val A B AL la ca lb cb n CL b9 o9 ny Cy bz oz nz Cz i k u S j v w' := by
  intro j v h
  match j, h with
  | 0, h => exact h
  | 1, h => exact h
  | 2, h => exact h
  | 3, h => exact h
  | 4, h => exact h
  | 5, h => exact h
  | 6, h => exact h
  | 7, h => exact h
  | 8, h => exact h
  | 9, h => exact h
  | 10, h => exact h
  | 11, h => exact h
  | 12, h => exact h
  | 13, h => exact h
  | 14, h => exact h
  | 15, h => exact h
  | 16, h => exact h
  | 17, h => exact h
  | 18, h => exact h
  | 19, h => exact h
  | 20, h => exact h
  | 21, h => exact h
  | 22, h => exact h
  | 23, h => exact h
  | 24, h => exact h
  | 25, h => exact h
  | 26, h => exact h
  | 27, h => exact h
  | 28, h => exact h
  | 29, h => exact h
  | _ + 30, h => exact h

set_option maxRecDepth 100000 in
set_option maxHeartbeats 10000000 in
theorem tj15T (A B AL : Option Addr) (la ca lb cb n CL b9 o9 ny Cy bz oz nz Cz i k u : Nat) (S : ByteArray) (Q : Exit → Act → World → Prop) (t0 : Array Value) (w0 : World) (ht : t0.size = 110)
    (hs0 : t0.getD 0 undef = .slice A la ca) (hs1 : t0.getD 1 undef = .slice B lb cb) (hs7 : t0.getD 7 undef = .slice AL n CL) (hs9 : t0.getD 9 undef = .slice (some ⟨b9, o9, none⟩) ny Cy) (hs10 : t0.getD 10 undef = .slice (some ⟨bz, oz, none⟩) nz Cz) (hs11 : t0.getD 11 undef = .int .i64 (i : Nat)) (hs12 : t0.getD 12 undef = .int .i64 (k : Nat))
    (hh : Hid (k < ny ∧ i < nz ∧ nz ≤ 100000 ∧ ny ≤ 100000 ∧ la ≤ 100000 ∧ u ≤ 100000))
    (cz : ∀ W, Below w0.heap.size w0 W → W.cell? ⟨bz, oz + i, none⟩ = some (.int .i64 ((u : Int) + (la : Int) + 1)))
    (c9 : ∀ W, Below w0.heap.size w0 W → W.cell? ⟨b9, o9 + k, none⟩ = some (.int .i64 (u : Nat)))
    (c1 : ∀ W, Below w0.heap.size w0 W → Calls Try.prog 15 #[.slice AL n CL, .slice (some ⟨bz, oz, none⟩) nz Cz, .int .i64 ((i : Int) + 1)] W fun e w' => e = .returned (.string S) ∧ Below W.heap.size W w')
    (c2 : ∀ W, Below w0.heap.size w0 W → Calls Try.prog 15 #[.slice B lb cb, .slice (some ⟨b9, o9, none⟩) ny Cy, .int .i64 ((k : Int) + 1)] W fun e w' => e = .returned (.string S) ∧ Below W.heap.size W w')
    (hQ : ∀ (vs : Nat → Value) (w : World), Below w0.heap.size w0 w → (vs 109 = .bool false) → Q .normal { tmps := [80, 81, 82, 83, 84, 85, 86, 87, 88, 89, 90, 91, 92, 93, 94, 95, 96, 97, 98, 99, 100, 101, 102, 103, 104, 105, 106, 107, 108, 109].foldl (fun y d => y.setIfInBounds d (vs d)) t0, defers := [] } w) :
    (Code.region 15 tj15_ops true).wp Try.prog Q { tmps := t0, defers := [] } w0 := by
  have hsl : ∀ j, j < 30 → tj15_mem (tj15_slot j) := by
    intro j hj
    match j, hj with
    | 0, _ => exact (by decide : tj15_mem 80)
    | 1, _ => exact (by decide : tj15_mem 81)
    | 2, _ => exact (by decide : tj15_mem 82)
    | 3, _ => exact (by decide : tj15_mem 83)
    | 4, _ => exact (by decide : tj15_mem 84)
    | 5, _ => exact (by decide : tj15_mem 85)
    | 6, _ => exact (by decide : tj15_mem 86)
    | 7, _ => exact (by decide : tj15_mem 87)
    | 8, _ => exact (by decide : tj15_mem 88)
    | 9, _ => exact (by decide : tj15_mem 89)
    | 10, _ => exact (by decide : tj15_mem 90)
    | 11, _ => exact (by decide : tj15_mem 91)
    | 12, _ => exact (by decide : tj15_mem 92)
    | 13, _ => exact (by decide : tj15_mem 93)
    | 14, _ => exact (by decide : tj15_mem 94)
    | 15, _ => exact (by decide : tj15_mem 95)
    | 16, _ => exact (by decide : tj15_mem 96)
    | 17, _ => exact (by decide : tj15_mem 97)
    | 18, _ => exact (by decide : tj15_mem 98)
    | 19, _ => exact (by decide : tj15_mem 99)
    | 20, _ => exact (by decide : tj15_mem 100)
    | 21, _ => exact (by decide : tj15_mem 101)
    | 22, _ => exact (by decide : tj15_mem 102)
    | 23, _ => exact (by decide : tj15_mem 103)
    | 24, _ => exact (by decide : tj15_mem 104)
    | 25, _ => exact (by decide : tj15_mem 105)
    | 26, _ => exact (by decide : tj15_mem 106)
    | 27, _ => exact (by decide : tj15_mem 107)
    | 28, _ => exact (by decide : tj15_mem 108)
    | 29, _ => exact (by decide : tj15_mem 109)
    | k + 30, hj => omega
  refine wp_region_inv (by kernel_rfl) tj15_slot (tj15T_val A B AL la ca lb cb n CL b9 o9 ny Cy bz oz nz Cz i k u S) t0 w0 ?_ ?_ ?_ (tj15T_below A B AL la ca lb cb n CL b9 o9 ny Cy bz oz nz Cz i k u S) ?_ ?_
  · intro j o ho
    have hj : j < 30 := (Array.getElem?_eq_some_iff.1 ho).1
    rw [ht]
    match j, ho with
    | 0, ho => cases ho; exact ⟨rfl, by decide⟩
    | 1, ho => cases ho; exact ⟨rfl, by decide⟩
    | 2, ho => cases ho; exact ⟨rfl, by decide⟩
    | 3, ho => cases ho; exact ⟨rfl, by decide⟩
    | 4, ho => cases ho; exact ⟨rfl, by decide⟩
    | 5, ho => cases ho; exact ⟨rfl, by decide⟩
    | 6, ho => cases ho; exact ⟨rfl, by decide⟩
    | 7, ho => cases ho; exact ⟨rfl, by decide⟩
    | 8, ho => cases ho; exact ⟨rfl, by decide⟩
    | 9, ho => cases ho; exact ⟨rfl, by decide⟩
    | 10, ho => cases ho; exact ⟨rfl, by decide⟩
    | 11, ho => cases ho; exact ⟨rfl, by decide⟩
    | 12, ho => cases ho; exact ⟨rfl, by decide⟩
    | 13, ho => cases ho; exact ⟨rfl, by decide⟩
    | 14, ho => cases ho; exact ⟨rfl, by decide⟩
    | 15, ho => cases ho; exact ⟨rfl, by decide⟩
    | 16, ho => cases ho; exact ⟨rfl, by decide⟩
    | 17, ho => cases ho; exact ⟨rfl, by decide⟩
    | 18, ho => cases ho; exact ⟨rfl, by decide⟩
    | 19, ho => cases ho; exact ⟨rfl, by decide⟩
    | 20, ho => cases ho; exact ⟨rfl, by decide⟩
    | 21, ho => cases ho; exact ⟨rfl, by decide⟩
    | 22, ho => cases ho; exact ⟨rfl, by decide⟩
    | 23, ho => cases ho; exact ⟨rfl, by decide⟩
    | 24, ho => cases ho; exact ⟨rfl, by decide⟩
    | 25, ho => cases ho; exact ⟨rfl, by decide⟩
    | 26, ho => cases ho; exact ⟨rfl, by decide⟩
    | 27, ho => cases ho; exact ⟨rfl, by decide⟩
    | 28, ho => cases ho; exact ⟨rfl, by decide⟩
    | 29, ho => cases ho; exact ⟨rfl, by decide⟩
    | k + 30, _ => omega
  · intro i j hi hj h
    exact tj15_inj i j hi hj h
  · intro j o ho
    have hj : j < 30 := (Array.getElem?_eq_some_iff.1 ho).1
    match j, ho with
    | 0, ho => cases ho; decide
    | 1, ho => cases ho; decide
    | 2, ho => cases ho; decide
    | 3, ho => cases ho; decide
    | 4, ho => cases ho; decide
    | 5, ho => cases ho; decide
    | 6, ho => cases ho; decide
    | 7, ho => cases ho; decide
    | 8, ho => cases ho; decide
    | 9, ho => cases ho; decide
    | 10, ho => cases ho; decide
    | 11, ho => cases ho; decide
    | 12, ho => cases ho; decide
    | 13, ho => cases ho; decide
    | 14, ho => cases ho; decide
    | 15, ho => cases ho; decide
    | 16, ho => cases ho; decide
    | 17, ho => cases ho; decide
    | 18, ho => cases ho; decide
    | 19, ho => cases ho; decide
    | 20, ho => cases ho; decide
    | 21, ho => cases ho; decide
    | 22, ho => cases ho; decide
    | 23, ho => cases ho; decide
    | 24, ho => cases ho; decide
    | 25, ho => cases ho; decide
    | 26, ho => cases ho; decide
    | 27, ho => cases ho; decide
    | 28, ho => cases ho; decide
    | 29, ho => cases ho; decide
    | k + 30, _ => omega
  · intro j o ho x w hB hdef hsz hs hdeps
    have hs' : ∀ s, ¬ tj15_mem s → x.tmps.getD s undef = t0.getD s undef := fun s hn => hs s (fun j hj e => hn (by rw [e]; exact hsl j hj))
    have u0 := (hs' 0 (by decide)).trans hs0
    have u1 := (hs' 1 (by decide)).trans hs1
    have u7 := (hs' 7 (by decide)).trans hs7
    have u9 := (hs' 9 (by decide)).trans hs9
    have u10 := (hs' 10 (by decide)).trans hs10
    have u11 := (hs' 11 (by decide)).trans hs11
    have u12 := (hs' 12 (by decide)).trans hs12
    have hj : j < 30 := (Array.getElem?_eq_some_iff.1 ho).1
    have hns : Hid (∀ s, s < 110 → x.tmps[s]? = some (x.tmps.getD s undef)) := fun s h => by rw [Array.getD_eq_getD_getElem?, Array.getElem?_eq_getElem (by omega)]; rfl
    clear hs hs' hsl hsz ht hQ hs0 hs1 hs7 hs9 hs10 hs11 hs12
    simp only [Array.getD_eq_getD_getElem?] at u0 u1 u7 u9 u10 u11 u12
    match j, ho with
    | 0, ho =>
      have e : o = { dst := some 80, op := Op.move (Operand.tmp 12), type := 3, pos := "outright.go:58", after := #[], guard := none } := (Option.some.inj ho).symm
      subst e
      clear hdeps
      refine wpOp_step ho (fun K hK => ?_)
      clear ho
      go_simp
      exact hK _ _ ⟨_, act_putD x hdef _ _, rfl, Below.refl _ _⟩
    | 1, ho =>
      have e : o = { dst := some 81, op := Op.binOp BinOp.geq 3 (Operand.tmp 80) (Operand.const (Value.int IntKind.i64 0)) 3, type := 4, pos := "outright.go:58", after := #[{ on := 0, ground := Ground.data }], guard := none } := (Option.some.inj ho).symm
      subst e
      have q0 : x.tmps.getD 80 undef = .int .i64 (k : Nat) := hdeps { on := 0, ground := Ground.data } (by simp) rfl
      simp only [Array.getD_eq_getD_getElem?] at q0
      clear hdeps
      have i3 : (0 : Int) ≤ (k : Int) := by omega
      refine wpOp_step ho (fun K hK => ?_)
      clear ho
      go_simp
      exact hK _ _ ⟨_, act_putD x hdef _ _, rfl, Below.refl _ _⟩
    | 2, ho =>
      have e : o = { dst := some 82, op := Op.move (Operand.tmp 81), type := 4, pos := "outright.go:58", after := #[{ on := 1, ground := Ground.data }], guard := none } := (Option.some.inj ho).symm
      subst e
      have q1 : x.tmps.getD 81 undef = .bool true := hdeps { on := 1, ground := Ground.data } (by simp) rfl
      simp only [Array.getD_eq_getD_getElem?] at q1
      clear hdeps
      refine wpOp_step ho (fun K hK => ?_)
      clear ho
      go_simp
      exact hK _ _ ⟨_, act_putD x hdef _ _, rfl, Below.refl _ _⟩
    | 3, ho =>
      have e : o = { dst := some 83, op := Op.move (Operand.tmp 10), type := 23, pos := "outright.go:58", after := #[{ on := 2, ground := Ground.guard }], guard := some (2, true) } := (Option.some.inj ho).symm
      subst e
      have q2 : x.tmps.getD 82 undef = .bool true := hdeps { on := 2, ground := Ground.guard } (by simp) rfl
      have e2 : (tj15_ops[2]?.bind fun x => x.dst) = some 82 := rfl
      have g2 := get_someR q2 (fun h => by cases h)
      simp only [Array.getD_eq_getD_getElem?] at q2
      clear hdeps
      refine wpOp_step ho (fun K hK => ?_)
      clear ho
      go_simp
      exact hK _ _ ⟨_, act_putD x hdef _ _, rfl, Below.refl _ _⟩
    | 4, ho =>
      have e : o = { dst := some 84, op := Op.move (Operand.tmp 11), type := 3, pos := "outright.go:58", after := #[{ on := 2, ground := Ground.guard }], guard := some (2, true) } := (Option.some.inj ho).symm
      subst e
      have q2 : x.tmps.getD 82 undef = .bool true := hdeps { on := 2, ground := Ground.guard } (by simp) rfl
      have e2 : (tj15_ops[2]?.bind fun x => x.dst) = some 82 := rfl
      have g2 := get_someR q2 (fun h => by cases h)
      simp only [Array.getD_eq_getD_getElem?] at q2
      clear hdeps
      refine wpOp_step ho (fun K hK => ?_)
      clear ho
      go_simp
      exact hK _ _ ⟨_, act_putD x hdef _ _, rfl, Below.refl _ _⟩
    | 5, ho =>
      have e : o = { dst := some 85, op := Op.indexAddr 23 (Operand.tmp 83) (Operand.tmp 84), type := 0, pos := "outright.go:58", after := #[{ on := 3, ground := Ground.data }, { on := 4, ground := Ground.data }, { on := 2, ground := Ground.guard }], guard := some (2, true) } := (Option.some.inj ho).symm
      subst e
      have q3 : x.tmps.getD 83 undef = .slice (some ⟨bz, oz, none⟩) nz Cz := hdeps { on := 3, ground := Ground.data } (by simp) rfl
      have q4 : x.tmps.getD 84 undef = .int .i64 (i : Nat) := hdeps { on := 4, ground := Ground.data } (by simp) rfl
      have q2 : x.tmps.getD 82 undef = .bool true := hdeps { on := 2, ground := Ground.guard } (by simp) rfl
      have e2 : (tj15_ops[2]?.bind fun x => x.dst) = some 82 := rfl
      have g2 := get_someR q2 (fun h => by cases h)
      simp only [Array.getD_eq_getD_getElem?] at q3 q4 q2
      clear hdeps
      have i0 : (0 : Int) ≤ (i : Int) := by omega
      have i1 : (i : Int) < (nz : Int) := by have := hh.out; omega
      refine wpOp_step ho (fun K hK => ?_)
      clear ho
      go_simp
      exact hK _ _ ⟨_, act_putD x hdef _ _, rfl, Below.refl _ _⟩
    | 6, ho =>
      have e : o = { dst := some 86, op := Op.load 3 (Operand.tmp 85), type := 3, pos := "outright.go:58", after := #[{ on := 5, ground := Ground.data }, { on := 2, ground := Ground.guard }], guard := some (2, true) } := (Option.some.inj ho).symm
      subst e
      have q5 : x.tmps.getD 85 undef = .pointer (some ⟨bz, oz + i, none⟩) := hdeps { on := 5, ground := Ground.data } (by simp) rfl
      have q2 : x.tmps.getD 82 undef = .bool true := hdeps { on := 2, ground := Ground.guard } (by simp) rfl
      have e2 : (tj15_ops[2]?.bind fun x => x.dst) = some 82 := rfl
      have g2 := get_someR q2 (fun h => by cases h)
      simp only [Array.getD_eq_getD_getElem?] at q5 q2
      clear hdeps
      have m := cz w hB
      refine wpOp_step ho (fun K hK => ?_)
      clear ho
      go_simp
      exact hK _ _ ⟨_, act_putD x hdef _ _, rfl, Below.refl _ _⟩
    | 7, ho =>
      have e : o = { dst := some 87, op := Op.move (Operand.tmp 9), type := 23, pos := "outright.go:58", after := #[{ on := 2, ground := Ground.guard }], guard := some (2, true) } := (Option.some.inj ho).symm
      subst e
      have q2 : x.tmps.getD 82 undef = .bool true := hdeps { on := 2, ground := Ground.guard } (by simp) rfl
      have e2 : (tj15_ops[2]?.bind fun x => x.dst) = some 82 := rfl
      have g2 := get_someR q2 (fun h => by cases h)
      simp only [Array.getD_eq_getD_getElem?] at q2
      clear hdeps
      refine wpOp_step ho (fun K hK => ?_)
      clear ho
      go_simp
      exact hK _ _ ⟨_, act_putD x hdef _ _, rfl, Below.refl _ _⟩
    | 8, ho =>
      have e : o = { dst := some 88, op := Op.move (Operand.tmp 12), type := 3, pos := "outright.go:58", after := #[{ on := 2, ground := Ground.guard }], guard := some (2, true) } := (Option.some.inj ho).symm
      subst e
      have q2 : x.tmps.getD 82 undef = .bool true := hdeps { on := 2, ground := Ground.guard } (by simp) rfl
      have e2 : (tj15_ops[2]?.bind fun x => x.dst) = some 82 := rfl
      have g2 := get_someR q2 (fun h => by cases h)
      simp only [Array.getD_eq_getD_getElem?] at q2
      clear hdeps
      refine wpOp_step ho (fun K hK => ?_)
      clear ho
      go_simp
      exact hK _ _ ⟨_, act_putD x hdef _ _, rfl, Below.refl _ _⟩
    | 9, ho =>
      have e : o = { dst := some 89, op := Op.indexAddr 23 (Operand.tmp 87) (Operand.tmp 88), type := 0, pos := "outright.go:58", after := #[{ on := 7, ground := Ground.data }, { on := 8, ground := Ground.data }, { on := 2, ground := Ground.guard }], guard := some (2, true) } := (Option.some.inj ho).symm
      subst e
      have q7 : x.tmps.getD 87 undef = .slice (some ⟨b9, o9, none⟩) ny Cy := hdeps { on := 7, ground := Ground.data } (by simp) rfl
      have q8 : x.tmps.getD 88 undef = .int .i64 (k : Nat) := hdeps { on := 8, ground := Ground.data } (by simp) rfl
      have q2 : x.tmps.getD 82 undef = .bool true := hdeps { on := 2, ground := Ground.guard } (by simp) rfl
      have e2 : (tj15_ops[2]?.bind fun x => x.dst) = some 82 := rfl
      have g2 := get_someR q2 (fun h => by cases h)
      simp only [Array.getD_eq_getD_getElem?] at q7 q8 q2
      clear hdeps
      have i0 : (0 : Int) ≤ (k : Int) := by omega
      have i1 : (k : Int) < (ny : Int) := by have := hh.out; omega
      refine wpOp_step ho (fun K hK => ?_)
      clear ho
      go_simp
      exact hK _ _ ⟨_, act_putD x hdef _ _, rfl, Below.refl _ _⟩
    | 10, ho =>
      have e : o = { dst := some 90, op := Op.load 3 (Operand.tmp 89), type := 3, pos := "outright.go:58", after := #[{ on := 9, ground := Ground.data }, { on := 2, ground := Ground.guard }], guard := some (2, true) } := (Option.some.inj ho).symm
      subst e
      have q9 : x.tmps.getD 89 undef = .pointer (some ⟨b9, o9 + k, none⟩) := hdeps { on := 9, ground := Ground.data } (by simp) rfl
      have q2 : x.tmps.getD 82 undef = .bool true := hdeps { on := 2, ground := Ground.guard } (by simp) rfl
      have e2 : (tj15_ops[2]?.bind fun x => x.dst) = some 82 := rfl
      have g2 := get_someR q2 (fun h => by cases h)
      simp only [Array.getD_eq_getD_getElem?] at q9 q2
      clear hdeps
      have m := c9 w hB
      refine wpOp_step ho (fun K hK => ?_)
      clear ho
      go_simp
      exact hK _ _ ⟨_, act_putD x hdef _ _, rfl, Below.refl _ _⟩
    | 11, ho =>
      have e : o = { dst := some 91, op := Op.move (Operand.tmp 0), type := 22, pos := "outright.go:58", after := #[{ on := 2, ground := Ground.guard }], guard := some (2, true) } := (Option.some.inj ho).symm
      subst e
      have q2 : x.tmps.getD 82 undef = .bool true := hdeps { on := 2, ground := Ground.guard } (by simp) rfl
      have e2 : (tj15_ops[2]?.bind fun x => x.dst) = some 82 := rfl
      have g2 := get_someR q2 (fun h => by cases h)
      simp only [Array.getD_eq_getD_getElem?] at q2
      clear hdeps
      refine wpOp_step ho (fun K hK => ?_)
      clear ho
      go_simp
      exact hK _ _ ⟨_, act_putD x hdef _ _, rfl, Below.refl _ _⟩
    | 12, ho =>
      have e : o = { dst := some 92, op := Op.call { callee := Callee.builtin Builtin.len, args := #[Operand.tmp 91], argTypes := #[22] }, type := 3, pos := "outright.go:58", after := #[{ on := 11, ground := Ground.data }, { on := 2, ground := Ground.guard }], guard := some (2, true) } := (Option.some.inj ho).symm
      subst e
      have q11 : x.tmps.getD 91 undef = .slice A la ca := hdeps { on := 11, ground := Ground.data } (by simp) rfl
      have q2 : x.tmps.getD 82 undef = .bool true := hdeps { on := 2, ground := Ground.guard } (by simp) rfl
      have e2 : (tj15_ops[2]?.bind fun x => x.dst) = some 82 := rfl
      have g2 := get_someR q2 (fun h => by cases h)
      simp only [Array.getD_eq_getD_getElem?] at q11 q2
      clear hdeps
      refine wpOp_step ho (fun K hK => ?_)
      clear ho
      go_simp
      exact hK _ _ ⟨_, act_putD x hdef _ _, rfl, Below.refl _ _⟩
    | 13, ho =>
      have e : o = { dst := some 93, op := Op.binOp BinOp.add 3 (Operand.tmp 90) (Operand.tmp 92) 3, type := 3, pos := "outright.go:58", after := #[{ on := 10, ground := Ground.data }, { on := 12, ground := Ground.data }, { on := 2, ground := Ground.guard }], guard := some (2, true) } := (Option.some.inj ho).symm
      subst e
      have q10 : x.tmps.getD 90 undef = .int .i64 (u : Nat) := hdeps { on := 10, ground := Ground.data } (by simp) rfl
      have q12 : x.tmps.getD 92 undef = .int .i64 (la : Nat) := hdeps { on := 12, ground := Ground.data } (by simp) rfl
      have q2 : x.tmps.getD 82 undef = .bool true := hdeps { on := 2, ground := Ground.guard } (by simp) rfl
      have e2 : (tj15_ops[2]?.bind fun x => x.dst) = some 82 := rfl
      have g2 := get_someR q2 (fun h => by cases h)
      simp only [Array.getD_eq_getD_getElem?] at q10 q12 q2
      clear hdeps
      have i2 : (u : Int) + (la : Int) ≤ 9223372036854775807 := by have := hh.out; omega
      have i3 : (0 : Int) ≤ (u : Int) := by omega
      have i4 : (0 : Int) ≤ (la : Int) := by omega
      refine wpOp_step ho (fun K hK => ?_)
      clear ho
      go_simp
      rw [IntWalk.i64_in _ (by have := hh.out; omega)]
      exact hK _ _ ⟨_, act_putD x hdef _ _, rfl, Below.refl _ _⟩
    | 14, ho =>
      have e : o = { dst := some 94, op := Op.binOp BinOp.add 3 (Operand.tmp 93) (Operand.const (Value.int IntKind.i64 1)) 3, type := 3, pos := "outright.go:58", after := #[{ on := 13, ground := Ground.data }, { on := 2, ground := Ground.guard }], guard := some (2, true) } := (Option.some.inj ho).symm
      subst e
      have q13 : x.tmps.getD 93 undef = .int .i64 ((u : Int) + (la : Int)) := hdeps { on := 13, ground := Ground.data } (by simp) rfl
      have q2 : x.tmps.getD 82 undef = .bool true := hdeps { on := 2, ground := Ground.guard } (by simp) rfl
      have e2 : (tj15_ops[2]?.bind fun x => x.dst) = some 82 := rfl
      have g2 := get_someR q2 (fun h => by cases h)
      simp only [Array.getD_eq_getD_getElem?] at q13 q2
      clear hdeps
      have i2 : (u : Int) + (la : Int) + 1 ≤ 9223372036854775807 := by have := hh.out; omega
      have i3 : (0 : Int) ≤ (u : Int) := by omega
      have i4 : (0 : Int) ≤ (la : Int) := by omega
      refine wpOp_step ho (fun K hK => ?_)
      clear ho
      go_simp
      rw [IntWalk.i64_in _ (by have := hh.out; omega)]
      exact hK _ _ ⟨_, act_putD x hdef _ _, rfl, Below.refl _ _⟩
    | 15, ho =>
      have e : o = { dst := some 95, op := Op.binOp BinOp.neq 3 (Operand.tmp 86) (Operand.tmp 94) 3, type := 4, pos := "outright.go:58", after := #[{ on := 6, ground := Ground.data }, { on := 14, ground := Ground.data }, { on := 2, ground := Ground.guard }], guard := some (2, true) } := (Option.some.inj ho).symm
      subst e
      have q6 : x.tmps.getD 86 undef = .int .i64 ((u : Int) + (la : Int) + 1) := hdeps { on := 6, ground := Ground.data } (by simp) rfl
      have q14 : x.tmps.getD 94 undef = .int .i64 ((u : Int) + (la : Int) + 1) := hdeps { on := 14, ground := Ground.data } (by simp) rfl
      have q2 : x.tmps.getD 82 undef = .bool true := hdeps { on := 2, ground := Ground.guard } (by simp) rfl
      have e2 : (tj15_ops[2]?.bind fun x => x.dst) = some 82 := rfl
      have g2 := get_someR q2 (fun h => by cases h)
      simp only [Array.getD_eq_getD_getElem?] at q6 q14 q2
      clear hdeps
      refine wpOp_step ho (fun K hK => ?_)
      clear ho
      go_simp
      exact hK _ _ ⟨_, act_putD x hdef _ _, rfl, Below.refl _ _⟩
    | 16, ho =>
      have e : o = { dst := some 96, op := Op.move (Operand.tmp 95), type := 4, pos := "outright.go:58", after := #[{ on := 15, ground := Ground.data }, { on := 2, ground := Ground.chain }, { on := 2, ground := Ground.guard }], guard := some (2, true) } := (Option.some.inj ho).symm
      subst e
      have q15 : x.tmps.getD 95 undef = .bool false := hdeps { on := 15, ground := Ground.data } (by simp) rfl
      have q2 : x.tmps.getD 82 undef = .bool true := hdeps { on := 2, ground := Ground.guard } (by simp) rfl
      have e2 : (tj15_ops[2]?.bind fun x => x.dst) = some 82 := rfl
      have g2 := get_someR q2 (fun h => by cases h)
      simp only [Array.getD_eq_getD_getElem?] at q15 q2
      clear hdeps
      refine wpOp_step ho (fun K hK => ?_)
      clear ho
      go_simp
      exact hK _ _ ⟨_, act_putD x hdef _ _, rfl, Below.refl _ _⟩
    | 17, ho =>
      have e : o = { dst := some 97, op := Op.move (Operand.tmp 7), type := 22, pos := "outright.go:58", after := #[{ on := 16, ground := Ground.guard }], guard := some (16, false) } := (Option.some.inj ho).symm
      subst e
      have q16 : x.tmps.getD 96 undef = .bool false := hdeps { on := 16, ground := Ground.guard } (by simp) rfl
      have e16 : (tj15_ops[16]?.bind fun x => x.dst) = some 96 := rfl
      have g16 := get_someR q16 (fun h => by cases h)
      simp only [Array.getD_eq_getD_getElem?] at q16
      clear hdeps
      refine wpOp_step ho (fun K hK => ?_)
      clear ho
      go_simp
      exact hK _ _ ⟨_, act_putD x hdef _ _, rfl, Below.refl _ _⟩
    | 18, ho =>
      have e : o = { dst := some 98, op := Op.move (Operand.tmp 10), type := 23, pos := "outright.go:58", after := #[{ on := 16, ground := Ground.guard }], guard := some (16, false) } := (Option.some.inj ho).symm
      subst e
      have q16 : x.tmps.getD 96 undef = .bool false := hdeps { on := 16, ground := Ground.guard } (by simp) rfl
      have e16 : (tj15_ops[16]?.bind fun x => x.dst) = some 96 := rfl
      have g16 := get_someR q16 (fun h => by cases h)
      simp only [Array.getD_eq_getD_getElem?] at q16
      clear hdeps
      refine wpOp_step ho (fun K hK => ?_)
      clear ho
      go_simp
      exact hK _ _ ⟨_, act_putD x hdef _ _, rfl, Below.refl _ _⟩
    | 19, ho =>
      have e : o = { dst := some 99, op := Op.move (Operand.tmp 11), type := 3, pos := "outright.go:58", after := #[{ on := 16, ground := Ground.guard }], guard := some (16, false) } := (Option.some.inj ho).symm
      subst e
      have q16 : x.tmps.getD 96 undef = .bool false := hdeps { on := 16, ground := Ground.guard } (by simp) rfl
      have e16 : (tj15_ops[16]?.bind fun x => x.dst) = some 96 := rfl
      have g16 := get_someR q16 (fun h => by cases h)
      simp only [Array.getD_eq_getD_getElem?] at q16
      clear hdeps
      refine wpOp_step ho (fun K hK => ?_)
      clear ho
      go_simp
      exact hK _ _ ⟨_, act_putD x hdef _ _, rfl, Below.refl _ _⟩
    | 20, ho =>
      have e : o = { dst := some 100, op := Op.binOp BinOp.add 3 (Operand.tmp 99) (Operand.const (Value.int IntKind.i64 1)) 3, type := 3, pos := "outright.go:58", after := #[{ on := 19, ground := Ground.data }, { on := 16, ground := Ground.guard }], guard := some (16, false) } := (Option.some.inj ho).symm
      subst e
      have q19 : x.tmps.getD 99 undef = .int .i64 (i : Nat) := hdeps { on := 19, ground := Ground.data } (by simp) rfl
      have q16 : x.tmps.getD 96 undef = .bool false := hdeps { on := 16, ground := Ground.guard } (by simp) rfl
      have e16 : (tj15_ops[16]?.bind fun x => x.dst) = some 96 := rfl
      have g16 := get_someR q16 (fun h => by cases h)
      simp only [Array.getD_eq_getD_getElem?] at q19 q16
      clear hdeps
      have i2 : (i : Int) + 1 ≤ 9223372036854775807 := by have := hh.out; omega
      have i3 : (0 : Int) ≤ (i : Int) := by omega
      refine wpOp_step ho (fun K hK => ?_)
      clear ho
      go_simp
      rw [IntWalk.i64_in _ (by have := hh.out; omega)]
      exact hK _ _ ⟨_, act_putD x hdef _ _, rfl, Below.refl _ _⟩
    | 21, ho =>
      have e : o = { dst := some 101, op := Op.call { callee := Callee.value (Operand.func 15), args := #[Operand.tmp 97, Operand.tmp 98, Operand.tmp 100], argTypes := #[22, 23, 3] }, type := 9, pos := "outright.go:58", after := #[{ on := 17, ground := Ground.data }, { on := 18, ground := Ground.data }, { on := 20, ground := Ground.data }, { on := 16, ground := Ground.chain }, { on := 16, ground := Ground.guard }], guard := some (16, false) } := (Option.some.inj ho).symm
      subst e
      have q17 : x.tmps.getD 97 undef = .slice AL n CL := hdeps { on := 17, ground := Ground.data } (by simp) rfl
      have q18 : x.tmps.getD 98 undef = .slice (some ⟨bz, oz, none⟩) nz Cz := hdeps { on := 18, ground := Ground.data } (by simp) rfl
      have q20 : x.tmps.getD 100 undef = .int .i64 ((i : Int) + 1) := hdeps { on := 20, ground := Ground.data } (by simp) rfl
      have q16 : x.tmps.getD 96 undef = .bool false := hdeps { on := 16, ground := Ground.guard } (by simp) rfl
      have e16 : (tj15_ops[16]?.bind fun x => x.dst) = some 96 := rfl
      have g16 := get_someR q16 (fun h => by cases h)
      simp only [Array.getD_eq_getD_getElem?] at q17 q18 q20 q16
      clear hdeps
      refine wpOp_step ho (fun K hK => ?_)
      clear ho
      go_simp
      refine (c1 w hB).mono ?_
      rintro e w' ⟨rfl, hb⟩
      exact hK _ _ ⟨_, act_putD x hdef _ _, rfl, hb⟩
    | 22, ho =>
      have e : o = { dst := some 102, op := Op.move (Operand.tmp 1), type := 22, pos := "outright.go:58", after := #[{ on := 16, ground := Ground.guard }], guard := some (16, false) } := (Option.some.inj ho).symm
      subst e
      have q16 : x.tmps.getD 96 undef = .bool false := hdeps { on := 16, ground := Ground.guard } (by simp) rfl
      have e16 : (tj15_ops[16]?.bind fun x => x.dst) = some 96 := rfl
      have g16 := get_someR q16 (fun h => by cases h)
      simp only [Array.getD_eq_getD_getElem?] at q16
      clear hdeps
      refine wpOp_step ho (fun K hK => ?_)
      clear ho
      go_simp
      exact hK _ _ ⟨_, act_putD x hdef _ _, rfl, Below.refl _ _⟩
    | 23, ho =>
      have e : o = { dst := some 103, op := Op.move (Operand.tmp 9), type := 23, pos := "outright.go:58", after := #[{ on := 16, ground := Ground.guard }], guard := some (16, false) } := (Option.some.inj ho).symm
      subst e
      have q16 : x.tmps.getD 96 undef = .bool false := hdeps { on := 16, ground := Ground.guard } (by simp) rfl
      have e16 : (tj15_ops[16]?.bind fun x => x.dst) = some 96 := rfl
      have g16 := get_someR q16 (fun h => by cases h)
      simp only [Array.getD_eq_getD_getElem?] at q16
      clear hdeps
      refine wpOp_step ho (fun K hK => ?_)
      clear ho
      go_simp
      exact hK _ _ ⟨_, act_putD x hdef _ _, rfl, Below.refl _ _⟩
    | 24, ho =>
      have e : o = { dst := some 104, op := Op.move (Operand.tmp 12), type := 3, pos := "outright.go:58", after := #[{ on := 16, ground := Ground.guard }], guard := some (16, false) } := (Option.some.inj ho).symm
      subst e
      have q16 : x.tmps.getD 96 undef = .bool false := hdeps { on := 16, ground := Ground.guard } (by simp) rfl
      have e16 : (tj15_ops[16]?.bind fun x => x.dst) = some 96 := rfl
      have g16 := get_someR q16 (fun h => by cases h)
      simp only [Array.getD_eq_getD_getElem?] at q16
      clear hdeps
      refine wpOp_step ho (fun K hK => ?_)
      clear ho
      go_simp
      exact hK _ _ ⟨_, act_putD x hdef _ _, rfl, Below.refl _ _⟩
    | 25, ho =>
      have e : o = { dst := some 105, op := Op.binOp BinOp.add 3 (Operand.tmp 104) (Operand.const (Value.int IntKind.i64 1)) 3, type := 3, pos := "outright.go:58", after := #[{ on := 24, ground := Ground.data }, { on := 16, ground := Ground.guard }], guard := some (16, false) } := (Option.some.inj ho).symm
      subst e
      have q24 : x.tmps.getD 104 undef = .int .i64 (k : Nat) := hdeps { on := 24, ground := Ground.data } (by simp) rfl
      have q16 : x.tmps.getD 96 undef = .bool false := hdeps { on := 16, ground := Ground.guard } (by simp) rfl
      have e16 : (tj15_ops[16]?.bind fun x => x.dst) = some 96 := rfl
      have g16 := get_someR q16 (fun h => by cases h)
      simp only [Array.getD_eq_getD_getElem?] at q24 q16
      clear hdeps
      have i2 : (k : Int) + 1 ≤ 9223372036854775807 := by have := hh.out; omega
      have i3 : (0 : Int) ≤ (k : Int) := by omega
      refine wpOp_step ho (fun K hK => ?_)
      clear ho
      go_simp
      rw [IntWalk.i64_in _ (by have := hh.out; omega)]
      exact hK _ _ ⟨_, act_putD x hdef _ _, rfl, Below.refl _ _⟩
    | 26, ho =>
      have e : o = { dst := some 106, op := Op.call { callee := Callee.value (Operand.func 15), args := #[Operand.tmp 102, Operand.tmp 103, Operand.tmp 105], argTypes := #[22, 23, 3] }, type := 9, pos := "outright.go:58", after := #[{ on := 22, ground := Ground.data }, { on := 23, ground := Ground.data }, { on := 25, ground := Ground.data }, { on := 21, ground := Ground.chain }, { on := 16, ground := Ground.guard }], guard := some (16, false) } := (Option.some.inj ho).symm
      subst e
      have q22 : x.tmps.getD 102 undef = .slice B lb cb := hdeps { on := 22, ground := Ground.data } (by simp) rfl
      have q23 : x.tmps.getD 103 undef = .slice (some ⟨b9, o9, none⟩) ny Cy := hdeps { on := 23, ground := Ground.data } (by simp) rfl
      have q25 : x.tmps.getD 105 undef = .int .i64 ((k : Int) + 1) := hdeps { on := 25, ground := Ground.data } (by simp) rfl
      have q16 : x.tmps.getD 96 undef = .bool false := hdeps { on := 16, ground := Ground.guard } (by simp) rfl
      have e16 : (tj15_ops[16]?.bind fun x => x.dst) = some 96 := rfl
      have g16 := get_someR q16 (fun h => by cases h)
      simp only [Array.getD_eq_getD_getElem?] at q22 q23 q25 q16
      clear hdeps
      refine wpOp_step ho (fun K hK => ?_)
      clear ho
      go_simp
      refine (c2 w hB).mono ?_
      rintro e w' ⟨rfl, hb⟩
      exact hK _ _ ⟨_, act_putD x hdef _ _, rfl, hb⟩
    | 27, ho =>
      have e : o = { dst := some 107, op := Op.binOp BinOp.neq 9 (Operand.tmp 101) (Operand.tmp 106) 9, type := 4, pos := "outright.go:58", after := #[{ on := 21, ground := Ground.data }, { on := 26, ground := Ground.data }, { on := 16, ground := Ground.guard }], guard := some (16, false) } := (Option.some.inj ho).symm
      subst e
      have q21 : x.tmps.getD 101 undef = .string S := hdeps { on := 21, ground := Ground.data } (by simp) rfl
      have q26 : x.tmps.getD 106 undef = .string S := hdeps { on := 26, ground := Ground.data } (by simp) rfl
      have q16 : x.tmps.getD 96 undef = .bool false := hdeps { on := 16, ground := Ground.guard } (by simp) rfl
      have e16 : (tj15_ops[16]?.bind fun x => x.dst) = some 96 := rfl
      have g16 := get_someR q16 (fun h => by cases h)
      simp only [Array.getD_eq_getD_getElem?] at q21 q26 q16
      clear hdeps
      refine wpOp_step ho (fun K hK => ?_)
      clear ho
      go_simp
      exact hK _ _ ⟨_, act_putD x hdef _ _, rfl, Below.refl _ _⟩
    | 28, ho =>
      have e : o = { dst := some 108, op := Op.pick (Operand.tmp 96) (Operand.const (Value.bool true)) (Operand.tmp 107), type := 4, pos := "outright.go:58", after := #[{ on := 16, ground := Ground.data }, { on := 27, ground := Ground.data }, { on := 2, ground := Ground.guard }], guard := some (2, true) } := (Option.some.inj ho).symm
      subst e
      have q16 : x.tmps.getD 96 undef = .bool false := hdeps { on := 16, ground := Ground.data } (by simp) rfl
      have q27 : x.tmps.getD 107 undef = .bool false := hdeps { on := 27, ground := Ground.data } (by simp) rfl
      have q2 : x.tmps.getD 82 undef = .bool true := hdeps { on := 2, ground := Ground.guard } (by simp) rfl
      have e2 : (tj15_ops[2]?.bind fun x => x.dst) = some 82 := rfl
      have g2 := get_someR q2 (fun h => by cases h)
      simp only [Array.getD_eq_getD_getElem?] at q16 q27 q2
      clear hdeps
      refine wpOp_step ho (fun K hK => ?_)
      clear ho
      go_simp
      exact hK _ _ ⟨_, act_putD x hdef _ _, rfl, Below.refl _ _⟩
    | 29, ho =>
      have e : o = { dst := some 109, op := Op.pick (Operand.tmp 82) (Operand.tmp 108) (Operand.const (Value.bool false)), type := 4, pos := "outright.go:58", after := #[{ on := 2, ground := Ground.data }, { on := 28, ground := Ground.data }], guard := none } := (Option.some.inj ho).symm
      subst e
      have q2 : x.tmps.getD 82 undef = .bool true := hdeps { on := 2, ground := Ground.data } (by simp) rfl
      have q28 : x.tmps.getD 108 undef = .bool false := hdeps { on := 28, ground := Ground.data } (by simp) rfl
      simp only [Array.getD_eq_getD_getElem?] at q2 q28
      clear hdeps
      refine wpOp_step ho (fun K hK => ?_)
      clear ho
      go_simp
      exact hK _ _ ⟨_, act_putD x hdef _ _, rfl, Below.refl _ _⟩
    | k + 30, _ => omega
  · intro x w hB hdef hsz hs hv
    have hx := frame_sets x.tmps t0 hsz [80, 81, 82, 83, 84, 85, 86, 87, 88, 89, 90, 91, 92, 93, 94, 95, 96, 97, 98, 99, 100, 101, 102, 103, 104, 105, 106, 107, 108, 109] (fun s hn => hs s (fun j hj e => hn (tj15_list s (by rw [e]; exact hsl j hj))))
    have hq := hQ (fun d => x.tmps.getD d undef) w hB (hv 29 (by decide))
    obtain ⟨T, Df⟩ := x
    dsimp only at hx hdef hq
    subst hdef
    rw [← hx] at hq
    exact hq

def tj15F_val (kz : Int) : Nat → Value → World → Prop
  | 0, v, w => v = .int .i64 kz
  | 1, v, w => v = .bool false
  | 2, v, w => v = .bool false
  | 3, v, w => v = undef
  | 4, v, w => v = undef
  | 5, v, w => v = undef
  | 6, v, w => v = undef
  | 7, v, w => v = undef
  | 8, v, w => v = undef
  | 9, v, w => v = undef
  | 10, v, w => v = undef
  | 11, v, w => v = undef
  | 12, v, w => v = undef
  | 13, v, w => v = undef
  | 14, v, w => v = undef
  | 15, v, w => v = undef
  | 16, v, w => v = undef
  | 17, v, w => v = undef
  | 18, v, w => v = undef
  | 19, v, w => v = undef
  | 20, v, w => v = undef
  | 21, v, w => v = undef
  | 22, v, w => v = undef
  | 23, v, w => v = undef
  | 24, v, w => v = undef
  | 25, v, w => v = undef
  | 26, v, w => v = undef
  | 27, v, w => v = undef
  | 28, v, w => v = undef
  | 29, v, w => v = .bool false
  | _, _, _ => True
theorem tj15F_below (kz : Int) (w w' : World) (hb : Below w.heap.size w w') : ∀ j v, tj15F_val kz j v w → tj15F_val kz j v w' := by
  intro j v h
  match j, h with
  | 0, h => exact h
  | 1, h => exact h
  | 2, h => exact h
  | 3, h => exact h
  | 4, h => exact h
  | 5, h => exact h
  | 6, h => exact h
  | 7, h => exact h
  | 8, h => exact h
  | 9, h => exact h
  | 10, h => exact h
  | 11, h => exact h
  | 12, h => exact h
  | 13, h => exact h
  | 14, h => exact h
  | 15, h => exact h
  | 16, h => exact h
  | 17, h => exact h
  | 18, h => exact h
  | 19, h => exact h
  | 20, h => exact h
  | 21, h => exact h
  | 22, h => exact h
  | 23, h => exact h
  | 24, h => exact h
  | 25, h => exact h
  | 26, h => exact h
  | 27, h => exact h
  | 28, h => exact h
  | 29, h => exact h
  | _ + 30, h => exact h

set_option maxRecDepth 100000 in
set_option maxHeartbeats 10000000 in
theorem tj15F (kz : Int) (Q : Exit → Act → World → Prop) (t0 : Array Value) (w0 : World) (ht : t0.size = 110)
    (hs12 : t0.getD 12 undef = .int .i64 kz)
    (hh : Hid (kz < 0))
    (hQ : ∀ (vs : Nat → Value) (w : World), Below w0.heap.size w0 w → (vs 109 = .bool false) → Q .normal { tmps := [80, 81, 82, 83, 84, 85, 86, 87, 88, 89, 90, 91, 92, 93, 94, 95, 96, 97, 98, 99, 100, 101, 102, 103, 104, 105, 106, 107, 108, 109].foldl (fun y d => y.setIfInBounds d (vs d)) t0, defers := [] } w) :
    (Code.region 15 tj15_ops true).wp Try.prog Q { tmps := t0, defers := [] } w0 := by
  have hsl : ∀ j, j < 30 → tj15_mem (tj15_slot j) := by
    intro j hj
    match j, hj with
    | 0, _ => exact (by decide : tj15_mem 80)
    | 1, _ => exact (by decide : tj15_mem 81)
    | 2, _ => exact (by decide : tj15_mem 82)
    | 3, _ => exact (by decide : tj15_mem 83)
    | 4, _ => exact (by decide : tj15_mem 84)
    | 5, _ => exact (by decide : tj15_mem 85)
    | 6, _ => exact (by decide : tj15_mem 86)
    | 7, _ => exact (by decide : tj15_mem 87)
    | 8, _ => exact (by decide : tj15_mem 88)
    | 9, _ => exact (by decide : tj15_mem 89)
    | 10, _ => exact (by decide : tj15_mem 90)
    | 11, _ => exact (by decide : tj15_mem 91)
    | 12, _ => exact (by decide : tj15_mem 92)
    | 13, _ => exact (by decide : tj15_mem 93)
    | 14, _ => exact (by decide : tj15_mem 94)
    | 15, _ => exact (by decide : tj15_mem 95)
    | 16, _ => exact (by decide : tj15_mem 96)
    | 17, _ => exact (by decide : tj15_mem 97)
    | 18, _ => exact (by decide : tj15_mem 98)
    | 19, _ => exact (by decide : tj15_mem 99)
    | 20, _ => exact (by decide : tj15_mem 100)
    | 21, _ => exact (by decide : tj15_mem 101)
    | 22, _ => exact (by decide : tj15_mem 102)
    | 23, _ => exact (by decide : tj15_mem 103)
    | 24, _ => exact (by decide : tj15_mem 104)
    | 25, _ => exact (by decide : tj15_mem 105)
    | 26, _ => exact (by decide : tj15_mem 106)
    | 27, _ => exact (by decide : tj15_mem 107)
    | 28, _ => exact (by decide : tj15_mem 108)
    | 29, _ => exact (by decide : tj15_mem 109)
    | k + 30, hj => omega
  refine wp_region_inv (by kernel_rfl) tj15_slot (tj15F_val kz) t0 w0 ?_ ?_ ?_ (tj15F_below kz) ?_ ?_
  · intro j o ho
    have hj : j < 30 := (Array.getElem?_eq_some_iff.1 ho).1
    rw [ht]
    match j, ho with
    | 0, ho => cases ho; exact ⟨rfl, by decide⟩
    | 1, ho => cases ho; exact ⟨rfl, by decide⟩
    | 2, ho => cases ho; exact ⟨rfl, by decide⟩
    | 3, ho => cases ho; exact ⟨rfl, by decide⟩
    | 4, ho => cases ho; exact ⟨rfl, by decide⟩
    | 5, ho => cases ho; exact ⟨rfl, by decide⟩
    | 6, ho => cases ho; exact ⟨rfl, by decide⟩
    | 7, ho => cases ho; exact ⟨rfl, by decide⟩
    | 8, ho => cases ho; exact ⟨rfl, by decide⟩
    | 9, ho => cases ho; exact ⟨rfl, by decide⟩
    | 10, ho => cases ho; exact ⟨rfl, by decide⟩
    | 11, ho => cases ho; exact ⟨rfl, by decide⟩
    | 12, ho => cases ho; exact ⟨rfl, by decide⟩
    | 13, ho => cases ho; exact ⟨rfl, by decide⟩
    | 14, ho => cases ho; exact ⟨rfl, by decide⟩
    | 15, ho => cases ho; exact ⟨rfl, by decide⟩
    | 16, ho => cases ho; exact ⟨rfl, by decide⟩
    | 17, ho => cases ho; exact ⟨rfl, by decide⟩
    | 18, ho => cases ho; exact ⟨rfl, by decide⟩
    | 19, ho => cases ho; exact ⟨rfl, by decide⟩
    | 20, ho => cases ho; exact ⟨rfl, by decide⟩
    | 21, ho => cases ho; exact ⟨rfl, by decide⟩
    | 22, ho => cases ho; exact ⟨rfl, by decide⟩
    | 23, ho => cases ho; exact ⟨rfl, by decide⟩
    | 24, ho => cases ho; exact ⟨rfl, by decide⟩
    | 25, ho => cases ho; exact ⟨rfl, by decide⟩
    | 26, ho => cases ho; exact ⟨rfl, by decide⟩
    | 27, ho => cases ho; exact ⟨rfl, by decide⟩
    | 28, ho => cases ho; exact ⟨rfl, by decide⟩
    | 29, ho => cases ho; exact ⟨rfl, by decide⟩
    | k + 30, _ => omega
  · intro i j hi hj h
    exact tj15_inj i j hi hj h
  · intro j o ho
    have hj : j < 30 := (Array.getElem?_eq_some_iff.1 ho).1
    match j, ho with
    | 0, ho => cases ho; decide
    | 1, ho => cases ho; decide
    | 2, ho => cases ho; decide
    | 3, ho => cases ho; decide
    | 4, ho => cases ho; decide
    | 5, ho => cases ho; decide
    | 6, ho => cases ho; decide
    | 7, ho => cases ho; decide
    | 8, ho => cases ho; decide
    | 9, ho => cases ho; decide
    | 10, ho => cases ho; decide
    | 11, ho => cases ho; decide
    | 12, ho => cases ho; decide
    | 13, ho => cases ho; decide
    | 14, ho => cases ho; decide
    | 15, ho => cases ho; decide
    | 16, ho => cases ho; decide
    | 17, ho => cases ho; decide
    | 18, ho => cases ho; decide
    | 19, ho => cases ho; decide
    | 20, ho => cases ho; decide
    | 21, ho => cases ho; decide
    | 22, ho => cases ho; decide
    | 23, ho => cases ho; decide
    | 24, ho => cases ho; decide
    | 25, ho => cases ho; decide
    | 26, ho => cases ho; decide
    | 27, ho => cases ho; decide
    | 28, ho => cases ho; decide
    | 29, ho => cases ho; decide
    | k + 30, _ => omega
  · intro j o ho x w hB hdef hsz hs hdeps
    have hs' : ∀ s, ¬ tj15_mem s → x.tmps.getD s undef = t0.getD s undef := fun s hn => hs s (fun j hj e => hn (by rw [e]; exact hsl j hj))
    have u12 := (hs' 12 (by decide)).trans hs12
    have hj : j < 30 := (Array.getElem?_eq_some_iff.1 ho).1
    have hns : Hid (∀ s, s < 110 → x.tmps[s]? = some (x.tmps.getD s undef)) := fun s h => by rw [Array.getD_eq_getD_getElem?, Array.getElem?_eq_getElem (by omega)]; rfl
    clear hs hs' hsl hsz ht hQ hs12
    simp only [Array.getD_eq_getD_getElem?] at u12
    match j, ho with
    | 0, ho =>
      have e : o = { dst := some 80, op := Op.move (Operand.tmp 12), type := 3, pos := "outright.go:58", after := #[], guard := none } := (Option.some.inj ho).symm
      subst e
      clear hdeps
      refine wpOp_step ho (fun K hK => ?_)
      clear ho
      go_simp
      exact hK _ _ ⟨_, act_putD x hdef _ _, rfl, Below.refl _ _⟩
    | 1, ho =>
      have e : o = { dst := some 81, op := Op.binOp BinOp.geq 3 (Operand.tmp 80) (Operand.const (Value.int IntKind.i64 0)) 3, type := 4, pos := "outright.go:58", after := #[{ on := 0, ground := Ground.data }], guard := none } := (Option.some.inj ho).symm
      subst e
      have q0 : x.tmps.getD 80 undef = .int .i64 kz := hdeps { on := 0, ground := Ground.data } (by simp) rfl
      simp only [Array.getD_eq_getD_getElem?] at q0
      clear hdeps
      have i1 : ¬ ((0 : Int) ≤ kz) := by have := hh.out; omega
      refine wpOp_step ho (fun K hK => ?_)
      clear ho
      go_simp
      exact hK _ _ ⟨_, act_putD x hdef _ _, rfl, Below.refl _ _⟩
    | 2, ho =>
      have e : o = { dst := some 82, op := Op.move (Operand.tmp 81), type := 4, pos := "outright.go:58", after := #[{ on := 1, ground := Ground.data }], guard := none } := (Option.some.inj ho).symm
      subst e
      have q1 : x.tmps.getD 81 undef = .bool false := hdeps { on := 1, ground := Ground.data } (by simp) rfl
      simp only [Array.getD_eq_getD_getElem?] at q1
      clear hdeps
      refine wpOp_step ho (fun K hK => ?_)
      clear ho
      go_simp
      exact hK _ _ ⟨_, act_putD x hdef _ _, rfl, Below.refl _ _⟩
    | 3, ho =>
      have e : o = { dst := some 83, op := Op.move (Operand.tmp 10), type := 23, pos := "outright.go:58", after := #[{ on := 2, ground := Ground.guard }], guard := some (2, true) } := (Option.some.inj ho).symm
      subst e
      have q2 : x.tmps.getD 82 undef = .bool false := hdeps { on := 2, ground := Ground.guard } (by simp) rfl
      have e2 : (tj15_ops[2]?.bind fun x => x.dst) = some 82 := rfl
      have g2 := get_someR q2 (fun h => by cases h)
      simp only [Array.getD_eq_getD_getElem?] at q2
      clear hdeps
      refine wpOp_step ho (fun K hK => ?_)
      clear ho
      go_simp
      exact hK _ _ ⟨_, act_putD x hdef _ _, rfl, Below.refl _ _⟩
    | 4, ho =>
      have e : o = { dst := some 84, op := Op.move (Operand.tmp 11), type := 3, pos := "outright.go:58", after := #[{ on := 2, ground := Ground.guard }], guard := some (2, true) } := (Option.some.inj ho).symm
      subst e
      have q2 : x.tmps.getD 82 undef = .bool false := hdeps { on := 2, ground := Ground.guard } (by simp) rfl
      have e2 : (tj15_ops[2]?.bind fun x => x.dst) = some 82 := rfl
      have g2 := get_someR q2 (fun h => by cases h)
      simp only [Array.getD_eq_getD_getElem?] at q2
      clear hdeps
      refine wpOp_step ho (fun K hK => ?_)
      clear ho
      go_simp
      exact hK _ _ ⟨_, act_putD x hdef _ _, rfl, Below.refl _ _⟩
    | 5, ho =>
      have e : o = { dst := some 85, op := Op.indexAddr 23 (Operand.tmp 83) (Operand.tmp 84), type := 0, pos := "outright.go:58", after := #[{ on := 3, ground := Ground.data }, { on := 4, ground := Ground.data }, { on := 2, ground := Ground.guard }], guard := some (2, true) } := (Option.some.inj ho).symm
      subst e
      have q3 : x.tmps.getD 83 undef = undef := hdeps { on := 3, ground := Ground.data } (by simp) rfl
      have q4 : x.tmps.getD 84 undef = undef := hdeps { on := 4, ground := Ground.data } (by simp) rfl
      have q2 : x.tmps.getD 82 undef = .bool false := hdeps { on := 2, ground := Ground.guard } (by simp) rfl
      have e2 : (tj15_ops[2]?.bind fun x => x.dst) = some 82 := rfl
      have g2 := get_someR q2 (fun h => by cases h)
      simp only [Array.getD_eq_getD_getElem?] at q3 q4 q2
      clear hdeps
      refine wpOp_step ho (fun K hK => ?_)
      clear ho
      go_simp
      exact hK _ _ ⟨_, act_putD x hdef _ _, rfl, Below.refl _ _⟩
    | 6, ho =>
      have e : o = { dst := some 86, op := Op.load 3 (Operand.tmp 85), type := 3, pos := "outright.go:58", after := #[{ on := 5, ground := Ground.data }, { on := 2, ground := Ground.guard }], guard := some (2, true) } := (Option.some.inj ho).symm
      subst e
      have q5 : x.tmps.getD 85 undef = undef := hdeps { on := 5, ground := Ground.data } (by simp) rfl
      have q2 : x.tmps.getD 82 undef = .bool false := hdeps { on := 2, ground := Ground.guard } (by simp) rfl
      have e2 : (tj15_ops[2]?.bind fun x => x.dst) = some 82 := rfl
      have g2 := get_someR q2 (fun h => by cases h)
      simp only [Array.getD_eq_getD_getElem?] at q5 q2
      clear hdeps
      refine wpOp_step ho (fun K hK => ?_)
      clear ho
      go_simp
      exact hK _ _ ⟨_, act_putD x hdef _ _, rfl, Below.refl _ _⟩
    | 7, ho =>
      have e : o = { dst := some 87, op := Op.move (Operand.tmp 9), type := 23, pos := "outright.go:58", after := #[{ on := 2, ground := Ground.guard }], guard := some (2, true) } := (Option.some.inj ho).symm
      subst e
      have q2 : x.tmps.getD 82 undef = .bool false := hdeps { on := 2, ground := Ground.guard } (by simp) rfl
      have e2 : (tj15_ops[2]?.bind fun x => x.dst) = some 82 := rfl
      have g2 := get_someR q2 (fun h => by cases h)
      simp only [Array.getD_eq_getD_getElem?] at q2
      clear hdeps
      refine wpOp_step ho (fun K hK => ?_)
      clear ho
      go_simp
      exact hK _ _ ⟨_, act_putD x hdef _ _, rfl, Below.refl _ _⟩
    | 8, ho =>
      have e : o = { dst := some 88, op := Op.move (Operand.tmp 12), type := 3, pos := "outright.go:58", after := #[{ on := 2, ground := Ground.guard }], guard := some (2, true) } := (Option.some.inj ho).symm
      subst e
      have q2 : x.tmps.getD 82 undef = .bool false := hdeps { on := 2, ground := Ground.guard } (by simp) rfl
      have e2 : (tj15_ops[2]?.bind fun x => x.dst) = some 82 := rfl
      have g2 := get_someR q2 (fun h => by cases h)
      simp only [Array.getD_eq_getD_getElem?] at q2
      clear hdeps
      refine wpOp_step ho (fun K hK => ?_)
      clear ho
      go_simp
      exact hK _ _ ⟨_, act_putD x hdef _ _, rfl, Below.refl _ _⟩
    | 9, ho =>
      have e : o = { dst := some 89, op := Op.indexAddr 23 (Operand.tmp 87) (Operand.tmp 88), type := 0, pos := "outright.go:58", after := #[{ on := 7, ground := Ground.data }, { on := 8, ground := Ground.data }, { on := 2, ground := Ground.guard }], guard := some (2, true) } := (Option.some.inj ho).symm
      subst e
      have q7 : x.tmps.getD 87 undef = undef := hdeps { on := 7, ground := Ground.data } (by simp) rfl
      have q8 : x.tmps.getD 88 undef = undef := hdeps { on := 8, ground := Ground.data } (by simp) rfl
      have q2 : x.tmps.getD 82 undef = .bool false := hdeps { on := 2, ground := Ground.guard } (by simp) rfl
      have e2 : (tj15_ops[2]?.bind fun x => x.dst) = some 82 := rfl
      have g2 := get_someR q2 (fun h => by cases h)
      simp only [Array.getD_eq_getD_getElem?] at q7 q8 q2
      clear hdeps
      refine wpOp_step ho (fun K hK => ?_)
      clear ho
      go_simp
      exact hK _ _ ⟨_, act_putD x hdef _ _, rfl, Below.refl _ _⟩
    | 10, ho =>
      have e : o = { dst := some 90, op := Op.load 3 (Operand.tmp 89), type := 3, pos := "outright.go:58", after := #[{ on := 9, ground := Ground.data }, { on := 2, ground := Ground.guard }], guard := some (2, true) } := (Option.some.inj ho).symm
      subst e
      have q9 : x.tmps.getD 89 undef = undef := hdeps { on := 9, ground := Ground.data } (by simp) rfl
      have q2 : x.tmps.getD 82 undef = .bool false := hdeps { on := 2, ground := Ground.guard } (by simp) rfl
      have e2 : (tj15_ops[2]?.bind fun x => x.dst) = some 82 := rfl
      have g2 := get_someR q2 (fun h => by cases h)
      simp only [Array.getD_eq_getD_getElem?] at q9 q2
      clear hdeps
      refine wpOp_step ho (fun K hK => ?_)
      clear ho
      go_simp
      exact hK _ _ ⟨_, act_putD x hdef _ _, rfl, Below.refl _ _⟩
    | 11, ho =>
      have e : o = { dst := some 91, op := Op.move (Operand.tmp 0), type := 22, pos := "outright.go:58", after := #[{ on := 2, ground := Ground.guard }], guard := some (2, true) } := (Option.some.inj ho).symm
      subst e
      have q2 : x.tmps.getD 82 undef = .bool false := hdeps { on := 2, ground := Ground.guard } (by simp) rfl
      have e2 : (tj15_ops[2]?.bind fun x => x.dst) = some 82 := rfl
      have g2 := get_someR q2 (fun h => by cases h)
      simp only [Array.getD_eq_getD_getElem?] at q2
      clear hdeps
      refine wpOp_step ho (fun K hK => ?_)
      clear ho
      go_simp
      exact hK _ _ ⟨_, act_putD x hdef _ _, rfl, Below.refl _ _⟩
    | 12, ho =>
      have e : o = { dst := some 92, op := Op.call { callee := Callee.builtin Builtin.len, args := #[Operand.tmp 91], argTypes := #[22] }, type := 3, pos := "outright.go:58", after := #[{ on := 11, ground := Ground.data }, { on := 2, ground := Ground.guard }], guard := some (2, true) } := (Option.some.inj ho).symm
      subst e
      have q11 : x.tmps.getD 91 undef = undef := hdeps { on := 11, ground := Ground.data } (by simp) rfl
      have q2 : x.tmps.getD 82 undef = .bool false := hdeps { on := 2, ground := Ground.guard } (by simp) rfl
      have e2 : (tj15_ops[2]?.bind fun x => x.dst) = some 82 := rfl
      have g2 := get_someR q2 (fun h => by cases h)
      simp only [Array.getD_eq_getD_getElem?] at q11 q2
      clear hdeps
      refine wpOp_step ho (fun K hK => ?_)
      clear ho
      go_simp
      exact hK _ _ ⟨_, act_putD x hdef _ _, rfl, Below.refl _ _⟩
    | 13, ho =>
      have e : o = { dst := some 93, op := Op.binOp BinOp.add 3 (Operand.tmp 90) (Operand.tmp 92) 3, type := 3, pos := "outright.go:58", after := #[{ on := 10, ground := Ground.data }, { on := 12, ground := Ground.data }, { on := 2, ground := Ground.guard }], guard := some (2, true) } := (Option.some.inj ho).symm
      subst e
      have q10 : x.tmps.getD 90 undef = undef := hdeps { on := 10, ground := Ground.data } (by simp) rfl
      have q12 : x.tmps.getD 92 undef = undef := hdeps { on := 12, ground := Ground.data } (by simp) rfl
      have q2 : x.tmps.getD 82 undef = .bool false := hdeps { on := 2, ground := Ground.guard } (by simp) rfl
      have e2 : (tj15_ops[2]?.bind fun x => x.dst) = some 82 := rfl
      have g2 := get_someR q2 (fun h => by cases h)
      simp only [Array.getD_eq_getD_getElem?] at q10 q12 q2
      clear hdeps
      refine wpOp_step ho (fun K hK => ?_)
      clear ho
      go_simp
      exact hK _ _ ⟨_, act_putD x hdef _ _, rfl, Below.refl _ _⟩
    | 14, ho =>
      have e : o = { dst := some 94, op := Op.binOp BinOp.add 3 (Operand.tmp 93) (Operand.const (Value.int IntKind.i64 1)) 3, type := 3, pos := "outright.go:58", after := #[{ on := 13, ground := Ground.data }, { on := 2, ground := Ground.guard }], guard := some (2, true) } := (Option.some.inj ho).symm
      subst e
      have q13 : x.tmps.getD 93 undef = undef := hdeps { on := 13, ground := Ground.data } (by simp) rfl
      have q2 : x.tmps.getD 82 undef = .bool false := hdeps { on := 2, ground := Ground.guard } (by simp) rfl
      have e2 : (tj15_ops[2]?.bind fun x => x.dst) = some 82 := rfl
      have g2 := get_someR q2 (fun h => by cases h)
      simp only [Array.getD_eq_getD_getElem?] at q13 q2
      clear hdeps
      refine wpOp_step ho (fun K hK => ?_)
      clear ho
      go_simp
      exact hK _ _ ⟨_, act_putD x hdef _ _, rfl, Below.refl _ _⟩
    | 15, ho =>
      have e : o = { dst := some 95, op := Op.binOp BinOp.neq 3 (Operand.tmp 86) (Operand.tmp 94) 3, type := 4, pos := "outright.go:58", after := #[{ on := 6, ground := Ground.data }, { on := 14, ground := Ground.data }, { on := 2, ground := Ground.guard }], guard := some (2, true) } := (Option.some.inj ho).symm
      subst e
      have q6 : x.tmps.getD 86 undef = undef := hdeps { on := 6, ground := Ground.data } (by simp) rfl
      have q14 : x.tmps.getD 94 undef = undef := hdeps { on := 14, ground := Ground.data } (by simp) rfl
      have q2 : x.tmps.getD 82 undef = .bool false := hdeps { on := 2, ground := Ground.guard } (by simp) rfl
      have e2 : (tj15_ops[2]?.bind fun x => x.dst) = some 82 := rfl
      have g2 := get_someR q2 (fun h => by cases h)
      simp only [Array.getD_eq_getD_getElem?] at q6 q14 q2
      clear hdeps
      refine wpOp_step ho (fun K hK => ?_)
      clear ho
      go_simp
      exact hK _ _ ⟨_, act_putD x hdef _ _, rfl, Below.refl _ _⟩
    | 16, ho =>
      have e : o = { dst := some 96, op := Op.move (Operand.tmp 95), type := 4, pos := "outright.go:58", after := #[{ on := 15, ground := Ground.data }, { on := 2, ground := Ground.chain }, { on := 2, ground := Ground.guard }], guard := some (2, true) } := (Option.some.inj ho).symm
      subst e
      have q15 : x.tmps.getD 95 undef = undef := hdeps { on := 15, ground := Ground.data } (by simp) rfl
      have q2 : x.tmps.getD 82 undef = .bool false := hdeps { on := 2, ground := Ground.guard } (by simp) rfl
      have e2 : (tj15_ops[2]?.bind fun x => x.dst) = some 82 := rfl
      have g2 := get_someR q2 (fun h => by cases h)
      simp only [Array.getD_eq_getD_getElem?] at q15 q2
      clear hdeps
      refine wpOp_step ho (fun K hK => ?_)
      clear ho
      go_simp
      exact hK _ _ ⟨_, act_putD x hdef _ _, rfl, Below.refl _ _⟩
    | 17, ho =>
      have e : o = { dst := some 97, op := Op.move (Operand.tmp 7), type := 22, pos := "outright.go:58", after := #[{ on := 16, ground := Ground.guard }], guard := some (16, false) } := (Option.some.inj ho).symm
      subst e
      have q16 : x.tmps.getD 96 undef = undef := hdeps { on := 16, ground := Ground.guard } (by simp) rfl
      have e16 : (tj15_ops[16]?.bind fun x => x.dst) = some 96 := rfl
      have g16 : x.tmps[96]? = some undef := (hns.out 96 (by omega)).trans (congrArg some q16)
      simp only [Array.getD_eq_getD_getElem?] at q16
      clear hdeps
      refine wpOp_step ho (fun K hK => ?_)
      clear ho
      go_simp
      exact hK _ _ ⟨_, act_putD x hdef _ _, rfl, Below.refl _ _⟩
    | 18, ho =>
      have e : o = { dst := some 98, op := Op.move (Operand.tmp 10), type := 23, pos := "outright.go:58", after := #[{ on := 16, ground := Ground.guard }], guard := some (16, false) } := (Option.some.inj ho).symm
      subst e
      have q16 : x.tmps.getD 96 undef = undef := hdeps { on := 16, ground := Ground.guard } (by simp) rfl
      have e16 : (tj15_ops[16]?.bind fun x => x.dst) = some 96 := rfl
      have g16 : x.tmps[96]? = some undef := (hns.out 96 (by omega)).trans (congrArg some q16)
      simp only [Array.getD_eq_getD_getElem?] at q16
      clear hdeps
      refine wpOp_step ho (fun K hK => ?_)
      clear ho
      go_simp
      exact hK _ _ ⟨_, act_putD x hdef _ _, rfl, Below.refl _ _⟩
    | 19, ho =>
      have e : o = { dst := some 99, op := Op.move (Operand.tmp 11), type := 3, pos := "outright.go:58", after := #[{ on := 16, ground := Ground.guard }], guard := some (16, false) } := (Option.some.inj ho).symm
      subst e
      have q16 : x.tmps.getD 96 undef = undef := hdeps { on := 16, ground := Ground.guard } (by simp) rfl
      have e16 : (tj15_ops[16]?.bind fun x => x.dst) = some 96 := rfl
      have g16 : x.tmps[96]? = some undef := (hns.out 96 (by omega)).trans (congrArg some q16)
      simp only [Array.getD_eq_getD_getElem?] at q16
      clear hdeps
      refine wpOp_step ho (fun K hK => ?_)
      clear ho
      go_simp
      exact hK _ _ ⟨_, act_putD x hdef _ _, rfl, Below.refl _ _⟩
    | 20, ho =>
      have e : o = { dst := some 100, op := Op.binOp BinOp.add 3 (Operand.tmp 99) (Operand.const (Value.int IntKind.i64 1)) 3, type := 3, pos := "outright.go:58", after := #[{ on := 19, ground := Ground.data }, { on := 16, ground := Ground.guard }], guard := some (16, false) } := (Option.some.inj ho).symm
      subst e
      have q19 : x.tmps.getD 99 undef = undef := hdeps { on := 19, ground := Ground.data } (by simp) rfl
      have q16 : x.tmps.getD 96 undef = undef := hdeps { on := 16, ground := Ground.guard } (by simp) rfl
      have e16 : (tj15_ops[16]?.bind fun x => x.dst) = some 96 := rfl
      have g16 : x.tmps[96]? = some undef := (hns.out 96 (by omega)).trans (congrArg some q16)
      simp only [Array.getD_eq_getD_getElem?] at q19 q16
      clear hdeps
      refine wpOp_step ho (fun K hK => ?_)
      clear ho
      go_simp
      exact hK _ _ ⟨_, act_putD x hdef _ _, rfl, Below.refl _ _⟩
    | 21, ho =>
      have e : o = { dst := some 101, op := Op.call { callee := Callee.value (Operand.func 15), args := #[Operand.tmp 97, Operand.tmp 98, Operand.tmp 100], argTypes := #[22, 23, 3] }, type := 9, pos := "outright.go:58", after := #[{ on := 17, ground := Ground.data }, { on := 18, ground := Ground.data }, { on := 20, ground := Ground.data }, { on := 16, ground := Ground.chain }, { on := 16, ground := Ground.guard }], guard := some (16, false) } := (Option.some.inj ho).symm
      subst e
      have q17 : x.tmps.getD 97 undef = undef := hdeps { on := 17, ground := Ground.data } (by simp) rfl
      have q18 : x.tmps.getD 98 undef = undef := hdeps { on := 18, ground := Ground.data } (by simp) rfl
      have q20 : x.tmps.getD 100 undef = undef := hdeps { on := 20, ground := Ground.data } (by simp) rfl
      have q16 : x.tmps.getD 96 undef = undef := hdeps { on := 16, ground := Ground.guard } (by simp) rfl
      have e16 : (tj15_ops[16]?.bind fun x => x.dst) = some 96 := rfl
      have g16 : x.tmps[96]? = some undef := (hns.out 96 (by omega)).trans (congrArg some q16)
      simp only [Array.getD_eq_getD_getElem?] at q17 q18 q20 q16
      clear hdeps
      refine wpOp_step ho (fun K hK => ?_)
      clear ho
      go_simp
      exact hK _ _ ⟨_, act_putD x hdef _ _, rfl, Below.refl _ _⟩
    | 22, ho =>
      have e : o = { dst := some 102, op := Op.move (Operand.tmp 1), type := 22, pos := "outright.go:58", after := #[{ on := 16, ground := Ground.guard }], guard := some (16, false) } := (Option.some.inj ho).symm
      subst e
      have q16 : x.tmps.getD 96 undef = undef := hdeps { on := 16, ground := Ground.guard } (by simp) rfl
      have e16 : (tj15_ops[16]?.bind fun x => x.dst) = some 96 := rfl
      have g16 : x.tmps[96]? = some undef := (hns.out 96 (by omega)).trans (congrArg some q16)
      simp only [Array.getD_eq_getD_getElem?] at q16
      clear hdeps
      refine wpOp_step ho (fun K hK => ?_)
      clear ho
      go_simp
      exact hK _ _ ⟨_, act_putD x hdef _ _, rfl, Below.refl _ _⟩
    | 23, ho =>
      have e : o = { dst := some 103, op := Op.move (Operand.tmp 9), type := 23, pos := "outright.go:58", after := #[{ on := 16, ground := Ground.guard }], guard := some (16, false) } := (Option.some.inj ho).symm
      subst e
      have q16 : x.tmps.getD 96 undef = undef := hdeps { on := 16, ground := Ground.guard } (by simp) rfl
      have e16 : (tj15_ops[16]?.bind fun x => x.dst) = some 96 := rfl
      have g16 : x.tmps[96]? = some undef := (hns.out 96 (by omega)).trans (congrArg some q16)
      simp only [Array.getD_eq_getD_getElem?] at q16
      clear hdeps
      refine wpOp_step ho (fun K hK => ?_)
      clear ho
      go_simp
      exact hK _ _ ⟨_, act_putD x hdef _ _, rfl, Below.refl _ _⟩
    | 24, ho =>
      have e : o = { dst := some 104, op := Op.move (Operand.tmp 12), type := 3, pos := "outright.go:58", after := #[{ on := 16, ground := Ground.guard }], guard := some (16, false) } := (Option.some.inj ho).symm
      subst e
      have q16 : x.tmps.getD 96 undef = undef := hdeps { on := 16, ground := Ground.guard } (by simp) rfl
      have e16 : (tj15_ops[16]?.bind fun x => x.dst) = some 96 := rfl
      have g16 : x.tmps[96]? = some undef := (hns.out 96 (by omega)).trans (congrArg some q16)
      simp only [Array.getD_eq_getD_getElem?] at q16
      clear hdeps
      refine wpOp_step ho (fun K hK => ?_)
      clear ho
      go_simp
      exact hK _ _ ⟨_, act_putD x hdef _ _, rfl, Below.refl _ _⟩
    | 25, ho =>
      have e : o = { dst := some 105, op := Op.binOp BinOp.add 3 (Operand.tmp 104) (Operand.const (Value.int IntKind.i64 1)) 3, type := 3, pos := "outright.go:58", after := #[{ on := 24, ground := Ground.data }, { on := 16, ground := Ground.guard }], guard := some (16, false) } := (Option.some.inj ho).symm
      subst e
      have q24 : x.tmps.getD 104 undef = undef := hdeps { on := 24, ground := Ground.data } (by simp) rfl
      have q16 : x.tmps.getD 96 undef = undef := hdeps { on := 16, ground := Ground.guard } (by simp) rfl
      have e16 : (tj15_ops[16]?.bind fun x => x.dst) = some 96 := rfl
      have g16 : x.tmps[96]? = some undef := (hns.out 96 (by omega)).trans (congrArg some q16)
      simp only [Array.getD_eq_getD_getElem?] at q24 q16
      clear hdeps
      refine wpOp_step ho (fun K hK => ?_)
      clear ho
      go_simp
      exact hK _ _ ⟨_, act_putD x hdef _ _, rfl, Below.refl _ _⟩
    | 26, ho =>
      have e : o = { dst := some 106, op := Op.call { callee := Callee.value (Operand.func 15), args := #[Operand.tmp 102, Operand.tmp 103, Operand.tmp 105], argTypes := #[22, 23, 3] }, type := 9, pos := "outright.go:58", after := #[{ on := 22, ground := Ground.data }, { on := 23, ground := Ground.data }, { on := 25, ground := Ground.data }, { on := 21, ground := Ground.chain }, { on := 16, ground := Ground.guard }], guard := some (16, false) } := (Option.some.inj ho).symm
      subst e
      have q22 : x.tmps.getD 102 undef = undef := hdeps { on := 22, ground := Ground.data } (by simp) rfl
      have q23 : x.tmps.getD 103 undef = undef := hdeps { on := 23, ground := Ground.data } (by simp) rfl
      have q25 : x.tmps.getD 105 undef = undef := hdeps { on := 25, ground := Ground.data } (by simp) rfl
      have q16 : x.tmps.getD 96 undef = undef := hdeps { on := 16, ground := Ground.guard } (by simp) rfl
      have e16 : (tj15_ops[16]?.bind fun x => x.dst) = some 96 := rfl
      have g16 : x.tmps[96]? = some undef := (hns.out 96 (by omega)).trans (congrArg some q16)
      simp only [Array.getD_eq_getD_getElem?] at q22 q23 q25 q16
      clear hdeps
      refine wpOp_step ho (fun K hK => ?_)
      clear ho
      go_simp
      exact hK _ _ ⟨_, act_putD x hdef _ _, rfl, Below.refl _ _⟩
    | 27, ho =>
      have e : o = { dst := some 107, op := Op.binOp BinOp.neq 9 (Operand.tmp 101) (Operand.tmp 106) 9, type := 4, pos := "outright.go:58", after := #[{ on := 21, ground := Ground.data }, { on := 26, ground := Ground.data }, { on := 16, ground := Ground.guard }], guard := some (16, false) } := (Option.some.inj ho).symm
      subst e
      have q21 : x.tmps.getD 101 undef = undef := hdeps { on := 21, ground := Ground.data } (by simp) rfl
      have q26 : x.tmps.getD 106 undef = undef := hdeps { on := 26, ground := Ground.data } (by simp) rfl
      have q16 : x.tmps.getD 96 undef = undef := hdeps { on := 16, ground := Ground.guard } (by simp) rfl
      have e16 : (tj15_ops[16]?.bind fun x => x.dst) = some 96 := rfl
      have g16 : x.tmps[96]? = some undef := (hns.out 96 (by omega)).trans (congrArg some q16)
      simp only [Array.getD_eq_getD_getElem?] at q21 q26 q16
      clear hdeps
      refine wpOp_step ho (fun K hK => ?_)
      clear ho
      go_simp
      exact hK _ _ ⟨_, act_putD x hdef _ _, rfl, Below.refl _ _⟩
    | 28, ho =>
      have e : o = { dst := some 108, op := Op.pick (Operand.tmp 96) (Operand.const (Value.bool true)) (Operand.tmp 107), type := 4, pos := "outright.go:58", after := #[{ on := 16, ground := Ground.data }, { on := 27, ground := Ground.data }, { on := 2, ground := Ground.guard }], guard := some (2, true) } := (Option.some.inj ho).symm
      subst e
      have q16 : x.tmps.getD 96 undef = undef := hdeps { on := 16, ground := Ground.data } (by simp) rfl
      have q27 : x.tmps.getD 107 undef = undef := hdeps { on := 27, ground := Ground.data } (by simp) rfl
      have q2 : x.tmps.getD 82 undef = .bool false := hdeps { on := 2, ground := Ground.guard } (by simp) rfl
      have e2 : (tj15_ops[2]?.bind fun x => x.dst) = some 82 := rfl
      have g2 := get_someR q2 (fun h => by cases h)
      simp only [Array.getD_eq_getD_getElem?] at q16 q27 q2
      clear hdeps
      refine wpOp_step ho (fun K hK => ?_)
      clear ho
      go_simp
      exact hK _ _ ⟨_, act_putD x hdef _ _, rfl, Below.refl _ _⟩
    | 29, ho =>
      have e : o = { dst := some 109, op := Op.pick (Operand.tmp 82) (Operand.tmp 108) (Operand.const (Value.bool false)), type := 4, pos := "outright.go:58", after := #[{ on := 2, ground := Ground.data }, { on := 28, ground := Ground.data }], guard := none } := (Option.some.inj ho).symm
      subst e
      have q2 : x.tmps.getD 82 undef = .bool false := hdeps { on := 2, ground := Ground.data } (by simp) rfl
      have q28 : x.tmps.getD 108 undef = undef := hdeps { on := 28, ground := Ground.data } (by simp) rfl
      simp only [Array.getD_eq_getD_getElem?] at q2 q28
      clear hdeps
      refine wpOp_step ho (fun K hK => ?_)
      clear ho
      go_simp
      exact hK _ _ ⟨_, act_putD x hdef _ _, rfl, Below.refl _ _⟩
    | k + 30, _ => omega
  · intro x w hB hdef hsz hs hv
    have hx := frame_sets x.tmps t0 hsz [80, 81, 82, 83, 84, 85, 86, 87, 88, 89, 90, 91, 92, 93, 94, 95, 96, 97, 98, 99, 100, 101, 102, 103, 104, 105, 106, 107, 108, 109] (fun s hn => hs s (fun j hj e => hn (tj15_list s (by rw [e]; exact hsl j hj))))
    have hq := hQ (fun d => x.tmps.getD d undef) w hB (hv 29 (by decide))
    obtain ⟨T, Df⟩ := x
    dsimp only at hx hdef hq
    subst hdef
    rw [← hx] at hq
    exact hq

end Go.Proofs.Yteanibapabafnaa
