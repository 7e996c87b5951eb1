/-
  CrcParts's last statement: four sums, in whatever order their parts are made.
-/
import Derived.Test.YtdcpgoijjnkjaaaEndsM
import Derived.Test.YtdcpgoijjnkjaaaRegion
namespace Go.Proofs.Ytdcpgoijjnkjaaa
open Go.RowKit

/-- The operations of that statement, as the program has them. -/
def ops13 : Array Oper :=
  #[{ dst := some 79, op := Op.move (Operand.tmp 8), type := 24, pos := "outright.go:46", after := #[], guard := none },
    { dst := some 80, op := Op.buildSlice 22 1 #[(0, Operand.tmp 79)], type := 22, pos := "outright.go:46", after := #[{ on := 0, ground := Ground.data }], guard := none },
    { dst := some 81, op := Op.call { callee := Callee.value (Operand.func 11), args := #[Operand.tmp 80], argTypes := #[22] }, type := 23, pos := "outright.go:46", after := #[{ on := 1, ground := Ground.data }], guard := none },
    { dst := some 82, op := Op.move (Operand.tmp 0), type := 24, pos := "outright.go:46", after := #[], guard := none },
    { dst := some 83, op := Op.buildSlice 22 1 #[(0, Operand.tmp 82)], type := 22, pos := "outright.go:46", after := #[{ on := 3, ground := Ground.data }], guard := none },
    { dst := some 84, op := Op.call { callee := Callee.value (Operand.func 11), args := #[Operand.tmp 83], argTypes := #[22] }, type := 23, pos := "outright.go:46", after := #[{ on := 4, ground := Ground.data }, { on := 2, ground := Ground.chain }], guard := none },
    { dst := some 85, op := Op.move (Operand.tmp 2), type := 24, pos := "outright.go:46", after := #[], guard := none },
    { dst := some 86, op := Op.move (Operand.tmp 0), type := 24, pos := "outright.go:46", after := #[], guard := none },
    { dst := some 87, op := Op.call { callee := Callee.builtin Builtin.len, args := #[Operand.tmp 86], argTypes := #[24] }, type := 3, pos := "outright.go:46", after := #[{ on := 7, ground := Ground.data }], guard := none },
    { dst := some 88, op := Op.slice 24 (Operand.tmp 85) none (some (Operand.tmp 87)) none, type := 24, pos := "outright.go:46", after := #[{ on := 6, ground := Ground.data }, { on := 8, ground := Ground.data }], guard := none },
    { dst := some 89, op := Op.buildSlice 22 1 #[(0, Operand.tmp 88)], type := 22, pos := "outright.go:46", after := #[{ on := 9, ground := Ground.data }], guard := none },
    { dst := some 90, op := Op.call { callee := Callee.value (Operand.func 11), args := #[Operand.tmp 89], argTypes := #[22] }, type := 23, pos := "outright.go:46", after := #[{ on := 10, ground := Ground.data }, { on := 5, ground := Ground.chain }], guard := none },
    { dst := some 91, op := Op.binOp BinOp.xor 23 (Operand.tmp 84) (Operand.tmp 90) 23, type := 23, pos := "outright.go:46", after := #[{ on := 5, ground := Ground.data }, { on := 11, ground := Ground.data }], guard := none },
    { dst := some 92, op := Op.move (Operand.tmp 9), type := 24, pos := "outright.go:46", after := #[], guard := none },
    { dst := some 93, op := Op.buildSlice 22 1 #[(0, Operand.tmp 92)], type := 22, pos := "outright.go:46", after := #[{ on := 13, ground := Ground.data }], guard := none },
    { dst := some 94, op := Op.call { callee := Callee.value (Operand.func 11), args := #[Operand.tmp 93], argTypes := #[22] }, type := 23, pos := "outright.go:46", after := #[{ on := 14, ground := Ground.data }, { on := 11, ground := Ground.chain }], guard := none },
    { dst := some 95, op := Op.binOp BinOp.xor 23 (Operand.tmp 91) (Operand.tmp 94) 23, type := 23, pos := "outright.go:46", after := #[{ on := 12, ground := Ground.data }, { on := 15, ground := Ground.data }], guard := none },
    { dst := some 96, op := Op.binOp BinOp.eql 23 (Operand.tmp 81) (Operand.tmp 95) 23, type := 4, pos := "outright.go:46", after := #[{ on := 2, ground := Ground.data }, { on := 16, ground := Ground.data }], guard := none },
    { dst := some 6, op := Op.assign (Operand.tmp 96), type := 4, pos := "outright.go:46", after := #[{ on := 17, ground := Ground.data }, { on := 15, ground := Ground.chain }, { on := 0, ground := Ground.phase }, { on := 1, ground := Ground.phase }, { on := 2, ground := Ground.phase }, { on := 3, ground := Ground.phase }, { on := 4, ground := Ground.phase }, { on := 5, ground := Ground.phase }, { on := 6, ground := Ground.phase }, { on := 7, ground := Ground.phase }, { on := 8, ground := Ground.phase }, { on := 9, ground := Ground.phase }, { on := 10, ground := Ground.phase }, { on := 11, ground := Ground.phase }, { on := 12, ground := Ground.phase }, { on := 13, ground := Ground.phase }, { on := 14, ground := Ground.phase }, { on := 15, ground := Ground.phase }, { on := 16, ground := Ground.phase }, { on := 17, ground := Ground.phase }], guard := none }]
def slot13 (i : Nat) : Nat := if i = 18 then 6 else 79 + i
/-- What each of them leaves in its slot. -/
def val13 (x1 x2 n cap len2 cap2 : Nat) (a a2 A3 : Option Addr) (SX SB SC D S0 : Nat) : Nat → Value → World → Prop
  | 0, v, _ => v = .slice (some ⟨x1, 0, none⟩) n n
  | 1, v, w => ∃ g, v = .slice (some ⟨g, 0, none⟩) 1 1 ∧ w.cell? ⟨g, 0, none⟩ = some (.slice (some ⟨x1, 0, none⟩) n n)
  | 2, v, _ => v = .int .u32 SX
  | 3, v, _ => v = .slice a n cap
  | 4, v, w => ∃ g, v = .slice (some ⟨g, 0, none⟩) 1 1 ∧ w.cell? ⟨g, 0, none⟩ = some (.slice a n cap)
  | 5, v, _ => v = .int .u32 SB
  | 6, v, _ => v = .slice a2 len2 cap2
  | 7, v, _ => v = .slice a n cap
  | 8, v, _ => v = .int .i64 n
  | 9, v, _ => v = .slice A3 n cap2
  | 10, v, w => ∃ g, v = .slice (some ⟨g, 0, none⟩) 1 1 ∧ w.cell? ⟨g, 0, none⟩ = some (.slice A3 n cap2)
  | 11, v, _ => v = .int .u32 SC
  | 12, v, _ => v = .int .u32 D
  | 13, v, _ => v = .slice (some ⟨x2, 0, none⟩) n n
  | 14, v, w => ∃ g, v = .slice (some ⟨g, 0, none⟩) 1 1 ∧ w.cell? ⟨g, 0, none⟩ = some (.slice (some ⟨x2, 0, none⟩) n n)
  | 15, v, _ => v = .int .u32 S0
  | 16, v, _ => v = .int .u32 SX
  | _, v, _ => v = .bool true

theorem val13_below (x1 x2 n cap len2 cap2 : Nat) (a a2 A3 : Option Addr) (SX SB SC D S0 : Nat) (w w' : World) (hb : Below w.heap.size w w') : ∀ i v, val13 x1 x2 n cap len2 cap2 a a2 A3 SX SB SC D S0 i v w → val13 x1 x2 n cap len2 cap2 a a2 A3 SX SB SC D S0 i v w' := by
  intro i v h
  match i, h with
  | 0, h => exact h
  | 1, h => obtain ⟨g, h1, h2⟩ := h; exact ⟨g, h1, cell_thru h2 hb⟩
  | 2, h => exact h
  | 3, h => exact h
  | 4, h => obtain ⟨g, h1, h2⟩ := h; exact ⟨g, h1, cell_thru h2 hb⟩
  | 5, h => exact h
  | 6, h => exact h
  | 7, h => exact h
  | 8, h => exact h
  | 9, h => exact h
  | 10, h => obtain ⟨g, h1, h2⟩ := h; exact ⟨g, h1, cell_thru h2 hb⟩
  | 11, h => exact h
  | 12, h => exact h
  | 13, h => exact h
  | 14, h => obtain ⟨g, h1, h2⟩ := h; exact ⟨g, h1, cell_thru h2 hb⟩
  | 15, h => exact h
  | 16, h => exact h
  | _ + 17, h => exact h

theorem put_nil (x : Act) (h : x.defers = []) (d : Nat) (v : Value) : ({ tmps := x.tmps.setIfInBounds d v, defers := [] } : Act) = x.put (some d) v := by
  cases x; cases h; rfl

set_option maxRecDepth 100000 in
set_option maxHeartbeats 1000000 in
theorem region13 (x1 x2 n cap len2 cap2 : Nat) (a a2 A3 : Option Addr) (SX SB SC D S0 : Nat) (Q : Exit → Act → World → Prop) (t0 : Array Value) (w0 : World) (ht : t0.size = 97)
    (h0 : t0.getD 0 undef = .slice a n cap) (h2 : t0.getD 2 undef = .slice a2 len2 cap2) (h8 : t0.getD 8 undef = .slice (some ⟨x1, 0, none⟩) n n) (h9 : t0.getD 9 undef = .slice (some ⟨x2, 0, none⟩) n n)
    (hA3 : ∀ wx, (Instr.slice 24 (.slice a2 len2 cap2) none (some (.int .i64 (n : Int))) none).run Try.prog wx = .ok (.slice A3 n cap2) wx)
    (hD1 : bits BinOp.xor IntKind.u32 (SB : Int) (SC : Int) = (D : Int)) (hD2 : bits BinOp.xor IntKind.u32 (D : Int) (S0 : Int) = (SX : Int))
    (c1 : ∀ (W : World) (g : Nat), Below w0.heap.size w0 W → W.cell? ⟨g, 0, none⟩ = some (.slice (some ⟨x1, 0, none⟩) n n) → Calls Try.prog 11 #[.slice (some ⟨g, 0, none⟩) 1 1] W fun e w' => e = .returned (.int .u32 SX) ∧ Below W.heap.size W w')
    (c2 : ∀ (W : World) (g : Nat), Below w0.heap.size w0 W → W.cell? ⟨g, 0, none⟩ = some (.slice a n cap) → Calls Try.prog 11 #[.slice (some ⟨g, 0, none⟩) 1 1] W fun e w' => e = .returned (.int .u32 SB) ∧ Below W.heap.size W w')
    (c3 : ∀ (W : World) (g : Nat), Below w0.heap.size w0 W → W.cell? ⟨g, 0, none⟩ = some (.slice A3 n cap2) → Calls Try.prog 11 #[.slice (some ⟨g, 0, none⟩) 1 1] W fun e w' => e = .returned (.int .u32 SC) ∧ Below W.heap.size W w')
    (c4 : ∀ (W : World) (g : Nat), Below w0.heap.size w0 W → W.cell? ⟨g, 0, none⟩ = some (.slice (some ⟨x2, 0, none⟩) n n) → Calls Try.prog 11 #[.slice (some ⟨g, 0, none⟩) 1 1] W fun e w' => e = .returned (.int .u32 S0) ∧ Below W.heap.size W w')
    (hQ : ∀ (x : Act) (w : World), Below w0.heap.size w0 w → x.defers = [] → x.tmps.size = 97 → (∀ s, s ≠ 6 → ¬ (79 ≤ s ∧ s ≤ 96) → x.tmps.getD s undef = t0.getD s undef) → x.tmps.getD 6 undef = .bool true → Q .normal x w) :
    (Code.region 13 ops13 true).wp Try.prog Q { tmps := t0, defers := [] } w0 := by
  have hun : ∀ (x : Act), (∀ s, (∀ j, j < ops13.size → s ≠ slot13 j) → x.tmps.getD s undef = t0.getD s undef) → ∀ s, s ≠ 6 → ¬ (79 ≤ s ∧ s ≤ 96) → x.tmps.getD s undef = t0.getD s undef := by
    intro x h s h6 hs
    refine h s (fun j hj => ?_)
    have hj' : j < 19 := hj
    unfold slot13
    split <;> omega
  refine wp_region_inv (by kernel_rfl) slot13 (val13 x1 x2 n cap len2 cap2 a a2 A3 SX SB SC D S0) t0 w0 ?_ ?_ ?_ (val13_below x1 x2 n cap len2 cap2 a a2 A3 SX SB SC D S0) ?_ ?_
  · intro i o ho
    have hi : i < 19 := (Array.getElem?_eq_some_iff.1 ho).1
    refine ⟨?_, by rw [ht]; unfold slot13; split <;> omega⟩
    match i, ho with
    | 0, ho => cases ho; rfl
    | 1, ho => cases ho; rfl
    | 2, ho => cases ho; rfl
    | 3, ho => cases ho; rfl
    | 4, ho => cases ho; rfl
    | 5, ho => cases ho; rfl
    | 6, ho => cases ho; rfl
    | 7, ho => cases ho; rfl
    | 8, ho => cases ho; rfl
    | 9, ho => cases ho; rfl
    | 10, ho => cases ho; rfl
    | 11, ho => cases ho; rfl
    | 12, ho => cases ho; rfl
    | 13, ho => cases ho; rfl
    | 14, ho => cases ho; rfl
    | 15, ho => cases ho; rfl
    | 16, ho => cases ho; rfl
    | 17, ho => cases ho; rfl
    | 18, ho => cases ho; rfl
    | k + 19, _ => omega
  · intro i j hi hj h
    have hi' : i < 19 := hi
    have hj' : j < 19 := hj
    unfold slot13 at h
    split at h <;> split at h <;> omega
  · intro i o ho
    have hi : i < 19 := (Array.getElem?_eq_some_iff.1 ho).1
    match i, ho with
    | 0, ho => cases ho; decide
    | 1, ho => cases ho; decide
    | 2, ho => cases ho; decide
    | 3, ho => cases ho; decide
    | 4, ho => cases ho; decide
    | 5, ho => cases ho; decide
    | 6, ho => cases ho; decide
    | 7, ho => cases ho; decide
    | 8, ho => cases ho; decide
    | 9, ho => cases ho; decide
    | 10, ho => cases ho; decide
    | 11, ho => cases ho; decide
    | 12, ho => cases ho; decide
    | 13, ho => cases ho; decide
    | 14, ho => cases ho; decide
    | 15, ho => cases ho; decide
    | 16, ho => cases ho; decide
    | 17, ho => cases ho; decide
    | 18, ho => cases ho; decide
    | k + 19, _ => omega
  · intro i o ho x w hB hdef hsz hs hdeps
    have hs' := hun x hs
    have u0 := (hs' 0 (by omega) (by omega)).trans h0
    have u2 := (hs' 2 (by omega) (by omega)).trans h2
    have u8 := (hs' 8 (by omega) (by omega)).trans h8
    have u9 := (hs' 9 (by omega) (by omega)).trans h9
    have hi : i < 19 := (Array.getElem?_eq_some_iff.1 ho).1
    clear hs hs' hun h0 h2 h8 h9 hQ hsz ht
    simp only [Array.getD_eq_getD_getElem?] at u0 u2 u8 u9
    match i, ho with
    | 0, ho =>
      have e : o = { dst := some 79, op := Op.move (Operand.tmp 8), type := 24, pos := "outright.go:46", after := #[], guard := none } := (Option.some.inj ho).symm
      subst e
      clear hdeps
      refine wpOp_step ho (fun K hK => ?_)
      clear ho
      go_simp
      exact hK _ _ ⟨_, put_nil x hdef _ _, rfl, Below.refl _ _⟩
    | 1, ho =>
      have e : o = { dst := some 80, op := Op.buildSlice 22 1 #[(0, Operand.tmp 79)], type := 22, pos := "outright.go:46", after := #[{ on := 0, ground := Ground.data }], guard := none } := (Option.some.inj ho).symm
      subst e
      have q0 : x.tmps.getD 79 undef = .slice (some ⟨x1, 0, none⟩) n n := hdeps { on := 0, ground := Ground.data } (by simp) rfl
      simp only [Array.getD_eq_getD_getElem?] at q0
      clear hdeps
      refine wpOp_step ho (fun K hK => ?_)
      clear ho
      go_simp
      exact hK _ _ ⟨_, put_nil x hdef _ _, ⟨_, rfl, (cell_new_l w _ _).1⟩, below_alloc _ _⟩
    | 2, ho =>
      have e : o = { dst := some 81, op := Op.call { callee := Callee.value (Operand.func 11), args := #[Operand.tmp 80], argTypes := #[22] }, type := 23, pos := "outright.go:46", after := #[{ on := 1, ground := Ground.data }], guard := none } := (Option.some.inj ho).symm
      subst e
      obtain ⟨g, q1, qc⟩ := hdeps { on := 1, ground := Ground.data } (by simp) rfl
      have q1 : x.tmps.getD 80 undef = .slice (some ⟨g, 0, none⟩) 1 1 := q1
      simp only [Array.getD_eq_getD_getElem?] at q1
      clear hdeps
      refine wpOp_step ho (fun K hK => ?_)
      clear ho
      go_simp
      refine (c1 w g hB qc).mono ?_
      rintro e w' ⟨rfl, hb⟩
      exact hK _ _ ⟨_, put_nil x hdef _ _, rfl, hb⟩
    | 3, ho =>
      have e : o = { dst := some 82, op := Op.move (Operand.tmp 0), type := 24, pos := "outright.go:46", after := #[], guard := none } := (Option.some.inj ho).symm
      subst e
      clear hdeps
      refine wpOp_step ho (fun K hK => ?_)
      clear ho
      go_simp
      exact hK _ _ ⟨_, put_nil x hdef _ _, rfl, Below.refl _ _⟩
    | 4, ho =>
      have e : o = { dst := some 83, op := Op.buildSlice 22 1 #[(0, Operand.tmp 82)], type := 22, pos := "outright.go:46", after := #[{ on := 3, ground := Ground.data }], guard := none } := (Option.some.inj ho).symm
      subst e
      have q3 : x.tmps.getD 82 undef = .slice a n cap := hdeps { on := 3, ground := Ground.data } (by simp) rfl
      simp only [Array.getD_eq_getD_getElem?] at q3
      clear hdeps
      refine wpOp_step ho (fun K hK => ?_)
      clear ho
      go_simp
      exact hK _ _ ⟨_, put_nil x hdef _ _, ⟨_, rfl, (cell_new_l w _ _).1⟩, below_alloc _ _⟩
    | 5, ho =>
      have e : o = { dst := some 84, op := Op.call { callee := Callee.value (Operand.func 11), args := #[Operand.tmp 83], argTypes := #[22] }, type := 23, pos := "outright.go:46", after := #[{ on := 4, ground := Ground.data }, { on := 2, ground := Ground.chain }], guard := none } := (Option.some.inj ho).symm
      subst e
      obtain ⟨g, q4, qc⟩ := hdeps { on := 4, ground := Ground.data } (by simp) rfl
      have q4 : x.tmps.getD 83 undef = .slice (some ⟨g, 0, none⟩) 1 1 := q4
      simp only [Array.getD_eq_getD_getElem?] at q4
      clear hdeps
      refine wpOp_step ho (fun K hK => ?_)
      clear ho
      go_simp
      refine (c2 w g hB qc).mono ?_
      rintro e w' ⟨rfl, hb⟩
      exact hK _ _ ⟨_, put_nil x hdef _ _, rfl, hb⟩
    | 6, ho =>
      have e : o = { dst := some 85, op := Op.move (Operand.tmp 2), type := 24, pos := "outright.go:46", after := #[], guard := none } := (Option.some.inj ho).symm
      subst e
      clear hdeps
      refine wpOp_step ho (fun K hK => ?_)
      clear ho
      go_simp
      exact hK _ _ ⟨_, put_nil x hdef _ _, rfl, Below.refl _ _⟩
    | 7, ho =>
      have e : o = { dst := some 86, op := Op.move (Operand.tmp 0), type := 24, pos := "outright.go:46", after := #[], guard := none } := (Option.some.inj ho).symm
      subst e
      clear hdeps
      refine wpOp_step ho (fun K hK => ?_)
      clear ho
      go_simp
      exact hK _ _ ⟨_, put_nil x hdef _ _, rfl, Below.refl _ _⟩
    | 8, ho =>
      have e : o = { dst := some 87, op := Op.call { callee := Callee.builtin Builtin.len, args := #[Operand.tmp 86], argTypes := #[24] }, type := 3, pos := "outright.go:46", after := #[{ on := 7, ground := Ground.data }], guard := none } := (Option.some.inj ho).symm
      subst e
      have q7 : x.tmps.getD 86 undef = .slice a n cap := hdeps { on := 7, ground := Ground.data } (by simp) rfl
      simp only [Array.getD_eq_getD_getElem?] at q7
      clear hdeps
      refine wpOp_step ho (fun K hK => ?_)
      clear ho
      go_simp
      exact hK _ _ ⟨_, put_nil x hdef _ _, rfl, Below.refl _ _⟩
    | 9, ho =>
      have e : o = { dst := some 88, op := Op.slice 24 (Operand.tmp 85) none (some (Operand.tmp 87)) none, type := 24, pos := "outright.go:46", after := #[{ on := 6, ground := Ground.data }, { on := 8, ground := Ground.data }], guard := none } := (Option.some.inj ho).symm
      subst e
      have q6 : x.tmps.getD 85 undef = .slice a2 len2 cap2 := hdeps { on := 6, ground := Ground.data } (by simp) rfl
      have q8 : x.tmps.getD 87 undef = .int .i64 n := hdeps { on := 8, ground := Ground.data } (by simp) rfl
      simp only [Array.getD_eq_getD_getElem?] at q6 q8
      clear hdeps
      refine wpOp_step ho (fun K hK => ?_)
      clear ho
      go_simp
      exact hK _ _ ⟨_, put_nil x hdef _ _, rfl, Below.refl _ _⟩
    | 10, ho =>
      have e : o = { dst := some 89, op := Op.buildSlice 22 1 #[(0, Operand.tmp 88)], type := 22, pos := "outright.go:46", after := #[{ on := 9, ground := Ground.data }], guard := none } := (Option.some.inj ho).symm
      subst e
      have q9 : x.tmps.getD 88 undef = .slice A3 n cap2 := hdeps { on := 9, ground := Ground.data } (by simp) rfl
      simp only [Array.getD_eq_getD_getElem?] at q9
      clear hdeps
      refine wpOp_step ho (fun K hK => ?_)
      clear ho
      go_simp
      exact hK _ _ ⟨_, put_nil x hdef _ _, ⟨_, rfl, (cell_new_l w _ _).1⟩, below_alloc _ _⟩
    | 11, ho =>
      have e : o = { dst := some 90, op := Op.call { callee := Callee.value (Operand.func 11), args := #[Operand.tmp 89], argTypes := #[22] }, type := 23, pos := "outright.go:46", after := #[{ on := 10, ground := Ground.data }, { on := 5, ground := Ground.chain }], guard := none } := (Option.some.inj ho).symm
      subst e
      obtain ⟨g, q10, qc⟩ := hdeps { on := 10, ground := Ground.data } (by simp) rfl
      have q10 : x.tmps.getD 89 undef = .slice (some ⟨g, 0, none⟩) 1 1 := q10
      simp only [Array.getD_eq_getD_getElem?] at q10
      clear hdeps
      refine wpOp_step ho (fun K hK => ?_)
      clear ho
      go_simp
      refine (c3 w g hB qc).mono ?_
      rintro e w' ⟨rfl, hb⟩
      exact hK _ _ ⟨_, put_nil x hdef _ _, rfl, hb⟩
    | 12, ho =>
      have e : o = { dst := some 91, op := Op.binOp BinOp.xor 23 (Operand.tmp 84) (Operand.tmp 90) 23, type := 23, pos := "outright.go:46", after := #[{ on := 5, ground := Ground.data }, { on := 11, ground := Ground.data }], guard := none } := (Option.some.inj ho).symm
      subst e
      have q5 : x.tmps.getD 84 undef = .int .u32 SB := hdeps { on := 5, ground := Ground.data } (by simp) rfl
      have q11 : x.tmps.getD 90 undef = .int .u32 SC := hdeps { on := 11, ground := Ground.data } (by simp) rfl
      simp only [Array.getD_eq_getD_getElem?] at q5 q11
      clear hdeps
      refine wpOp_step ho (fun K hK => ?_)
      clear ho
      go_simp
      exact hK _ _ ⟨_, put_nil x hdef _ _, rfl, Below.refl _ _⟩
    | 13, ho =>
      have e : o = { dst := some 92, op := Op.move (Operand.tmp 9), type := 24, pos := "outright.go:46", after := #[], guard := none } := (Option.some.inj ho).symm
      subst e
      clear hdeps
      refine wpOp_step ho (fun K hK => ?_)
      clear ho
      go_simp
      exact hK _ _ ⟨_, put_nil x hdef _ _, rfl, Below.refl _ _⟩
    | 14, ho =>
      have e : o = { dst := some 93, op := Op.buildSlice 22 1 #[(0, Operand.tmp 92)], type := 22, pos := "outright.go:46", after := #[{ on := 13, ground := Ground.data }], guard := none } := (Option.some.inj ho).symm
      subst e
      have q13 : x.tmps.getD 92 undef = .slice (some ⟨x2, 0, none⟩) n n := hdeps { on := 13, ground := Ground.data } (by simp) rfl
      simp only [Array.getD_eq_getD_getElem?] at q13
      clear hdeps
      refine wpOp_step ho (fun K hK => ?_)
      clear ho
      go_simp
      exact hK _ _ ⟨_, put_nil x hdef _ _, ⟨_, rfl, (cell_new_l w _ _).1⟩, below_alloc _ _⟩
    | 15, ho =>
      have e : o = { dst := some 94, op := Op.call { callee := Callee.value (Operand.func 11), args := #[Operand.tmp 93], argTypes := #[22] }, type := 23, pos := "outright.go:46", after := #[{ on := 14, ground := Ground.data }, { on := 11, ground := Ground.chain }], guard := none } := (Option.some.inj ho).symm
      subst e
      obtain ⟨g, q14, qc⟩ := hdeps { on := 14, ground := Ground.data } (by simp) rfl
      have q14 : x.tmps.getD 93 undef = .slice (some ⟨g, 0, none⟩) 1 1 := q14
      simp only [Array.getD_eq_getD_getElem?] at q14
      clear hdeps
      refine wpOp_step ho (fun K hK => ?_)
      clear ho
      go_simp
      refine (c4 w g hB qc).mono ?_
      rintro e w' ⟨rfl, hb⟩
      exact hK _ _ ⟨_, put_nil x hdef _ _, rfl, hb⟩
    | 16, ho =>
      have e : o = { dst := some 95, op := Op.binOp BinOp.xor 23 (Operand.tmp 91) (Operand.tmp 94) 23, type := 23, pos := "outright.go:46", after := #[{ on := 12, ground := Ground.data }, { on := 15, ground := Ground.data }], guard := none } := (Option.some.inj ho).symm
      subst e
      have q12 : x.tmps.getD 91 undef = .int .u32 D := hdeps { on := 12, ground := Ground.data } (by simp) rfl
      have q15 : x.tmps.getD 94 undef = .int .u32 S0 := hdeps { on := 15, ground := Ground.data } (by simp) rfl
      simp only [Array.getD_eq_getD_getElem?] at q12 q15
      clear hdeps
      refine wpOp_step ho (fun K hK => ?_)
      clear ho
      go_simp
      exact hK _ _ ⟨_, put_nil x hdef _ _, rfl, Below.refl _ _⟩
    | 17, ho =>
      have e : o = { dst := some 96, op := Op.binOp BinOp.eql 23 (Operand.tmp 81) (Operand.tmp 95) 23, type := 4, pos := "outright.go:46", after := #[{ on := 2, ground := Ground.data }, { on := 16, ground := Ground.data }], guard := none } := (Option.some.inj ho).symm
      subst e
      have q2 : x.tmps.getD 81 undef = .int .u32 SX := hdeps { on := 2, ground := Ground.data } (by simp) rfl
      have q16 : x.tmps.getD 95 undef = .int .u32 SX := hdeps { on := 16, ground := Ground.data } (by simp) rfl
      simp only [Array.getD_eq_getD_getElem?] at q2 q16
      clear hdeps
      refine wpOp_step ho (fun K hK => ?_)
      clear ho
      go_simp
      exact hK _ _ ⟨_, put_nil x hdef _ _, rfl, Below.refl _ _⟩
    | 18, ho =>
      have e : o = { dst := some 6, op := Op.assign (Operand.tmp 96), type := 4, pos := "outright.go:46", after := #[{ on := 17, ground := Ground.data }, { on := 15, ground := Ground.chain }, { on := 0, ground := Ground.phase }, { on := 1, ground := Ground.phase }, { on := 2, ground := Ground.phase }, { on := 3, ground := Ground.phase }, { on := 4, ground := Ground.phase }, { on := 5, ground := Ground.phase }, { on := 6, ground := Ground.phase }, { on := 7, ground := Ground.phase }, { on := 8, ground := Ground.phase }, { on := 9, ground := Ground.phase }, { on := 10, ground := Ground.phase }, { on := 11, ground := Ground.phase }, { on := 12, ground := Ground.phase }, { on := 13, ground := Ground.phase }, { on := 14, ground := Ground.phase }, { on := 15, ground := Ground.phase }, { on := 16, ground := Ground.phase }, { on := 17, ground := Ground.phase }], guard := none } := (Option.some.inj ho).symm
      subst e
      have q17 : x.tmps.getD 96 undef = .bool true := hdeps { on := 17, ground := Ground.data } (by simp) rfl
      simp only [Array.getD_eq_getD_getElem?] at q17
      clear hdeps
      refine wpOp_step ho (fun K hK => ?_)
      clear ho
      go_simp
      exact hK _ _ ⟨_, put_nil x hdef _ _, rfl, Below.refl _ _⟩
    | k + 19, _ => omega
  · intro x w hB hdef hsz hs hv
    exact hQ x w hB hdef (hsz.trans ht) (hun x hs) (hv 18 (by decide))
theorem region13_lit (x1 x2 n cap len2 cap2 : Nat) (a a2 A3 : Option Addr) (SX SB SC D S0 : Nat) (Q : Exit → Act → World → Prop) (t0 : Array Value) (w0 : World) (ht : t0.size = 97)
    (h0 : t0.getD 0 undef = .slice a n cap) (h2 : t0.getD 2 undef = .slice a2 len2 cap2) (h8 : t0.getD 8 undef = .slice (some ⟨x1, 0, none⟩) n n) (h9 : t0.getD 9 undef = .slice (some ⟨x2, 0, none⟩) n n)
    (hA3 : ∀ wx, (Instr.slice 24 (.slice a2 len2 cap2) none (some (.int .i64 (n : Int))) none).run Try.prog wx = .ok (.slice A3 n cap2) wx)
    (hD1 : bits BinOp.xor IntKind.u32 (SB : Int) (SC : Int) = (D : Int)) (hD2 : bits BinOp.xor IntKind.u32 (D : Int) (S0 : Int) = (SX : Int))
    (c1 : ∀ (W : World) (g : Nat), Below w0.heap.size w0 W → W.cell? ⟨g, 0, none⟩ = some (.slice (some ⟨x1, 0, none⟩) n n) → Calls Try.prog 11 #[.slice (some ⟨g, 0, none⟩) 1 1] W fun e w' => e = .returned (.int .u32 SX) ∧ Below W.heap.size W w')
    (c2 : ∀ (W : World) (g : Nat), Below w0.heap.size w0 W → W.cell? ⟨g, 0, none⟩ = some (.slice a n cap) → Calls Try.prog 11 #[.slice (some ⟨g, 0, none⟩) 1 1] W fun e w' => e = .returned (.int .u32 SB) ∧ Below W.heap.size W w')
    (c3 : ∀ (W : World) (g : Nat), Below w0.heap.size w0 W → W.cell? ⟨g, 0, none⟩ = some (.slice A3 n cap2) → Calls Try.prog 11 #[.slice (some ⟨g, 0, none⟩) 1 1] W fun e w' => e = .returned (.int .u32 SC) ∧ Below W.heap.size W w')
    (c4 : ∀ (W : World) (g : Nat), Below w0.heap.size w0 W → W.cell? ⟨g, 0, none⟩ = some (.slice (some ⟨x2, 0, none⟩) n n) → Calls Try.prog 11 #[.slice (some ⟨g, 0, none⟩) 1 1] W fun e w' => e = .returned (.int .u32 S0) ∧ Below W.heap.size W w')
    (hQ : ∀ (vs : Nat → Value) (w : World), Below w0.heap.size w0 w → vs 6 = .bool true → Q .normal { tmps := [6, 79, 80, 81, 82, 83, 84, 85, 86, 87, 88, 89, 90, 91, 92, 93, 94, 95, 96].foldl (fun y d => y.setIfInBounds d (vs d)) t0, defers := [] } w) :
    (Code.region 13 ops13 true).wp Try.prog Q { tmps := t0, defers := [] } w0 := by
  refine region13 x1 x2 n cap len2 cap2 a a2 A3 SX SB SC D S0 Q t0 w0 ht h0 h2 h8 h9 hA3 hD1 hD2 c1 c2 c3 c4 ?_
  intro x w hB hdef hsz hs h6
  have hx := frame_sets x.tmps t0 (by omega) [6, 79, 80, 81, 82, 83, 84, 85, 86, 87, 88, 89, 90, 91, 92, 93, 94, 95, 96] (fun s hn => hs s (by intro e; subst e; exact hn (by decide)) (fun e => hn (by simp only [List.mem_cons, List.mem_nil_iff, or_false]; omega)))
  have hq := hQ (fun d => x.tmps.getD d undef) w hB h6
  obtain ⟨T, Df⟩ := x
  dsimp only at hx hdef hq
  subst hdef
  rw [← hx] at hq
  exact hq
end Go.Proofs.Ytdcpgoijjnkjaaa
