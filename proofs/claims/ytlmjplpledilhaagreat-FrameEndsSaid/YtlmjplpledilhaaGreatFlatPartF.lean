/-
  flatParts: the two regions that draw their order.
-/
import Derived.Test.YtlmjplpledilhaaGreatFlatPartK
import Derived.Test.YtlmjplpledilhaaGreatRegionsA
import Derived.Deep.CutBlock
import Derived.Deep.DeepCutAuto
import Derived.Deep.LoopGhost
import Derived.Deep.DeepMust
import Derived.Deep.RegionHeld3
import Derived.Laws.MakeOwn
import Derived.Deep.OwnRows
namespace Go.Proofs.YtlmjplpledilhaaGreat.PartFlat
open Go.RowKit
set_option linter.unusedVariables false
set_option linter.unusedSimpArgs false

theorem act_put (x : Act) (h : x.defers = []) (d : Nat) (v : Value) : ({ tmps := x.tmps.setIfInBounds d v, defers := [] } : Act) = x.put (some d) v := by
  cases x; cases h; rfl
theorem get_some {t : Array Value} {s : Nat} {v : Value} (h : t.getD s undef = v) (hv : v ≠ undef) : t[s]? = some v := by
  rw [Array.getD_eq_getD_getElem?] at h
  cases e : t[s]? with
  | none => rw [e] at h; exact absurd h.symm hv
  | some u => rw [e] at h; exact congrArg some h
theorem range_thru {w w' : World} {b o : Nat} {cs : List Value} (h : w.rangeAt b o cs) (hb : Below w.heap.size w w') : w'.rangeAt b o cs := fun j v hj => cell_thru (h j v hj) hb

def ops24 : Array Oper :=
  #[{ dst := some 88, op := Op.move (Operand.tmp 5), type := 42, pos := "apart.go:1101", after := #[], guard := none },
    { dst := some 89, op := Op.move (Operand.tmp 9), type := 3, pos := "apart.go:1101", after := #[], guard := none },
    { dst := some 90, op := Op.indexAddr 42 (Operand.tmp 88) (Operand.tmp 89), type := 0, pos := "apart.go:1101", after := #[{ on := 0, ground := Ground.data }, { on := 1, ground := Ground.data }], guard := none },
    { dst := some 91, op := Op.load 22 (Operand.tmp 90), type := 22, pos := "apart.go:1101", after := #[{ on := 2, ground := Ground.data }], guard := none },
    { dst := some 92, op := Op.move (Operand.tmp 10), type := 3, pos := "apart.go:1101", after := #[], guard := none },
    { dst := some 93, op := Op.indexAddr 22 (Operand.tmp 91) (Operand.tmp 92), type := 0, pos := "apart.go:1101", after := #[{ on := 3, ground := Ground.data }, { on := 4, ground := Ground.data }], guard := none },
    { dst := some 94, op := Op.load 45 (Operand.tmp 93), type := 45, pos := "apart.go:1101", after := #[{ on := 5, ground := Ground.data }], guard := none },
    { dst := some 95, op := Op.move (Operand.tmp 9), type := 3, pos := "apart.go:1101", after := #[], guard := none },
    { dst := some 96, op := Op.move (Operand.tmp 10), type := 3, pos := "apart.go:1101", after := #[], guard := none },
    { dst := some 97, op := Op.call { callee := Callee.value (Operand.func 24), args := #[Operand.tmp 95, Operand.tmp 96], argTypes := #[3, 3] }, type := 45, pos := "apart.go:1101", after := #[{ on := 7, ground := Ground.data }, { on := 8, ground := Ground.data }], guard := none },
    { dst := some 98, op := Op.call { callee := Callee.value (Operand.func 33), args := #[Operand.tmp 94, Operand.tmp 97], argTypes := #[45, 45] }, type := 4, pos := "apart.go:1101", after := #[{ on := 6, ground := Ground.data }, { on := 9, ground := Ground.data }, { on := 9, ground := Ground.chain }], guard := none },
    { dst := some 99, op := Op.unOp UnOp.not 4 (Operand.tmp 98), type := 4, pos := "apart.go:1101", after := #[{ on := 10, ground := Ground.data }], guard := none },
    { dst := some 100, op := Op.move (Operand.tmp 99), type := 4, pos := "apart.go:1101", after := #[{ on := 11, ground := Ground.data }, { on := 10, ground := Ground.chain }], guard := none },
    { dst := some 101, op := Op.move (Operand.tmp 10), type := 3, pos := "apart.go:1101", after := #[{ on := 12, ground := Ground.guard }], guard := some (12, false) },
    { dst := some 102, op := Op.move (Operand.tmp 0), type := 42, pos := "apart.go:1101", after := #[{ on := 12, ground := Ground.guard }], guard := some (12, false) },
    { dst := some 103, op := Op.move (Operand.tmp 9), type := 3, pos := "apart.go:1101", after := #[{ on := 12, ground := Ground.guard }], guard := some (12, false) },
    { dst := some 104, op := Op.indexAddr 42 (Operand.tmp 102) (Operand.tmp 103), type := 0, pos := "apart.go:1101", after := #[{ on := 14, ground := Ground.data }, { on := 15, ground := Ground.data }, { on := 12, ground := Ground.guard }], guard := some (12, false) },
    { dst := some 105, op := Op.load 22 (Operand.tmp 104), type := 22, pos := "apart.go:1101", after := #[{ on := 16, ground := Ground.data }, { on := 12, ground := Ground.guard }], guard := some (12, false) },
    { dst := some 106, op := Op.call { callee := Callee.builtin Builtin.len, args := #[Operand.tmp 105], argTypes := #[22] }, type := 3, pos := "apart.go:1101", after := #[{ on := 17, ground := Ground.data }, { on := 12, ground := Ground.guard }], guard := some (12, false) },
    { dst := some 107, op := Op.binOp BinOp.lss 3 (Operand.tmp 101) (Operand.tmp 106) 3, type := 4, pos := "apart.go:1101", after := #[{ on := 13, ground := Ground.data }, { on := 18, ground := Ground.data }, { on := 12, ground := Ground.guard }], guard := some (12, false) },
    { dst := some 108, op := Op.move (Operand.tmp 107), type := 4, pos := "apart.go:1101", after := #[{ on := 19, ground := Ground.data }, { on := 12, ground := Ground.chain }, { on := 12, ground := Ground.guard }], guard := some (12, false) },
    { dst := some 109, op := Op.move (Operand.tmp 0), type := 42, pos := "apart.go:1101", after := #[{ on := 20, ground := Ground.guard }], guard := some (20, true) },
    { dst := some 110, op := Op.move (Operand.tmp 9), type := 3, pos := "apart.go:1101", after := #[{ on := 20, ground := Ground.guard }], guard := some (20, true) },
    { dst := some 111, op := Op.indexAddr 42 (Operand.tmp 109) (Operand.tmp 110), type := 0, pos := "apart.go:1101", after := #[{ on := 21, ground := Ground.data }, { on := 22, ground := Ground.data }, { on := 20, ground := Ground.guard }], guard := some (20, true) },
    { dst := some 112, op := Op.load 22 (Operand.tmp 111), type := 22, pos := "apart.go:1101", after := #[{ on := 23, ground := Ground.data }, { on := 20, ground := Ground.guard }], guard := some (20, true) },
    { dst := some 113, op := Op.move (Operand.tmp 10), type := 3, pos := "apart.go:1101", after := #[{ on := 20, ground := Ground.guard }], guard := some (20, true) },
    { dst := some 114, op := Op.indexAddr 22 (Operand.tmp 112) (Operand.tmp 113), type := 0, pos := "apart.go:1101", after := #[{ on := 24, ground := Ground.data }, { on := 25, ground := Ground.data }, { on := 20, ground := Ground.guard }], guard := some (20, true) },
    { dst := some 115, op := Op.load 45 (Operand.tmp 114), type := 45, pos := "apart.go:1101", after := #[{ on := 26, ground := Ground.data }, { on := 20, ground := Ground.guard }], guard := some (20, true) },
    { dst := some 116, op := Op.move (Operand.tmp 9), type := 3, pos := "apart.go:1101", after := #[{ on := 20, ground := Ground.guard }], guard := some (20, true) },
    { dst := some 117, op := Op.move (Operand.tmp 10), type := 3, pos := "apart.go:1101", after := #[{ on := 20, ground := Ground.guard }], guard := some (20, true) },
    { dst := some 118, op := Op.call { callee := Callee.value (Operand.func 24), args := #[Operand.tmp 116, Operand.tmp 117], argTypes := #[3, 3] }, type := 45, pos := "apart.go:1101", after := #[{ on := 28, ground := Ground.data }, { on := 29, ground := Ground.data }, { on := 20, ground := Ground.chain }, { on := 20, ground := Ground.guard }], guard := some (20, true) },
    { dst := some 119, op := Op.call { callee := Callee.value (Operand.func 33), args := #[Operand.tmp 115, Operand.tmp 118], argTypes := #[45, 45] }, type := 4, pos := "apart.go:1101", after := #[{ on := 27, ground := Ground.data }, { on := 30, ground := Ground.data }, { on := 30, ground := Ground.chain }, { on := 20, ground := Ground.guard }], guard := some (20, true) },
    { dst := some 120, op := Op.unOp UnOp.not 4 (Operand.tmp 119), type := 4, pos := "apart.go:1101", after := #[{ on := 31, ground := Ground.data }, { on := 20, ground := Ground.guard }], guard := some (20, true) },
    { dst := some 121, op := Op.pick (Operand.tmp 108) (Operand.tmp 120) (Operand.const (Value.bool false)), type := 4, pos := "apart.go:1101", after := #[{ on := 20, ground := Ground.data }, { on := 32, ground := Ground.data }, { on := 12, ground := Ground.guard }], guard := some (12, false) },
    { dst := some 122, op := Op.pick (Operand.tmp 100) (Operand.const (Value.bool true)) (Operand.tmp 121), type := 4, pos := "apart.go:1101", after := #[{ on := 12, ground := Ground.data }, { on := 33, ground := Ground.data }], guard := none }]
def slot24 (j : Nat) : Nat := 88 + j
def val24 (n cap k i G g g2 b off lg lk C1 Ck : Nat) (Ak : Option Addr) (lt : Bool) : Nat → Value → World → Prop
  | 0, v, w => v = .slice (some ⟨G, 0, none⟩) n n
  | 1, v, w => v = .int .i64 (k : Nat)
  | 2, v, w => v = .pointer (some ⟨G, k, none⟩)
  | 3, v, w => v = .slice (some ⟨g, 0, none⟩) lg C1
  | 4, v, w => v = .int .i64 (i : Nat)
  | 5, v, w => v = .pointer (some ⟨g, i * 2, none⟩)
  | 6, v, w => ∃ γ, v = .agg #[.int .u8 0, .slice (some ⟨γ, 0, none⟩) 1 1] ∧ gd w γ k i
  | 7, v, w => v = .int .i64 (k : Nat)
  | 8, v, w => v = .int .i64 (i : Nat)
  | 9, v, w => ∃ γ, v = .agg #[.int .u8 0, .slice (some ⟨γ, 0, none⟩) 1 1] ∧ gd w γ k i
  | 10, v, w => v = .bool true
  | 11, v, w => v = .bool false
  | 12, v, w => v = .bool false
  | 13, v, w => v = .int .i64 (i : Nat)
  | 14, v, w => v = .slice (some ⟨b, off, none⟩) n cap
  | 15, v, w => v = .int .i64 (k : Nat)
  | 16, v, w => v = .pointer (some ⟨b, off + k, none⟩)
  | 17, v, w => v = .slice Ak lk Ck
  | 18, v, w => v = .int .i64 (lk : Nat)
  | 19, v, w => v = .bool lt
  | 20, v, w => v = .bool lt
  | 21, v, w => lt = true → v = .slice (some ⟨b, off, none⟩) n cap
  | 22, v, w => lt = true → v = .int .i64 (k : Nat)
  | 23, v, w => lt = true → v = .pointer (some ⟨b, off + k, none⟩)
  | 24, v, w => lt = true → v = .slice (some ⟨g2, 0, none⟩) lk Ck
  | 25, v, w => lt = true → v = .int .i64 (i : Nat)
  | 26, v, w => lt = true → v = .pointer (some ⟨g2, i * 2, none⟩)
  | 27, v, w => lt = true → ∃ γ, v = .agg #[.int .u8 0, .slice (some ⟨γ, 0, none⟩) 1 1] ∧ gd w γ k i
  | 28, v, w => lt = true → v = .int .i64 (k : Nat)
  | 29, v, w => lt = true → v = .int .i64 (i : Nat)
  | 30, v, w => lt = true → ∃ γ, v = .agg #[.int .u8 0, .slice (some ⟨γ, 0, none⟩) 1 1] ∧ gd w γ k i
  | 31, v, w => lt = true → v = .bool true
  | 32, v, w => lt = true → v = .bool false
  | 33, v, w => v = .bool false
  | 34, v, w => v = .bool false
  | _, _, _ => True
theorem val24_below (n cap k i G g g2 b off lg lk C1 Ck : Nat) (Ak : Option Addr) (lt : Bool) (w w' : World) (hb : Below w.heap.size w w') : ∀ j v, val24 n cap k i G g g2 b off lg lk C1 Ck Ak lt j v w → val24 n cap k i G g g2 b off lg lk C1 Ck Ak lt j v w' := by
  intro j v h
  match j, h with
  | 0, h => exact h
  | 1, h => exact h
  | 2, h => exact h
  | 3, h => exact h
  | 4, h => exact h
  | 5, h => exact h
  | 6, h => obtain ⟨γ, h1, h2⟩ := h; exact ⟨γ, h1, gd_below h2 hb⟩
  | 7, h => exact h
  | 8, h => exact h
  | 9, h => obtain ⟨γ, h1, h2⟩ := h; exact ⟨γ, h1, gd_below h2 hb⟩
  | 10, h => exact h
  | 11, h => exact h
  | 12, h => exact h
  | 13, h => exact h
  | 14, h => exact h
  | 15, h => exact h
  | 16, h => exact h
  | 17, h => exact h
  | 18, h => exact h
  | 19, h => exact h
  | 20, h => exact h
  | 21, h => exact h
  | 22, h => exact h
  | 23, h => exact h
  | 24, h => exact h
  | 25, h => exact h
  | 26, h => exact h
  | 27, h => exact fun e => by obtain ⟨γ, h1, h2⟩ := h e; exact ⟨γ, h1, gd_below h2 hb⟩
  | 28, h => exact h
  | 29, h => exact h
  | 30, h => exact fun e => by obtain ⟨γ, h1, h2⟩ := h e; exact ⟨γ, h1, gd_below h2 hb⟩
  | 31, h => exact h
  | 32, h => exact h
  | 33, h => exact h
  | 34, h => exact h
  | _ + 35, h => exact h

set_option maxRecDepth 100000 in
set_option maxHeartbeats 2000000 in
theorem region24 (n cap k i G g g2 b off lg lk C1 Ck : Nat) (Ak : Option Addr) (lt : Bool) (Q : Exit → Act → World → Prop) (t0 : Array Value) (w0 : World) (ht : t0.size = 193)
    (hs5 : t0.getD 5 undef = .slice (some ⟨G, 0, none⟩) n n) (hs9 : t0.getD 9 undef = .int .i64 (k : Nat)) (hs10 : t0.getD 10 undef = .int .i64 (i : Nat)) (hs0 : t0.getD 0 undef = .slice (some ⟨b, off, none⟩) n cap)
    (hkn : k < n) (hig : i < lg) (hlg : lg ≤ C1) (hlt : lt = decide (i < lk)) (hlk : lk ≤ Ck) (hA : lt = true → Ak = some ⟨g2, 0, none⟩)
    (d1 : w0.cell? ⟨G, k, none⟩ = some (.slice (some ⟨g, 0, none⟩) lg C1)) (c1 : w0.cell? ⟨b, off + k, none⟩ = some (.slice Ak lk Ck))
    (h1 : ∃ γ, w0.rangeAt g (i * 2) (el γ k i) ∧ gd w0 γ k i) (h2 : lt = true → ∃ γ, w0.rangeAt g2 (i * 2) (el γ k i) ∧ gd w0 γ k i)
    (cm : ∀ W : World, Calls Tryz.prog 24 #[.int .i64 (k : Nat), .int .i64 (i : Nat)] W fun e w' => ∃ γ, e = .returned (.agg #[.int .u8 0, .slice (some ⟨γ, 0, none⟩) 1 1]) ∧ gd w' γ k i ∧ Below W.heap.size W w')
    (hQ : ∀ (x : Act) (w : World), Below w0.heap.size w0 w → x.defers = [] → x.tmps.size = 193 → (∀ s, ¬ (88 ≤ s ∧ s ≤ 122) → x.tmps.getD s undef = t0.getD s undef) → x.tmps.getD 122 undef = .bool false → Q .normal x w) :
    (Code.region 24 ops24 true).wp Tryz.prog Q { tmps := t0, defers := [] } w0 := by
  have hun : ∀ (x : Act), (∀ s, (∀ j, j < ops24.size → s ≠ slot24 j) → x.tmps.getD s undef = t0.getD s undef) → ∀ s, ¬ (88 ≤ s ∧ s ≤ 122) → x.tmps.getD s undef = t0.getD s undef := by
    intro x h s hs
    refine h s (fun j hj => ?_)
    have hj' : j < 35 := hj
    unfold slot24
    omega
  refine wp_region_inv (by kernel_rfl) slot24 (val24 n cap k i G g g2 b off lg lk C1 Ck Ak lt) t0 w0 ?_ ?_ ?_ (val24_below n cap k i G g g2 b off lg lk C1 Ck Ak lt) ?_ ?_
  · intro j o ho
    have hj : j < 35 := (Array.getElem?_eq_some_iff.1 ho).1
    refine ⟨?_, by rw [ht]; unfold slot24; omega⟩
    match j, ho with
    | 0, ho => cases ho; rfl
    | 1, ho => cases ho; rfl
    | 2, ho => cases ho; rfl
    | 3, ho => cases ho; rfl
    | 4, ho => cases ho; rfl
    | 5, ho => cases ho; rfl
    | 6, ho => cases ho; rfl
    | 7, ho => cases ho; rfl
    | 8, ho => cases ho; rfl
    | 9, ho => cases ho; rfl
    | 10, ho => cases ho; rfl
    | 11, ho => cases ho; rfl
    | 12, ho => cases ho; rfl
    | 13, ho => cases ho; rfl
    | 14, ho => cases ho; rfl
    | 15, ho => cases ho; rfl
    | 16, ho => cases ho; rfl
    | 17, ho => cases ho; rfl
    | 18, ho => cases ho; rfl
    | 19, ho => cases ho; rfl
    | 20, ho => cases ho; rfl
    | 21, ho => cases ho; rfl
    | 22, ho => cases ho; rfl
    | 23, ho => cases ho; rfl
    | 24, ho => cases ho; rfl
    | 25, ho => cases ho; rfl
    | 26, ho => cases ho; rfl
    | 27, ho => cases ho; rfl
    | 28, ho => cases ho; rfl
    | 29, ho => cases ho; rfl
    | 30, ho => cases ho; rfl
    | 31, ho => cases ho; rfl
    | 32, ho => cases ho; rfl
    | 33, ho => cases ho; rfl
    | 34, ho => cases ho; rfl
    | k + 35, _ => omega
  · intro i j hi hj h
    unfold slot24 at h
    omega
  · intro j o ho
    have hj : j < 35 := (Array.getElem?_eq_some_iff.1 ho).1
    match j, ho with
    | 0, ho => cases ho; decide
    | 1, ho => cases ho; decide
    | 2, ho => cases ho; decide
    | 3, ho => cases ho; decide
    | 4, ho => cases ho; decide
    | 5, ho => cases ho; decide
    | 6, ho => cases ho; decide
    | 7, ho => cases ho; decide
    | 8, ho => cases ho; decide
    | 9, ho => cases ho; decide
    | 10, ho => cases ho; decide
    | 11, ho => cases ho; decide
    | 12, ho => cases ho; decide
    | 13, ho => cases ho; decide
    | 14, ho => cases ho; decide
    | 15, ho => cases ho; decide
    | 16, ho => cases ho; decide
    | 17, ho => cases ho; decide
    | 18, ho => cases ho; decide
    | 19, ho => cases ho; decide
    | 20, ho => cases ho; decide
    | 21, ho => cases ho; decide
    | 22, ho => cases ho; decide
    | 23, ho => cases ho; decide
    | 24, ho => cases ho; decide
    | 25, ho => cases ho; decide
    | 26, ho => cases ho; decide
    | 27, ho => cases ho; decide
    | 28, ho => cases ho; decide
    | 29, ho => cases ho; decide
    | 30, ho => cases ho; decide
    | 31, ho => cases ho; decide
    | 32, ho => cases ho; decide
    | 33, ho => cases ho; decide
    | 34, ho => cases ho; decide
    | k + 35, _ => omega
  · intro j o ho x w hB hdef hsz hs hdeps
    have hs' := hun x hs
    have u5 := (hs' 5 (by omega)).trans hs5
    have u9 := (hs' 9 (by omega)).trans hs9
    have u10 := (hs' 10 (by omega)).trans hs10
    have u0 := (hs' 0 (by omega)).trans hs0
    have hj : j < 35 := (Array.getElem?_eq_some_iff.1 ho).1
    have hkI : (k : Int) < (n : Int) := by omega
    have hk0 : (0 : Int) ≤ (k : Int) := by omega
    have hiI : (i : Int) < (lg : Int) := by omega
    have hi0 : (0 : Int) ≤ (i : Int) := by omega
    have HLT := hide hlt
    clear hs hs' hun hs0 hs5 hs9 hs10 hQ hsz ht hlt
    simp only [Array.getD_eq_getD_getElem?] at u0 u5 u9 u10
    match j, ho with
    | 0, ho =>
      have e : o = { dst := some 88, op := Op.move (Operand.tmp 5), type := 42, pos := "apart.go:1101", after := #[], guard := none } := (Option.some.inj ho).symm
      subst e
      clear hdeps
      refine wpOp_step ho (fun K hK => ?_)
      clear ho
      go_simp
      exact hK _ _ ⟨_, act_put x hdef _ _, rfl, Below.refl _ _⟩
    | 1, ho =>
      have e : o = { dst := some 89, op := Op.move (Operand.tmp 9), type := 3, pos := "apart.go:1101", after := #[], guard := none } := (Option.some.inj ho).symm
      subst e
      clear hdeps
      refine wpOp_step ho (fun K hK => ?_)
      clear ho
      go_simp
      exact hK _ _ ⟨_, act_put x hdef _ _, rfl, Below.refl _ _⟩
    | 2, ho =>
      have e : o = { dst := some 90, op := Op.indexAddr 42 (Operand.tmp 88) (Operand.tmp 89), type := 0, pos := "apart.go:1101", after := #[{ on := 0, ground := Ground.data }, { on := 1, ground := Ground.data }], guard := none } := (Option.some.inj ho).symm
      subst e
      have q0 : x.tmps.getD 88 undef = .slice (some ⟨G, 0, none⟩) n n := hdeps { on := 0, ground := Ground.data } (by simp) rfl
      have q1 : x.tmps.getD 89 undef = .int .i64 (k : Nat) := hdeps { on := 1, ground := Ground.data } (by simp) rfl
      simp only [Array.getD_eq_getD_getElem?] at q0 q1
      clear hdeps
      refine wpOp_step ho (fun K hK => ?_)
      clear ho
      go_simp
      exact hK _ _ ⟨_, act_put x hdef _ _, rfl, Below.refl _ _⟩
    | 3, ho =>
      have e : o = { dst := some 91, op := Op.load 22 (Operand.tmp 90), type := 22, pos := "apart.go:1101", after := #[{ on := 2, ground := Ground.data }], guard := none } := (Option.some.inj ho).symm
      subst e
      have q2 : x.tmps.getD 90 undef = .pointer (some ⟨G, k, none⟩) := hdeps { on := 2, ground := Ground.data } (by simp) rfl
      simp only [Array.getD_eq_getD_getElem?] at q2
      clear hdeps
      have d1w := cell_thru d1 hB
      refine wpOp_step ho (fun K hK => ?_)
      clear ho
      go_simp
      exact hK _ _ ⟨_, act_put x hdef _ _, rfl, Below.refl _ _⟩
    | 4, ho =>
      have e : o = { dst := some 92, op := Op.move (Operand.tmp 10), type := 3, pos := "apart.go:1101", after := #[], guard := none } := (Option.some.inj ho).symm
      subst e
      clear hdeps
      refine wpOp_step ho (fun K hK => ?_)
      clear ho
      go_simp
      exact hK _ _ ⟨_, act_put x hdef _ _, rfl, Below.refl _ _⟩
    | 5, ho =>
      have e : o = { dst := some 93, op := Op.indexAddr 22 (Operand.tmp 91) (Operand.tmp 92), type := 0, pos := "apart.go:1101", after := #[{ on := 3, ground := Ground.data }, { on := 4, ground := Ground.data }], guard := none } := (Option.some.inj ho).symm
      subst e
      have q3 : x.tmps.getD 91 undef = .slice (some ⟨g, 0, none⟩) lg C1 := hdeps { on := 3, ground := Ground.data } (by simp) rfl
      have q4 : x.tmps.getD 92 undef = .int .i64 (i : Nat) := hdeps { on := 4, ground := Ground.data } (by simp) rfl
      simp only [Array.getD_eq_getD_getElem?] at q3 q4
      clear hdeps
      refine wpOp_step ho (fun K hK => ?_)
      clear ho
      go_simp
      exact hK _ _ ⟨_, act_put x hdef _ _, rfl, Below.refl _ _⟩
    | 6, ho =>
      have e : o = { dst := some 94, op := Op.load 45 (Operand.tmp 93), type := 45, pos := "apart.go:1101", after := #[{ on := 5, ground := Ground.data }], guard := none } := (Option.some.inj ho).symm
      subst e
      have q5 : x.tmps.getD 93 undef = .pointer (some ⟨g, i * 2, none⟩) := hdeps { on := 5, ground := Ground.data } (by simp) rfl
      simp only [Array.getD_eq_getD_getElem?] at q5
      clear hdeps
      obtain ⟨γ, hr, hg⟩ := h1
      have k0 : w.cell? ⟨g, i * 2, none⟩ = some (.int .u8 0) := range_thru hr hB 0 _ rfl
      have k1 : w.cell? ⟨g, i * 2 + 1, none⟩ = some (.slice (some ⟨γ, 0, none⟩) 1 1) := range_thru hr hB 1 _ rfl
      have hg2 := gd_below hg hB
      clear hr hg
      refine wpOp_step ho (fun K hK => ?_)
      clear ho
      go_simp
      exact hK _ _ ⟨_, act_put x hdef _ _, ⟨γ, rfl, hg2⟩, Below.refl _ _⟩
    | 7, ho =>
      have e : o = { dst := some 95, op := Op.move (Operand.tmp 9), type := 3, pos := "apart.go:1101", after := #[], guard := none } := (Option.some.inj ho).symm
      subst e
      clear hdeps
      refine wpOp_step ho (fun K hK => ?_)
      clear ho
      go_simp
      exact hK _ _ ⟨_, act_put x hdef _ _, rfl, Below.refl _ _⟩
    | 8, ho =>
      have e : o = { dst := some 96, op := Op.move (Operand.tmp 10), type := 3, pos := "apart.go:1101", after := #[], guard := none } := (Option.some.inj ho).symm
      subst e
      clear hdeps
      refine wpOp_step ho (fun K hK => ?_)
      clear ho
      go_simp
      exact hK _ _ ⟨_, act_put x hdef _ _, rfl, Below.refl _ _⟩
    | 9, ho =>
      have e : o = { dst := some 97, op := Op.call { callee := Callee.value (Operand.func 24), args := #[Operand.tmp 95, Operand.tmp 96], argTypes := #[3, 3] }, type := 45, pos := "apart.go:1101", after := #[{ on := 7, ground := Ground.data }, { on := 8, ground := Ground.data }], guard := none } := (Option.some.inj ho).symm
      subst e
      have q7 : x.tmps.getD 95 undef = .int .i64 (k : Nat) := hdeps { on := 7, ground := Ground.data } (by simp) rfl
      have q8 : x.tmps.getD 96 undef = .int .i64 (i : Nat) := hdeps { on := 8, ground := Ground.data } (by simp) rfl
      simp only [Array.getD_eq_getD_getElem?] at q7 q8
      clear hdeps
      refine wpOp_step ho (fun K hK => ?_)
      clear ho
      go_simp
      refine (cm w).mono ?_
      rintro e w' ⟨γ, rfl, hg, hb⟩
      exact hK _ _ ⟨_, act_put x hdef _ _, ⟨γ, rfl, hg⟩, hb⟩
    | 10, ho =>
      have e : o = { dst := some 98, op := Op.call { callee := Callee.value (Operand.func 33), args := #[Operand.tmp 94, Operand.tmp 97], argTypes := #[45, 45] }, type := 4, pos := "apart.go:1101", after := #[{ on := 6, ground := Ground.data }, { on := 9, ground := Ground.data }, { on := 9, ground := Ground.chain }], guard := none } := (Option.some.inj ho).symm
      subst e
      obtain ⟨γ6, q6, p6⟩ := hdeps { on := 6, ground := Ground.data } (by simp) rfl
      have q6 : x.tmps.getD 94 undef = .agg #[.int .u8 0, .slice (some ⟨γ6, 0, none⟩) 1 1] := q6
      obtain ⟨γ9, q9, p9⟩ := hdeps { on := 9, ground := Ground.data } (by simp) rfl
      have q9 : x.tmps.getD 97 undef = .agg #[.int .u8 0, .slice (some ⟨γ9, 0, none⟩) 1 1] := q9
      simp only [Array.getD_eq_getD_getElem?] at q6 q9
      clear hdeps
      refine wpOp_step ho (fun K hK => ?_)
      clear ho
      go_simp
      refine (same_any γ6 γ9 k i w p6 p9).mono ?_
      rintro e w' ⟨rfl, hb⟩
      exact hK _ _ ⟨_, act_put x hdef _ _, rfl, hb⟩
    | 11, ho =>
      have e : o = { dst := some 99, op := Op.unOp UnOp.not 4 (Operand.tmp 98), type := 4, pos := "apart.go:1101", after := #[{ on := 10, ground := Ground.data }], guard := none } := (Option.some.inj ho).symm
      subst e
      have q10 : x.tmps.getD 98 undef = .bool true := hdeps { on := 10, ground := Ground.data } (by simp) rfl
      simp only [Array.getD_eq_getD_getElem?] at q10
      clear hdeps
      refine wpOp_step ho (fun K hK => ?_)
      clear ho
      go_simp
      exact hK _ _ ⟨_, act_put x hdef _ _, rfl, Below.refl _ _⟩
    | 12, ho =>
      have e : o = { dst := some 100, op := Op.move (Operand.tmp 99), type := 4, pos := "apart.go:1101", after := #[{ on := 11, ground := Ground.data }, { on := 10, ground := Ground.chain }], guard := none } := (Option.some.inj ho).symm
      subst e
      have q11 : x.tmps.getD 99 undef = .bool false := hdeps { on := 11, ground := Ground.data } (by simp) rfl
      simp only [Array.getD_eq_getD_getElem?] at q11
      clear hdeps
      refine wpOp_step ho (fun K hK => ?_)
      clear ho
      go_simp
      exact hK _ _ ⟨_, act_put x hdef _ _, rfl, Below.refl _ _⟩
    | 13, ho =>
      have e : o = { dst := some 101, op := Op.move (Operand.tmp 10), type := 3, pos := "apart.go:1101", after := #[{ on := 12, ground := Ground.guard }], guard := some (12, false) } := (Option.some.inj ho).symm
      subst e
      have q12 : x.tmps.getD 100 undef = .bool false := hdeps { on := 12, ground := Ground.guard } (by simp) rfl
      have e12 : (ops24[12]?.bind fun x => x.dst) = some 100 := rfl
      have g12 := get_some q12 (fun h => by cases h)
      simp only [Array.getD_eq_getD_getElem?] at q12
      clear hdeps
      refine wpOp_step ho (fun K hK => ?_)
      clear ho
      go_simp
      exact hK _ _ ⟨_, act_put x hdef _ _, rfl, Below.refl _ _⟩
    | 14, ho =>
      have e : o = { dst := some 102, op := Op.move (Operand.tmp 0), type := 42, pos := "apart.go:1101", after := #[{ on := 12, ground := Ground.guard }], guard := some (12, false) } := (Option.some.inj ho).symm
      subst e
      have q12 : x.tmps.getD 100 undef = .bool false := hdeps { on := 12, ground := Ground.guard } (by simp) rfl
      have e12 : (ops24[12]?.bind fun x => x.dst) = some 100 := rfl
      have g12 := get_some q12 (fun h => by cases h)
      simp only [Array.getD_eq_getD_getElem?] at q12
      clear hdeps
      refine wpOp_step ho (fun K hK => ?_)
      clear ho
      go_simp
      exact hK _ _ ⟨_, act_put x hdef _ _, rfl, Below.refl _ _⟩
    | 15, ho =>
      have e : o = { dst := some 103, op := Op.move (Operand.tmp 9), type := 3, pos := "apart.go:1101", after := #[{ on := 12, ground := Ground.guard }], guard := some (12, false) } := (Option.some.inj ho).symm
      subst e
      have q12 : x.tmps.getD 100 undef = .bool false := hdeps { on := 12, ground := Ground.guard } (by simp) rfl
      have e12 : (ops24[12]?.bind fun x => x.dst) = some 100 := rfl
      have g12 := get_some q12 (fun h => by cases h)
      simp only [Array.getD_eq_getD_getElem?] at q12
      clear hdeps
      refine wpOp_step ho (fun K hK => ?_)
      clear ho
      go_simp
      exact hK _ _ ⟨_, act_put x hdef _ _, rfl, Below.refl _ _⟩
    | 16, ho =>
      have e : o = { dst := some 104, op := Op.indexAddr 42 (Operand.tmp 102) (Operand.tmp 103), type := 0, pos := "apart.go:1101", after := #[{ on := 14, ground := Ground.data }, { on := 15, ground := Ground.data }, { on := 12, ground := Ground.guard }], guard := some (12, false) } := (Option.some.inj ho).symm
      subst e
      have q14 : x.tmps.getD 102 undef = .slice (some ⟨b, off, none⟩) n cap := hdeps { on := 14, ground := Ground.data } (by simp) rfl
      have q15 : x.tmps.getD 103 undef = .int .i64 (k : Nat) := hdeps { on := 15, ground := Ground.data } (by simp) rfl
      have q12 : x.tmps.getD 100 undef = .bool false := hdeps { on := 12, ground := Ground.guard } (by simp) rfl
      have e12 : (ops24[12]?.bind fun x => x.dst) = some 100 := rfl
      have g12 := get_some q12 (fun h => by cases h)
      simp only [Array.getD_eq_getD_getElem?] at q14 q15 q12
      clear hdeps
      refine wpOp_step ho (fun K hK => ?_)
      clear ho
      go_simp
      exact hK _ _ ⟨_, act_put x hdef _ _, rfl, Below.refl _ _⟩
    | 17, ho =>
      have e : o = { dst := some 105, op := Op.load 22 (Operand.tmp 104), type := 22, pos := "apart.go:1101", after := #[{ on := 16, ground := Ground.data }, { on := 12, ground := Ground.guard }], guard := some (12, false) } := (Option.some.inj ho).symm
      subst e
      have q16 : x.tmps.getD 104 undef = .pointer (some ⟨b, off + k, none⟩) := hdeps { on := 16, ground := Ground.data } (by simp) rfl
      have q12 : x.tmps.getD 100 undef = .bool false := hdeps { on := 12, ground := Ground.guard } (by simp) rfl
      have e12 : (ops24[12]?.bind fun x => x.dst) = some 100 := rfl
      have g12 := get_some q12 (fun h => by cases h)
      simp only [Array.getD_eq_getD_getElem?] at q16 q12
      clear hdeps
      have c1w := cell_thru c1 hB
      refine wpOp_step ho (fun K hK => ?_)
      clear ho
      go_simp
      exact hK _ _ ⟨_, act_put x hdef _ _, rfl, Below.refl _ _⟩
    | 18, ho =>
      have e : o = { dst := some 106, op := Op.call { callee := Callee.builtin Builtin.len, args := #[Operand.tmp 105], argTypes := #[22] }, type := 3, pos := "apart.go:1101", after := #[{ on := 17, ground := Ground.data }, { on := 12, ground := Ground.guard }], guard := some (12, false) } := (Option.some.inj ho).symm
      subst e
      have q17 : x.tmps.getD 105 undef = .slice Ak lk Ck := hdeps { on := 17, ground := Ground.data } (by simp) rfl
      have q12 : x.tmps.getD 100 undef = .bool false := hdeps { on := 12, ground := Ground.guard } (by simp) rfl
      have e12 : (ops24[12]?.bind fun x => x.dst) = some 100 := rfl
      have g12 := get_some q12 (fun h => by cases h)
      simp only [Array.getD_eq_getD_getElem?] at q17 q12
      clear hdeps
      refine wpOp_step ho (fun K hK => ?_)
      clear ho
      go_simp
      exact hK _ _ ⟨_, act_put x hdef _ _, rfl, Below.refl _ _⟩
    | 19, ho =>
      have e : o = { dst := some 107, op := Op.binOp BinOp.lss 3 (Operand.tmp 101) (Operand.tmp 106) 3, type := 4, pos := "apart.go:1101", after := #[{ on := 13, ground := Ground.data }, { on := 18, ground := Ground.data }, { on := 12, ground := Ground.guard }], guard := some (12, false) } := (Option.some.inj ho).symm
      subst e
      have q13 : x.tmps.getD 101 undef = .int .i64 (i : Nat) := hdeps { on := 13, ground := Ground.data } (by simp) rfl
      have q18 : x.tmps.getD 106 undef = .int .i64 (lk : Nat) := hdeps { on := 18, ground := Ground.data } (by simp) rfl
      have q12 : x.tmps.getD 100 undef = .bool false := hdeps { on := 12, ground := Ground.guard } (by simp) rfl
      have e12 : (ops24[12]?.bind fun x => x.dst) = some 100 := rfl
      have g12 := get_some q12 (fun h => by cases h)
      simp only [Array.getD_eq_getD_getElem?] at q13 q18 q12
      clear hdeps
      refine wpOp_step ho (fun K hK => ?_)
      clear ho
      have hdl : decide ((i : Int) < (lk : Int)) = lt := by rw [HLT.out]; simp
      go_simp
      exact hK _ _ ⟨_, act_put x hdef _ _, (by show Value.bool _ = Value.bool _; rw [HLT.out]), Below.refl _ _⟩
    | 20, ho =>
      have e : o = { dst := some 108, op := Op.move (Operand.tmp 107), type := 4, pos := "apart.go:1101", after := #[{ on := 19, ground := Ground.data }, { on := 12, ground := Ground.chain }, { on := 12, ground := Ground.guard }], guard := some (12, false) } := (Option.some.inj ho).symm
      subst e
      have q19 : x.tmps.getD 107 undef = .bool lt := hdeps { on := 19, ground := Ground.data } (by simp) rfl
      have q12 : x.tmps.getD 100 undef = .bool false := hdeps { on := 12, ground := Ground.guard } (by simp) rfl
      have e12 : (ops24[12]?.bind fun x => x.dst) = some 100 := rfl
      have g12 := get_some q12 (fun h => by cases h)
      simp only [Array.getD_eq_getD_getElem?] at q19 q12
      clear hdeps
      refine wpOp_step ho (fun K hK => ?_)
      clear ho
      go_simp
      exact hK _ _ ⟨_, act_put x hdef _ _, rfl, Below.refl _ _⟩
    | 21, ho =>
      have e : o = { dst := some 109, op := Op.move (Operand.tmp 0), type := 42, pos := "apart.go:1101", after := #[{ on := 20, ground := Ground.guard }], guard := some (20, true) } := (Option.some.inj ho).symm
      subst e
      cases lt with
      | false =>
        have q20 : x.tmps.getD 108 undef = .bool false := hdeps { on := 20, ground := Ground.guard } (by simp) rfl
        have e20 : (ops24[20]?.bind fun x => x.dst) = some 108 := rfl
        have g20 := get_some q20 (fun h => by cases h)
        clear hdeps q20
        refine wpOp_step ho (fun K hK => ?_)
        clear ho
        go_simp
        exact hK _ _ ⟨_, act_put x hdef _ _, fun h => (by cases h), Below.refl _ _⟩
      | true =>
        have q20 : x.tmps.getD 108 undef = .bool true := hdeps { on := 20, ground := Ground.guard } (by simp) rfl
        have e20 : (ops24[20]?.bind fun x => x.dst) = some 108 := rfl
        have g20 := get_some q20 (fun h => by cases h)
        simp only [Array.getD_eq_getD_getElem?] at q20
        clear hdeps
        refine wpOp_step ho (fun K hK => ?_)
        clear ho
        go_simp
        exact hK _ _ ⟨_, act_put x hdef _ _, fun _ => rfl, Below.refl _ _⟩
    | 22, ho =>
      have e : o = { dst := some 110, op := Op.move (Operand.tmp 9), type := 3, pos := "apart.go:1101", after := #[{ on := 20, ground := Ground.guard }], guard := some (20, true) } := (Option.some.inj ho).symm
      subst e
      cases lt with
      | false =>
        have q20 : x.tmps.getD 108 undef = .bool false := hdeps { on := 20, ground := Ground.guard } (by simp) rfl
        have e20 : (ops24[20]?.bind fun x => x.dst) = some 108 := rfl
        have g20 := get_some q20 (fun h => by cases h)
        clear hdeps q20
        refine wpOp_step ho (fun K hK => ?_)
        clear ho
        go_simp
        exact hK _ _ ⟨_, act_put x hdef _ _, fun h => (by cases h), Below.refl _ _⟩
      | true =>
        have q20 : x.tmps.getD 108 undef = .bool true := hdeps { on := 20, ground := Ground.guard } (by simp) rfl
        have e20 : (ops24[20]?.bind fun x => x.dst) = some 108 := rfl
        have g20 := get_some q20 (fun h => by cases h)
        simp only [Array.getD_eq_getD_getElem?] at q20
        clear hdeps
        refine wpOp_step ho (fun K hK => ?_)
        clear ho
        go_simp
        exact hK _ _ ⟨_, act_put x hdef _ _, fun _ => rfl, Below.refl _ _⟩
    | 23, ho =>
      have e : o = { dst := some 111, op := Op.indexAddr 42 (Operand.tmp 109) (Operand.tmp 110), type := 0, pos := "apart.go:1101", after := #[{ on := 21, ground := Ground.data }, { on := 22, ground := Ground.data }, { on := 20, ground := Ground.guard }], guard := some (20, true) } := (Option.some.inj ho).symm
      subst e
      cases lt with
      | false =>
        have q20 : x.tmps.getD 108 undef = .bool false := hdeps { on := 20, ground := Ground.guard } (by simp) rfl
        have e20 : (ops24[20]?.bind fun x => x.dst) = some 108 := rfl
        have g20 := get_some q20 (fun h => by cases h)
        clear hdeps q20
        refine wpOp_step ho (fun K hK => ?_)
        clear ho
        go_simp
        exact hK _ _ ⟨_, act_put x hdef _ _, fun h => (by cases h), Below.refl _ _⟩
      | true =>
        have q21 : x.tmps.getD 109 undef = .slice (some ⟨b, off, none⟩) n cap := (hdeps { on := 21, ground := Ground.data } (by simp) rfl) rfl
        have q22 : x.tmps.getD 110 undef = .int .i64 (k : Nat) := (hdeps { on := 22, ground := Ground.data } (by simp) rfl) rfl
        have q20 : x.tmps.getD 108 undef = .bool true := hdeps { on := 20, ground := Ground.guard } (by simp) rfl
        have e20 : (ops24[20]?.bind fun x => x.dst) = some 108 := rfl
        have g20 := get_some q20 (fun h => by cases h)
        simp only [Array.getD_eq_getD_getElem?] at q21 q22 q20
        clear hdeps
        refine wpOp_step ho (fun K hK => ?_)
        clear ho
        go_simp
        exact hK _ _ ⟨_, act_put x hdef _ _, fun _ => rfl, Below.refl _ _⟩
    | 24, ho =>
      have e : o = { dst := some 112, op := Op.load 22 (Operand.tmp 111), type := 22, pos := "apart.go:1101", after := #[{ on := 23, ground := Ground.data }, { on := 20, ground := Ground.guard }], guard := some (20, true) } := (Option.some.inj ho).symm
      subst e
      cases lt with
      | false =>
        have q20 : x.tmps.getD 108 undef = .bool false := hdeps { on := 20, ground := Ground.guard } (by simp) rfl
        have e20 : (ops24[20]?.bind fun x => x.dst) = some 108 := rfl
        have g20 := get_some q20 (fun h => by cases h)
        clear hdeps q20
        refine wpOp_step ho (fun K hK => ?_)
        clear ho
        go_simp
        exact hK _ _ ⟨_, act_put x hdef _ _, fun h => (by cases h), Below.refl _ _⟩
      | true =>
        have q23 : x.tmps.getD 111 undef = .pointer (some ⟨b, off + k, none⟩) := (hdeps { on := 23, ground := Ground.data } (by simp) rfl) rfl
        have q20 : x.tmps.getD 108 undef = .bool true := hdeps { on := 20, ground := Ground.guard } (by simp) rfl
        have e20 : (ops24[20]?.bind fun x => x.dst) = some 108 := rfl
        have g20 := get_some q20 (fun h => by cases h)
        simp only [Array.getD_eq_getD_getElem?] at q23 q20
        clear hdeps
        have c1w := cell_thru c1 hB
        rw [hA rfl] at c1w
        refine wpOp_step ho (fun K hK => ?_)
        clear ho
        go_simp
        exact hK _ _ ⟨_, act_put x hdef _ _, fun _ => rfl, Below.refl _ _⟩
    | 25, ho =>
      have e : o = { dst := some 113, op := Op.move (Operand.tmp 10), type := 3, pos := "apart.go:1101", after := #[{ on := 20, ground := Ground.guard }], guard := some (20, true) } := (Option.some.inj ho).symm
      subst e
      cases lt with
      | false =>
        have q20 : x.tmps.getD 108 undef = .bool false := hdeps { on := 20, ground := Ground.guard } (by simp) rfl
        have e20 : (ops24[20]?.bind fun x => x.dst) = some 108 := rfl
        have g20 := get_some q20 (fun h => by cases h)
        clear hdeps q20
        refine wpOp_step ho (fun K hK => ?_)
        clear ho
        go_simp
        exact hK _ _ ⟨_, act_put x hdef _ _, fun h => (by cases h), Below.refl _ _⟩
      | true =>
        have q20 : x.tmps.getD 108 undef = .bool true := hdeps { on := 20, ground := Ground.guard } (by simp) rfl
        have e20 : (ops24[20]?.bind fun x => x.dst) = some 108 := rfl
        have g20 := get_some q20 (fun h => by cases h)
        simp only [Array.getD_eq_getD_getElem?] at q20
        clear hdeps
        refine wpOp_step ho (fun K hK => ?_)
        clear ho
        go_simp
        exact hK _ _ ⟨_, act_put x hdef _ _, fun _ => rfl, Below.refl _ _⟩
    | 26, ho =>
      have e : o = { dst := some 114, op := Op.indexAddr 22 (Operand.tmp 112) (Operand.tmp 113), type := 0, pos := "apart.go:1101", after := #[{ on := 24, ground := Ground.data }, { on := 25, ground := Ground.data }, { on := 20, ground := Ground.guard }], guard := some (20, true) } := (Option.some.inj ho).symm
      subst e
      cases lt with
      | false =>
        have q20 : x.tmps.getD 108 undef = .bool false := hdeps { on := 20, ground := Ground.guard } (by simp) rfl
        have e20 : (ops24[20]?.bind fun x => x.dst) = some 108 := rfl
        have g20 := get_some q20 (fun h => by cases h)
        clear hdeps q20
        refine wpOp_step ho (fun K hK => ?_)
        clear ho
        go_simp
        exact hK _ _ ⟨_, act_put x hdef _ _, fun h => (by cases h), Below.refl _ _⟩
      | true =>
        have q24 : x.tmps.getD 112 undef = .slice (some ⟨g2, 0, none⟩) lk Ck := (hdeps { on := 24, ground := Ground.data } (by simp) rfl) rfl
        have q25 : x.tmps.getD 113 undef = .int .i64 (i : Nat) := (hdeps { on := 25, ground := Ground.data } (by simp) rfl) rfl
        have q20 : x.tmps.getD 108 undef = .bool true := hdeps { on := 20, ground := Ground.guard } (by simp) rfl
        have e20 : (ops24[20]?.bind fun x => x.dst) = some 108 := rfl
        have g20 := get_some q20 (fun h => by cases h)
        simp only [Array.getD_eq_getD_getElem?] at q24 q25 q20
        clear hdeps
        have hil : i < lk := of_decide_eq_true (HLT.out.symm)
        have hilI : (i : Int) < (lk : Int) := by omega
        refine wpOp_step ho (fun K hK => ?_)
        clear ho
        go_simp
        exact hK _ _ ⟨_, act_put x hdef _ _, fun _ => rfl, Below.refl _ _⟩
    | 27, ho =>
      have e : o = { dst := some 115, op := Op.load 45 (Operand.tmp 114), type := 45, pos := "apart.go:1101", after := #[{ on := 26, ground := Ground.data }, { on := 20, ground := Ground.guard }], guard := some (20, true) } := (Option.some.inj ho).symm
      subst e
      cases lt with
      | false =>
        have q20 : x.tmps.getD 108 undef = .bool false := hdeps { on := 20, ground := Ground.guard } (by simp) rfl
        have e20 : (ops24[20]?.bind fun x => x.dst) = some 108 := rfl
        have g20 := get_some q20 (fun h => by cases h)
        clear hdeps q20
        refine wpOp_step ho (fun K hK => ?_)
        clear ho
        go_simp
        exact hK _ _ ⟨_, act_put x hdef _ _, fun h => (by cases h), Below.refl _ _⟩
      | true =>
        have q26 : x.tmps.getD 114 undef = .pointer (some ⟨g2, i * 2, none⟩) := (hdeps { on := 26, ground := Ground.data } (by simp) rfl) rfl
        have q20 : x.tmps.getD 108 undef = .bool true := hdeps { on := 20, ground := Ground.guard } (by simp) rfl
        have e20 : (ops24[20]?.bind fun x => x.dst) = some 108 := rfl
        have g20 := get_some q20 (fun h => by cases h)
        simp only [Array.getD_eq_getD_getElem?] at q26 q20
        clear hdeps
        obtain ⟨γ, hr, hg⟩ := h2 rfl
        have k0 : w.cell? ⟨g2, i * 2, none⟩ = some (.int .u8 0) := range_thru hr hB 0 _ rfl
        have k1 : w.cell? ⟨g2, i * 2 + 1, none⟩ = some (.slice (some ⟨γ, 0, none⟩) 1 1) := range_thru hr hB 1 _ rfl
        have hg2 := gd_below hg hB
        clear hr hg
        refine wpOp_step ho (fun K hK => ?_)
        clear ho
        go_simp
        exact hK _ _ ⟨_, act_put x hdef _ _, fun _ => ⟨γ, rfl, hg2⟩, Below.refl _ _⟩
    | 28, ho =>
      have e : o = { dst := some 116, op := Op.move (Operand.tmp 9), type := 3, pos := "apart.go:1101", after := #[{ on := 20, ground := Ground.guard }], guard := some (20, true) } := (Option.some.inj ho).symm
      subst e
      cases lt with
      | false =>
        have q20 : x.tmps.getD 108 undef = .bool false := hdeps { on := 20, ground := Ground.guard } (by simp) rfl
        have e20 : (ops24[20]?.bind fun x => x.dst) = some 108 := rfl
        have g20 := get_some q20 (fun h => by cases h)
        clear hdeps q20
        refine wpOp_step ho (fun K hK => ?_)
        clear ho
        go_simp
        exact hK _ _ ⟨_, act_put x hdef _ _, fun h => (by cases h), Below.refl _ _⟩
      | true =>
        have q20 : x.tmps.getD 108 undef = .bool true := hdeps { on := 20, ground := Ground.guard } (by simp) rfl
        have e20 : (ops24[20]?.bind fun x => x.dst) = some 108 := rfl
        have g20 := get_some q20 (fun h => by cases h)
        simp only [Array.getD_eq_getD_getElem?] at q20
        clear hdeps
        refine wpOp_step ho (fun K hK => ?_)
        clear ho
        go_simp
        exact hK _ _ ⟨_, act_put x hdef _ _, fun _ => rfl, Below.refl _ _⟩
    | 29, ho =>
      have e : o = { dst := some 117, op := Op.move (Operand.tmp 10), type := 3, pos := "apart.go:1101", after := #[{ on := 20, ground := Ground.guard }], guard := some (20, true) } := (Option.some.inj ho).symm
      subst e
      cases lt with
      | false =>
        have q20 : x.tmps.getD 108 undef = .bool false := hdeps { on := 20, ground := Ground.guard } (by simp) rfl
        have e20 : (ops24[20]?.bind fun x => x.dst) = some 108 := rfl
        have g20 := get_some q20 (fun h => by cases h)
        clear hdeps q20
        refine wpOp_step ho (fun K hK => ?_)
        clear ho
        go_simp
        exact hK _ _ ⟨_, act_put x hdef _ _, fun h => (by cases h), Below.refl _ _⟩
      | true =>
        have q20 : x.tmps.getD 108 undef = .bool true := hdeps { on := 20, ground := Ground.guard } (by simp) rfl
        have e20 : (ops24[20]?.bind fun x => x.dst) = some 108 := rfl
        have g20 := get_some q20 (fun h => by cases h)
        simp only [Array.getD_eq_getD_getElem?] at q20
        clear hdeps
        refine wpOp_step ho (fun K hK => ?_)
        clear ho
        go_simp
        exact hK _ _ ⟨_, act_put x hdef _ _, fun _ => rfl, Below.refl _ _⟩
    | 30, ho =>
      have e : o = { dst := some 118, op := Op.call { callee := Callee.value (Operand.func 24), args := #[Operand.tmp 116, Operand.tmp 117], argTypes := #[3, 3] }, type := 45, pos := "apart.go:1101", after := #[{ on := 28, ground := Ground.data }, { on := 29, ground := Ground.data }, { on := 20, ground := Ground.chain }, { on := 20, ground := Ground.guard }], guard := some (20, true) } := (Option.some.inj ho).symm
      subst e
      cases lt with
      | false =>
        have q20 : x.tmps.getD 108 undef = .bool false := hdeps { on := 20, ground := Ground.guard } (by simp) rfl
        have e20 : (ops24[20]?.bind fun x => x.dst) = some 108 := rfl
        have g20 := get_some q20 (fun h => by cases h)
        clear hdeps q20
        refine wpOp_step ho (fun K hK => ?_)
        clear ho
        go_simp
        exact hK _ _ ⟨_, act_put x hdef _ _, fun h => (by cases h), Below.refl _ _⟩
      | true =>
        have q28 : x.tmps.getD 116 undef = .int .i64 (k : Nat) := (hdeps { on := 28, ground := Ground.data } (by simp) rfl) rfl
        have q29 : x.tmps.getD 117 undef = .int .i64 (i : Nat) := (hdeps { on := 29, ground := Ground.data } (by simp) rfl) rfl
        have q20 : x.tmps.getD 108 undef = .bool true := hdeps { on := 20, ground := Ground.guard } (by simp) rfl
        have e20 : (ops24[20]?.bind fun x => x.dst) = some 108 := rfl
        have g20 := get_some q20 (fun h => by cases h)
        simp only [Array.getD_eq_getD_getElem?] at q28 q29 q20
        clear hdeps
        refine wpOp_step ho (fun K hK => ?_)
        clear ho
        go_simp
        refine (cm w).mono ?_
        rintro e w' ⟨γ, rfl, hg, hb⟩
        exact hK _ _ ⟨_, act_put x hdef _ _, fun _ => ⟨γ, rfl, hg⟩, hb⟩
    | 31, ho =>
      have e : o = { dst := some 119, op := Op.call { callee := Callee.value (Operand.func 33), args := #[Operand.tmp 115, Operand.tmp 118], argTypes := #[45, 45] }, type := 4, pos := "apart.go:1101", after := #[{ on := 27, ground := Ground.data }, { on := 30, ground := Ground.data }, { on := 30, ground := Ground.chain }, { on := 20, ground := Ground.guard }], guard := some (20, true) } := (Option.some.inj ho).symm
      subst e
      cases lt with
      | false =>
        have q20 : x.tmps.getD 108 undef = .bool false := hdeps { on := 20, ground := Ground.guard } (by simp) rfl
        have e20 : (ops24[20]?.bind fun x => x.dst) = some 108 := rfl
        have g20 := get_some q20 (fun h => by cases h)
        clear hdeps q20
        refine wpOp_step ho (fun K hK => ?_)
        clear ho
        go_simp
        exact hK _ _ ⟨_, act_put x hdef _ _, fun h => (by cases h), Below.refl _ _⟩
      | true =>
        obtain ⟨γ27, q27, p27⟩ := (hdeps { on := 27, ground := Ground.data } (by simp) rfl) rfl
        have q27 : x.tmps.getD 115 undef = .agg #[.int .u8 0, .slice (some ⟨γ27, 0, none⟩) 1 1] := q27
        obtain ⟨γ30, q30, p30⟩ := (hdeps { on := 30, ground := Ground.data } (by simp) rfl) rfl
        have q30 : x.tmps.getD 118 undef = .agg #[.int .u8 0, .slice (some ⟨γ30, 0, none⟩) 1 1] := q30
        have q20 : x.tmps.getD 108 undef = .bool true := hdeps { on := 20, ground := Ground.guard } (by simp) rfl
        have e20 : (ops24[20]?.bind fun x => x.dst) = some 108 := rfl
        have g20 := get_some q20 (fun h => by cases h)
        simp only [Array.getD_eq_getD_getElem?] at q27 q30 q20
        clear hdeps
        refine wpOp_step ho (fun K hK => ?_)
        clear ho
        go_simp
        refine (same_any γ27 γ30 k i w p27 p30).mono ?_
        rintro e w' ⟨rfl, hb⟩
        exact hK _ _ ⟨_, act_put x hdef _ _, fun _ => rfl, hb⟩
    | 32, ho =>
      have e : o = { dst := some 120, op := Op.unOp UnOp.not 4 (Operand.tmp 119), type := 4, pos := "apart.go:1101", after := #[{ on := 31, ground := Ground.data }, { on := 20, ground := Ground.guard }], guard := some (20, true) } := (Option.some.inj ho).symm
      subst e
      cases lt with
      | false =>
        have q20 : x.tmps.getD 108 undef = .bool false := hdeps { on := 20, ground := Ground.guard } (by simp) rfl
        have e20 : (ops24[20]?.bind fun x => x.dst) = some 108 := rfl
        have g20 := get_some q20 (fun h => by cases h)
        clear hdeps q20
        refine wpOp_step ho (fun K hK => ?_)
        clear ho
        go_simp
        exact hK _ _ ⟨_, act_put x hdef _ _, fun h => (by cases h), Below.refl _ _⟩
      | true =>
        have q31 : x.tmps.getD 119 undef = .bool true := (hdeps { on := 31, ground := Ground.data } (by simp) rfl) rfl
        have q20 : x.tmps.getD 108 undef = .bool true := hdeps { on := 20, ground := Ground.guard } (by simp) rfl
        have e20 : (ops24[20]?.bind fun x => x.dst) = some 108 := rfl
        have g20 := get_some q20 (fun h => by cases h)
        simp only [Array.getD_eq_getD_getElem?] at q31 q20
        clear hdeps
        refine wpOp_step ho (fun K hK => ?_)
        clear ho
        go_simp
        exact hK _ _ ⟨_, act_put x hdef _ _, fun _ => rfl, Below.refl _ _⟩
    | 33, ho =>
      have e : o = { dst := some 121, op := Op.pick (Operand.tmp 108) (Operand.tmp 120) (Operand.const (Value.bool false)), type := 4, pos := "apart.go:1101", after := #[{ on := 20, ground := Ground.data }, { on := 32, ground := Ground.data }, { on := 12, ground := Ground.guard }], guard := some (12, false) } := (Option.some.inj ho).symm
      subst e
      cases lt with
      | false =>
        have q20 : x.tmps.getD 108 undef = .bool false := hdeps { on := 20, ground := Ground.data } (by simp) rfl
        have q12 : x.tmps.getD 100 undef = .bool false := hdeps { on := 12, ground := Ground.guard } (by simp) rfl
        have e12 : (ops24[12]?.bind fun x => x.dst) = some 100 := rfl
        have g12 := get_some q12 (fun h => by cases h)
        simp only [Array.getD_eq_getD_getElem?] at q20 q12
        clear hdeps
        refine wpOp_step ho (fun K hK => ?_)
        clear ho
        go_simp
        exact hK _ _ ⟨_, act_put x hdef _ _, rfl, Below.refl _ _⟩
      | true =>
        have q20 : x.tmps.getD 108 undef = .bool true := hdeps { on := 20, ground := Ground.data } (by simp) rfl
        have q32 : x.tmps.getD 120 undef = .bool false := (hdeps { on := 32, ground := Ground.data } (by simp) rfl) rfl
        have q12 : x.tmps.getD 100 undef = .bool false := hdeps { on := 12, ground := Ground.guard } (by simp) rfl
        have e12 : (ops24[12]?.bind fun x => x.dst) = some 100 := rfl
        have g12 := get_some q12 (fun h => by cases h)
        simp only [Array.getD_eq_getD_getElem?] at q20 q32 q12
        clear hdeps
        refine wpOp_step ho (fun K hK => ?_)
        clear ho
        go_simp
        exact hK _ _ ⟨_, act_put x hdef _ _, rfl, Below.refl _ _⟩
    | 34, ho =>
      have e : o = { dst := some 122, op := Op.pick (Operand.tmp 100) (Operand.const (Value.bool true)) (Operand.tmp 121), type := 4, pos := "apart.go:1101", after := #[{ on := 12, ground := Ground.data }, { on := 33, ground := Ground.data }], guard := none } := (Option.some.inj ho).symm
      subst e
      have q12 : x.tmps.getD 100 undef = .bool false := hdeps { on := 12, ground := Ground.data } (by simp) rfl
      have q33 : x.tmps.getD 121 undef = .bool false := hdeps { on := 33, ground := Ground.data } (by simp) rfl
      simp only [Array.getD_eq_getD_getElem?] at q12 q33
      clear hdeps
      refine wpOp_step ho (fun K hK => ?_)
      clear ho
      go_simp
      exact hK _ _ ⟨_, act_put x hdef _ _, rfl, Below.refl _ _⟩
    | k + 35, _ => omega
  · intro x w hB hdef hsz hs hv
    exact hQ x w hB hdef (hsz.trans ht) (hun x hs) (hv 34 (by decide))
set_option maxRecDepth 100000 in
theorem region24_lit (n cap k i G g g2 b off lg lk C1 Ck : Nat) (Ak : Option Addr) (lt : Bool) (Q : Exit → Act → World → Prop) (t0 : Array Value) (w0 : World) (ht : t0.size = 193)
    (hs5 : t0.getD 5 undef = .slice (some ⟨G, 0, none⟩) n n) (hs9 : t0.getD 9 undef = .int .i64 (k : Nat)) (hs10 : t0.getD 10 undef = .int .i64 (i : Nat)) (hs0 : t0.getD 0 undef = .slice (some ⟨b, off, none⟩) n cap)
    (hkn : k < n) (hig : i < lg) (hlg : lg ≤ C1) (hlt : lt = decide (i < lk)) (hlk : lk ≤ Ck) (hA : lt = true → Ak = some ⟨g2, 0, none⟩)
    (d1 : w0.cell? ⟨G, k, none⟩ = some (.slice (some ⟨g, 0, none⟩) lg C1)) (c1 : w0.cell? ⟨b, off + k, none⟩ = some (.slice Ak lk Ck))
    (h1 : ∃ γ, w0.rangeAt g (i * 2) (el γ k i) ∧ gd w0 γ k i) (h2 : lt = true → ∃ γ, w0.rangeAt g2 (i * 2) (el γ k i) ∧ gd w0 γ k i)
    (cm : ∀ W : World, Calls Tryz.prog 24 #[.int .i64 (k : Nat), .int .i64 (i : Nat)] W fun e w' => ∃ γ, e = .returned (.agg #[.int .u8 0, .slice (some ⟨γ, 0, none⟩) 1 1]) ∧ gd w' γ k i ∧ Below W.heap.size W w')
    (hQ : ∀ (vs : Nat → Value) (w : World), Below w0.heap.size w0 w → vs 122 = .bool false → Q .normal { tmps := [88, 89, 90, 91, 92, 93, 94, 95, 96, 97, 98, 99, 100, 101, 102, 103, 104, 105, 106, 107, 108, 109, 110, 111, 112, 113, 114, 115, 116, 117, 118, 119, 120, 121, 122].foldl (fun y d => y.setIfInBounds d (vs d)) t0, defers := [] } w) :
    (Code.region 24 ops24 true).wp Tryz.prog Q { tmps := t0, defers := [] } w0 := by
  refine region24 n cap k i G g g2 b off lg lk C1 Ck Ak lt Q t0 w0 ht hs5 hs9 hs10 hs0 hkn hig hlg hlt hlk hA d1 c1 h1 h2 cm ?_
  intro x w hB hdef hsz hs h10
  have hx := frame_sets x.tmps t0 (by omega) [88, 89, 90, 91, 92, 93, 94, 95, 96, 97, 98, 99, 100, 101, 102, 103, 104, 105, 106, 107, 108, 109, 110, 111, 112, 113, 114, 115, 116, 117, 118, 119, 120, 121, 122] (fun s hn => hs s (fun e => hn (by simp only [List.mem_cons, List.mem_nil_iff, or_false]; omega)))
  have hq := hQ (fun d => x.tmps.getD d undef) w hB h10
  obtain ⟨T, Df⟩ := x
  dsimp only at hx hdef hq
  subst hdef
  rw [← hx] at hq
  exact hq

def ops41 : Array Oper :=
  #[{ dst := some 167, op := Op.move (Operand.tmp 0), type := 42, pos := "apart.go:1115", after := #[], guard := none },
    { dst := some 168, op := Op.move (Operand.tmp 14), type := 3, pos := "apart.go:1115", after := #[], guard := none },
    { dst := some 169, op := Op.indexAddr 42 (Operand.tmp 167) (Operand.tmp 168), type := 0, pos := "apart.go:1115", after := #[{ on := 0, ground := Ground.data }, { on := 1, ground := Ground.data }], guard := none },
    { dst := some 170, op := Op.load 22 (Operand.tmp 169), type := 22, pos := "apart.go:1115", after := #[{ on := 2, ground := Ground.data }], guard := none },
    { dst := some 171, op := Op.move (Operand.tmp 15), type := 3, pos := "apart.go:1115", after := #[], guard := none },
    { dst := some 172, op := Op.indexAddr 22 (Operand.tmp 170) (Operand.tmp 171), type := 0, pos := "apart.go:1115", after := #[{ on := 3, ground := Ground.data }, { on := 4, ground := Ground.data }], guard := none },
    { dst := some 173, op := Op.load 45 (Operand.tmp 172), type := 45, pos := "apart.go:1115", after := #[{ on := 5, ground := Ground.data }], guard := none },
    { dst := some 174, op := Op.move (Operand.tmp 14), type := 3, pos := "apart.go:1115", after := #[], guard := none },
    { dst := some 175, op := Op.move (Operand.tmp 15), type := 3, pos := "apart.go:1115", after := #[], guard := none },
    { dst := some 176, op := Op.call { callee := Callee.value (Operand.func 24), args := #[Operand.tmp 174, Operand.tmp 175], argTypes := #[3, 3] }, type := 45, pos := "apart.go:1115", after := #[{ on := 7, ground := Ground.data }, { on := 8, ground := Ground.data }], guard := none },
    { dst := some 177, op := Op.call { callee := Callee.value (Operand.func 33), args := #[Operand.tmp 173, Operand.tmp 176], argTypes := #[45, 45] }, type := 4, pos := "apart.go:1115", after := #[{ on := 6, ground := Ground.data }, { on := 9, ground := Ground.data }, { on := 9, ground := Ground.chain }], guard := none },
    { dst := some 178, op := Op.unOp UnOp.not 4 (Operand.tmp 177), type := 4, pos := "apart.go:1115", after := #[{ on := 10, ground := Ground.data }], guard := none },
    { dst := some 179, op := Op.move (Operand.tmp 178), type := 4, pos := "apart.go:1115", after := #[{ on := 11, ground := Ground.data }, { on := 10, ground := Ground.chain }], guard := none },
    { dst := some 180, op := Op.move (Operand.tmp 5), type := 42, pos := "apart.go:1115", after := #[{ on := 12, ground := Ground.guard }], guard := some (12, false) },
    { dst := some 181, op := Op.move (Operand.tmp 14), type := 3, pos := "apart.go:1115", after := #[{ on := 12, ground := Ground.guard }], guard := some (12, false) },
    { dst := some 182, op := Op.indexAddr 42 (Operand.tmp 180) (Operand.tmp 181), type := 0, pos := "apart.go:1115", after := #[{ on := 13, ground := Ground.data }, { on := 14, ground := Ground.data }, { on := 12, ground := Ground.guard }], guard := some (12, false) },
    { dst := some 183, op := Op.load 22 (Operand.tmp 182), type := 22, pos := "apart.go:1115", after := #[{ on := 15, ground := Ground.data }, { on := 12, ground := Ground.guard }], guard := some (12, false) },
    { dst := some 184, op := Op.move (Operand.tmp 15), type := 3, pos := "apart.go:1115", after := #[{ on := 12, ground := Ground.guard }], guard := some (12, false) },
    { dst := some 185, op := Op.indexAddr 22 (Operand.tmp 183) (Operand.tmp 184), type := 0, pos := "apart.go:1115", after := #[{ on := 16, ground := Ground.data }, { on := 17, ground := Ground.data }, { on := 12, ground := Ground.guard }], guard := some (12, false) },
    { dst := some 186, op := Op.load 45 (Operand.tmp 185), type := 45, pos := "apart.go:1115", after := #[{ on := 18, ground := Ground.data }, { on := 12, ground := Ground.guard }], guard := some (12, false) },
    { dst := some 187, op := Op.move (Operand.tmp 14), type := 3, pos := "apart.go:1115", after := #[{ on := 12, ground := Ground.guard }], guard := some (12, false) },
    { dst := some 188, op := Op.move (Operand.tmp 15), type := 3, pos := "apart.go:1115", after := #[{ on := 12, ground := Ground.guard }], guard := some (12, false) },
    { dst := some 189, op := Op.call { callee := Callee.value (Operand.func 24), args := #[Operand.tmp 187, Operand.tmp 188], argTypes := #[3, 3] }, type := 45, pos := "apart.go:1115", after := #[{ on := 20, ground := Ground.data }, { on := 21, ground := Ground.data }, { on := 12, ground := Ground.chain }, { on := 12, ground := Ground.guard }], guard := some (12, false) },
    { dst := some 190, op := Op.call { callee := Callee.value (Operand.func 33), args := #[Operand.tmp 186, Operand.tmp 189], argTypes := #[45, 45] }, type := 4, pos := "apart.go:1115", after := #[{ on := 19, ground := Ground.data }, { on := 22, ground := Ground.data }, { on := 22, ground := Ground.chain }, { on := 12, ground := Ground.guard }], guard := some (12, false) },
    { dst := some 191, op := Op.unOp UnOp.not 4 (Operand.tmp 190), type := 4, pos := "apart.go:1115", after := #[{ on := 23, ground := Ground.data }, { on := 12, ground := Ground.guard }], guard := some (12, false) },
    { dst := some 192, op := Op.pick (Operand.tmp 179) (Operand.const (Value.bool true)) (Operand.tmp 191), type := 4, pos := "apart.go:1115", after := #[{ on := 12, ground := Ground.data }, { on := 24, ground := Ground.data }], guard := none }]
def slot41 (j : Nat) : Nat := 167 + j
def val41 (n cap k i G g g2 b off lg lk C1 Ck : Nat) (Ak : Option Addr) (lt : Bool) : Nat → Value → World → Prop
  | 0, v, w => v = .slice (some ⟨b, off, none⟩) n cap
  | 1, v, w => v = .int .i64 (k : Nat)
  | 2, v, w => v = .pointer (some ⟨b, off + k, none⟩)
  | 3, v, w => v = .slice (some ⟨g2, 0, none⟩) lk Ck
  | 4, v, w => v = .int .i64 (i : Nat)
  | 5, v, w => v = .pointer (some ⟨g2, i * 2, none⟩)
  | 6, v, w => ∃ γ, v = .agg #[.int .u8 0, .slice (some ⟨γ, 0, none⟩) 1 1] ∧ gd w γ k i
  | 7, v, w => v = .int .i64 (k : Nat)
  | 8, v, w => v = .int .i64 (i : Nat)
  | 9, v, w => ∃ γ, v = .agg #[.int .u8 0, .slice (some ⟨γ, 0, none⟩) 1 1] ∧ gd w γ k i
  | 10, v, w => v = .bool true
  | 11, v, w => v = .bool false
  | 12, v, w => v = .bool false
  | 13, v, w => v = .slice (some ⟨G, 0, none⟩) n n
  | 14, v, w => v = .int .i64 (k : Nat)
  | 15, v, w => v = .pointer (some ⟨G, k, none⟩)
  | 16, v, w => v = .slice (some ⟨g, 0, none⟩) lg C1
  | 17, v, w => v = .int .i64 (i : Nat)
  | 18, v, w => v = .pointer (some ⟨g, i * 2, none⟩)
  | 19, v, w => ∃ γ, v = .agg #[.int .u8 0, .slice (some ⟨γ, 0, none⟩) 1 1] ∧ gd w γ k i
  | 20, v, w => v = .int .i64 (k : Nat)
  | 21, v, w => v = .int .i64 (i : Nat)
  | 22, v, w => ∃ γ, v = .agg #[.int .u8 0, .slice (some ⟨γ, 0, none⟩) 1 1] ∧ gd w γ k i
  | 23, v, w => v = .bool true
  | 24, v, w => v = .bool false
  | 25, v, w => v = .bool false
  | _, _, _ => True
theorem val41_below (n cap k i G g g2 b off lg lk C1 Ck : Nat) (Ak : Option Addr) (lt : Bool) (w w' : World) (hb : Below w.heap.size w w') : ∀ j v, val41 n cap k i G g g2 b off lg lk C1 Ck Ak lt j v w → val41 n cap k i G g g2 b off lg lk C1 Ck Ak lt j v w' := by
  intro j v h
  match j, h with
  | 0, h => exact h
  | 1, h => exact h
  | 2, h => exact h
  | 3, h => exact h
  | 4, h => exact h
  | 5, h => exact h
  | 6, h => obtain ⟨γ, h1, h2⟩ := h; exact ⟨γ, h1, gd_below h2 hb⟩
  | 7, h => exact h
  | 8, h => exact h
  | 9, h => obtain ⟨γ, h1, h2⟩ := h; exact ⟨γ, h1, gd_below h2 hb⟩
  | 10, h => exact h
  | 11, h => exact h
  | 12, h => exact h
  | 13, h => exact h
  | 14, h => exact h
  | 15, h => exact h
  | 16, h => exact h
  | 17, h => exact h
  | 18, h => exact h
  | 19, h => obtain ⟨γ, h1, h2⟩ := h; exact ⟨γ, h1, gd_below h2 hb⟩
  | 20, h => exact h
  | 21, h => exact h
  | 22, h => obtain ⟨γ, h1, h2⟩ := h; exact ⟨γ, h1, gd_below h2 hb⟩
  | 23, h => exact h
  | 24, h => exact h
  | 25, h => exact h
  | _ + 26, h => exact h

set_option maxRecDepth 100000 in
set_option maxHeartbeats 2000000 in
theorem region41 (n cap k i G g g2 b off lg lk C1 Ck : Nat) (Ak : Option Addr) (lt : Bool) (Q : Exit → Act → World → Prop) (t0 : Array Value) (w0 : World) (ht : t0.size = 193)
    (hs5 : t0.getD 5 undef = .slice (some ⟨G, 0, none⟩) n n) (hs9 : t0.getD 14 undef = .int .i64 (k : Nat)) (hs10 : t0.getD 15 undef = .int .i64 (i : Nat)) (hs0 : t0.getD 0 undef = .slice (some ⟨b, off, none⟩) n cap)
    (hkn : k < n) (hig : i < lg) (hlg : lg ≤ C1) (hlt : lt = decide (i < lk)) (hlk : lk ≤ Ck) (hA : lt = true → Ak = some ⟨g2, 0, none⟩) (hlt1 : lt = true)
    (d1 : w0.cell? ⟨G, k, none⟩ = some (.slice (some ⟨g, 0, none⟩) lg C1)) (c1 : w0.cell? ⟨b, off + k, none⟩ = some (.slice Ak lk Ck))
    (h1 : ∃ γ, w0.rangeAt g (i * 2) (el γ k i) ∧ gd w0 γ k i) (h2 : lt = true → ∃ γ, w0.rangeAt g2 (i * 2) (el γ k i) ∧ gd w0 γ k i)
    (cm : ∀ W : World, Calls Tryz.prog 24 #[.int .i64 (k : Nat), .int .i64 (i : Nat)] W fun e w' => ∃ γ, e = .returned (.agg #[.int .u8 0, .slice (some ⟨γ, 0, none⟩) 1 1]) ∧ gd w' γ k i ∧ Below W.heap.size W w')
    (hQ : ∀ (x : Act) (w : World), Below w0.heap.size w0 w → x.defers = [] → x.tmps.size = 193 → (∀ s, ¬ (167 ≤ s ∧ s ≤ 192) → x.tmps.getD s undef = t0.getD s undef) → x.tmps.getD 192 undef = .bool false → Q .normal x w) :
    (Code.region 41 ops41 true).wp Tryz.prog Q { tmps := t0, defers := [] } w0 := by
  have hun : ∀ (x : Act), (∀ s, (∀ j, j < ops41.size → s ≠ slot41 j) → x.tmps.getD s undef = t0.getD s undef) → ∀ s, ¬ (167 ≤ s ∧ s ≤ 192) → x.tmps.getD s undef = t0.getD s undef := by
    intro x h s hs
    refine h s (fun j hj => ?_)
    have hj' : j < 26 := hj
    unfold slot41
    omega
  refine wp_region_inv (by kernel_rfl) slot41 (val41 n cap k i G g g2 b off lg lk C1 Ck Ak lt) t0 w0 ?_ ?_ ?_ (val41_below n cap k i G g g2 b off lg lk C1 Ck Ak lt) ?_ ?_
  · intro j o ho
    have hj : j < 26 := (Array.getElem?_eq_some_iff.1 ho).1
    refine ⟨?_, by rw [ht]; unfold slot41; omega⟩
    match j, ho with
    | 0, ho => cases ho; rfl
    | 1, ho => cases ho; rfl
    | 2, ho => cases ho; rfl
    | 3, ho => cases ho; rfl
    | 4, ho => cases ho; rfl
    | 5, ho => cases ho; rfl
    | 6, ho => cases ho; rfl
    | 7, ho => cases ho; rfl
    | 8, ho => cases ho; rfl
    | 9, ho => cases ho; rfl
    | 10, ho => cases ho; rfl
    | 11, ho => cases ho; rfl
    | 12, ho => cases ho; rfl
    | 13, ho => cases ho; rfl
    | 14, ho => cases ho; rfl
    | 15, ho => cases ho; rfl
    | 16, ho => cases ho; rfl
    | 17, ho => cases ho; rfl
    | 18, ho => cases ho; rfl
    | 19, ho => cases ho; rfl
    | 20, ho => cases ho; rfl
    | 21, ho => cases ho; rfl
    | 22, ho => cases ho; rfl
    | 23, ho => cases ho; rfl
    | 24, ho => cases ho; rfl
    | 25, ho => cases ho; rfl
    | k + 26, _ => omega
  · intro i j hi hj h
    unfold slot41 at h
    omega
  · intro j o ho
    have hj : j < 26 := (Array.getElem?_eq_some_iff.1 ho).1
    match j, ho with
    | 0, ho => cases ho; decide
    | 1, ho => cases ho; decide
    | 2, ho => cases ho; decide
    | 3, ho => cases ho; decide
    | 4, ho => cases ho; decide
    | 5, ho => cases ho; decide
    | 6, ho => cases ho; decide
    | 7, ho => cases ho; decide
    | 8, ho => cases ho; decide
    | 9, ho => cases ho; decide
    | 10, ho => cases ho; decide
    | 11, ho => cases ho; decide
    | 12, ho => cases ho; decide
    | 13, ho => cases ho; decide
    | 14, ho => cases ho; decide
    | 15, ho => cases ho; decide
    | 16, ho => cases ho; decide
    | 17, ho => cases ho; decide
    | 18, ho => cases ho; decide
    | 19, ho => cases ho; decide
    | 20, ho => cases ho; decide
    | 21, ho => cases ho; decide
    | 22, ho => cases ho; decide
    | 23, ho => cases ho; decide
    | 24, ho => cases ho; decide
    | 25, ho => cases ho; decide
    | k + 26, _ => omega
  · intro j o ho x w hB hdef hsz hs hdeps
    have hs' := hun x hs
    have u5 := (hs' 5 (by omega)).trans hs5
    have u9 := (hs' 14 (by omega)).trans hs9
    have u10 := (hs' 15 (by omega)).trans hs10
    have u0 := (hs' 0 (by omega)).trans hs0
    have hj : j < 26 := (Array.getElem?_eq_some_iff.1 ho).1
    have hkI : (k : Int) < (n : Int) := by omega
    have hk0 : (0 : Int) ≤ (k : Int) := by omega
    have hiI : (i : Int) < (lg : Int) := by omega
    have hi0 : (0 : Int) ≤ (i : Int) := by omega
    have HLT := hide hlt
    clear hs hs' hun hs0 hs5 hs9 hs10 hQ hsz ht hlt
    simp only [Array.getD_eq_getD_getElem?] at u0 u5 u9 u10
    match j, ho with
    | 0, ho =>
      have e : o = { dst := some 167, op := Op.move (Operand.tmp 0), type := 42, pos := "apart.go:1115", after := #[], guard := none } := (Option.some.inj ho).symm
      subst e
      clear hdeps
      refine wpOp_step ho (fun K hK => ?_)
      clear ho
      go_simp
      exact hK _ _ ⟨_, act_put x hdef _ _, rfl, Below.refl _ _⟩
    | 1, ho =>
      have e : o = { dst := some 168, op := Op.move (Operand.tmp 14), type := 3, pos := "apart.go:1115", after := #[], guard := none } := (Option.some.inj ho).symm
      subst e
      clear hdeps
      refine wpOp_step ho (fun K hK => ?_)
      clear ho
      go_simp
      exact hK _ _ ⟨_, act_put x hdef _ _, rfl, Below.refl _ _⟩
    | 2, ho =>
      have e : o = { dst := some 169, op := Op.indexAddr 42 (Operand.tmp 167) (Operand.tmp 168), type := 0, pos := "apart.go:1115", after := #[{ on := 0, ground := Ground.data }, { on := 1, ground := Ground.data }], guard := none } := (Option.some.inj ho).symm
      subst e
      have q0 : x.tmps.getD 167 undef = .slice (some ⟨b, off, none⟩) n cap := hdeps { on := 0, ground := Ground.data } (by simp) rfl
      have q1 : x.tmps.getD 168 undef = .int .i64 (k : Nat) := hdeps { on := 1, ground := Ground.data } (by simp) rfl
      simp only [Array.getD_eq_getD_getElem?] at q0 q1
      clear hdeps
      refine wpOp_step ho (fun K hK => ?_)
      clear ho
      go_simp
      exact hK _ _ ⟨_, act_put x hdef _ _, rfl, Below.refl _ _⟩
    | 3, ho =>
      have e : o = { dst := some 170, op := Op.load 22 (Operand.tmp 169), type := 22, pos := "apart.go:1115", after := #[{ on := 2, ground := Ground.data }], guard := none } := (Option.some.inj ho).symm
      subst e
      have q2 : x.tmps.getD 169 undef = .pointer (some ⟨b, off + k, none⟩) := hdeps { on := 2, ground := Ground.data } (by simp) rfl
      simp only [Array.getD_eq_getD_getElem?] at q2
      clear hdeps
      have c1w := cell_thru c1 hB
      rw [hA hlt1] at c1w
      refine wpOp_step ho (fun K hK => ?_)
      clear ho
      go_simp
      exact hK _ _ ⟨_, act_put x hdef _ _, rfl, Below.refl _ _⟩
    | 4, ho =>
      have e : o = { dst := some 171, op := Op.move (Operand.tmp 15), type := 3, pos := "apart.go:1115", after := #[], guard := none } := (Option.some.inj ho).symm
      subst e
      clear hdeps
      refine wpOp_step ho (fun K hK => ?_)
      clear ho
      go_simp
      exact hK _ _ ⟨_, act_put x hdef _ _, rfl, Below.refl _ _⟩
    | 5, ho =>
      have e : o = { dst := some 172, op := Op.indexAddr 22 (Operand.tmp 170) (Operand.tmp 171), type := 0, pos := "apart.go:1115", after := #[{ on := 3, ground := Ground.data }, { on := 4, ground := Ground.data }], guard := none } := (Option.some.inj ho).symm
      subst e
      have q3 : x.tmps.getD 170 undef = .slice (some ⟨g2, 0, none⟩) lk Ck := hdeps { on := 3, ground := Ground.data } (by simp) rfl
      have q4 : x.tmps.getD 171 undef = .int .i64 (i : Nat) := hdeps { on := 4, ground := Ground.data } (by simp) rfl
      simp only [Array.getD_eq_getD_getElem?] at q3 q4
      clear hdeps
      have hil : i < lk := of_decide_eq_true (HLT.out.symm.trans hlt1)
      have hilI : (i : Int) < (lk : Int) := by omega
      refine wpOp_step ho (fun K hK => ?_)
      clear ho
      go_simp
      exact hK _ _ ⟨_, act_put x hdef _ _, rfl, Below.refl _ _⟩
    | 6, ho =>
      have e : o = { dst := some 173, op := Op.load 45 (Operand.tmp 172), type := 45, pos := "apart.go:1115", after := #[{ on := 5, ground := Ground.data }], guard := none } := (Option.some.inj ho).symm
      subst e
      have q5 : x.tmps.getD 172 undef = .pointer (some ⟨g2, i * 2, none⟩) := hdeps { on := 5, ground := Ground.data } (by simp) rfl
      simp only [Array.getD_eq_getD_getElem?] at q5
      clear hdeps
      obtain ⟨γ, hr, hg⟩ := h2 hlt1
      have k0 : w.cell? ⟨g2, i * 2, none⟩ = some (.int .u8 0) := range_thru hr hB 0 _ rfl
      have k1 : w.cell? ⟨g2, i * 2 + 1, none⟩ = some (.slice (some ⟨γ, 0, none⟩) 1 1) := range_thru hr hB 1 _ rfl
      have hg2 := gd_below hg hB
      clear hr hg
      refine wpOp_step ho (fun K hK => ?_)
      clear ho
      go_simp
      exact hK _ _ ⟨_, act_put x hdef _ _, ⟨γ, rfl, hg2⟩, Below.refl _ _⟩
    | 7, ho =>
      have e : o = { dst := some 174, op := Op.move (Operand.tmp 14), type := 3, pos := "apart.go:1115", after := #[], guard := none } := (Option.some.inj ho).symm
      subst e
      clear hdeps
      refine wpOp_step ho (fun K hK => ?_)
      clear ho
      go_simp
      exact hK _ _ ⟨_, act_put x hdef _ _, rfl, Below.refl _ _⟩
    | 8, ho =>
      have e : o = { dst := some 175, op := Op.move (Operand.tmp 15), type := 3, pos := "apart.go:1115", after := #[], guard := none } := (Option.some.inj ho).symm
      subst e
      clear hdeps
      refine wpOp_step ho (fun K hK => ?_)
      clear ho
      go_simp
      exact hK _ _ ⟨_, act_put x hdef _ _, rfl, Below.refl _ _⟩
    | 9, ho =>
      have e : o = { dst := some 176, op := Op.call { callee := Callee.value (Operand.func 24), args := #[Operand.tmp 174, Operand.tmp 175], argTypes := #[3, 3] }, type := 45, pos := "apart.go:1115", after := #[{ on := 7, ground := Ground.data }, { on := 8, ground := Ground.data }], guard := none } := (Option.some.inj ho).symm
      subst e
      have q7 : x.tmps.getD 174 undef = .int .i64 (k : Nat) := hdeps { on := 7, ground := Ground.data } (by simp) rfl
      have q8 : x.tmps.getD 175 undef = .int .i64 (i : Nat) := hdeps { on := 8, ground := Ground.data } (by simp) rfl
      simp only [Array.getD_eq_getD_getElem?] at q7 q8
      clear hdeps
      refine wpOp_step ho (fun K hK => ?_)
      clear ho
      go_simp
      refine (cm w).mono ?_
      rintro e w' ⟨γ, rfl, hg, hb⟩
      exact hK _ _ ⟨_, act_put x hdef _ _, ⟨γ, rfl, hg⟩, hb⟩
    | 10, ho =>
      have e : o = { dst := some 177, op := Op.call { callee := Callee.value (Operand.func 33), args := #[Operand.tmp 173, Operand.tmp 176], argTypes := #[45, 45] }, type := 4, pos := "apart.go:1115", after := #[{ on := 6, ground := Ground.data }, { on := 9, ground := Ground.data }, { on := 9, ground := Ground.chain }], guard := none } := (Option.some.inj ho).symm
      subst e
      obtain ⟨γ6, q6, p6⟩ := hdeps { on := 6, ground := Ground.data } (by simp) rfl
      have q6 : x.tmps.getD 173 undef = .agg #[.int .u8 0, .slice (some ⟨γ6, 0, none⟩) 1 1] := q6
      obtain ⟨γ9, q9, p9⟩ := hdeps { on := 9, ground := Ground.data } (by simp) rfl
      have q9 : x.tmps.getD 176 undef = .agg #[.int .u8 0, .slice (some ⟨γ9, 0, none⟩) 1 1] := q9
      simp only [Array.getD_eq_getD_getElem?] at q6 q9
      clear hdeps
      refine wpOp_step ho (fun K hK => ?_)
      clear ho
      go_simp
      refine (same_any γ6 γ9 k i w p6 p9).mono ?_
      rintro e w' ⟨rfl, hb⟩
      exact hK _ _ ⟨_, act_put x hdef _ _, rfl, hb⟩
    | 11, ho =>
      have e : o = { dst := some 178, op := Op.unOp UnOp.not 4 (Operand.tmp 177), type := 4, pos := "apart.go:1115", after := #[{ on := 10, ground := Ground.data }], guard := none } := (Option.some.inj ho).symm
      subst e
      have q10 : x.tmps.getD 177 undef = .bool true := hdeps { on := 10, ground := Ground.data } (by simp) rfl
      simp only [Array.getD_eq_getD_getElem?] at q10
      clear hdeps
      refine wpOp_step ho (fun K hK => ?_)
      clear ho
      go_simp
      exact hK _ _ ⟨_, act_put x hdef _ _, rfl, Below.refl _ _⟩
    | 12, ho =>
      have e : o = { dst := some 179, op := Op.move (Operand.tmp 178), type := 4, pos := "apart.go:1115", after := #[{ on := 11, ground := Ground.data }, { on := 10, ground := Ground.chain }], guard := none } := (Option.some.inj ho).symm
      subst e
      have q11 : x.tmps.getD 178 undef = .bool false := hdeps { on := 11, ground := Ground.data } (by simp) rfl
      simp only [Array.getD_eq_getD_getElem?] at q11
      clear hdeps
      refine wpOp_step ho (fun K hK => ?_)
      clear ho
      go_simp
      exact hK _ _ ⟨_, act_put x hdef _ _, rfl, Below.refl _ _⟩
    | 13, ho =>
      have e : o = { dst := some 180, op := Op.move (Operand.tmp 5), type := 42, pos := "apart.go:1115", after := #[{ on := 12, ground := Ground.guard }], guard := some (12, false) } := (Option.some.inj ho).symm
      subst e
      have q12 : x.tmps.getD 179 undef = .bool false := hdeps { on := 12, ground := Ground.guard } (by simp) rfl
      have e12 : (ops41[12]?.bind fun x => x.dst) = some 179 := rfl
      have g12 := get_some q12 (fun h => by cases h)
      simp only [Array.getD_eq_getD_getElem?] at q12
      clear hdeps
      refine wpOp_step ho (fun K hK => ?_)
      clear ho
      go_simp
      exact hK _ _ ⟨_, act_put x hdef _ _, rfl, Below.refl _ _⟩
    | 14, ho =>
      have e : o = { dst := some 181, op := Op.move (Operand.tmp 14), type := 3, pos := "apart.go:1115", after := #[{ on := 12, ground := Ground.guard }], guard := some (12, false) } := (Option.some.inj ho).symm
      subst e
      have q12 : x.tmps.getD 179 undef = .bool false := hdeps { on := 12, ground := Ground.guard } (by simp) rfl
      have e12 : (ops41[12]?.bind fun x => x.dst) = some 179 := rfl
      have g12 := get_some q12 (fun h => by cases h)
      simp only [Array.getD_eq_getD_getElem?] at q12
      clear hdeps
      refine wpOp_step ho (fun K hK => ?_)
      clear ho
      go_simp
      exact hK _ _ ⟨_, act_put x hdef _ _, rfl, Below.refl _ _⟩
    | 15, ho =>
      have e : o = { dst := some 182, op := Op.indexAddr 42 (Operand.tmp 180) (Operand.tmp 181), type := 0, pos := "apart.go:1115", after := #[{ on := 13, ground := Ground.data }, { on := 14, ground := Ground.data }, { on := 12, ground := Ground.guard }], guard := some (12, false) } := (Option.some.inj ho).symm
      subst e
      have q13 : x.tmps.getD 180 undef = .slice (some ⟨G, 0, none⟩) n n := hdeps { on := 13, ground := Ground.data } (by simp) rfl
      have q14 : x.tmps.getD 181 undef = .int .i64 (k : Nat) := hdeps { on := 14, ground := Ground.data } (by simp) rfl
      have q12 : x.tmps.getD 179 undef = .bool false := hdeps { on := 12, ground := Ground.guard } (by simp) rfl
      have e12 : (ops41[12]?.bind fun x => x.dst) = some 179 := rfl
      have g12 := get_some q12 (fun h => by cases h)
      simp only [Array.getD_eq_getD_getElem?] at q13 q14 q12
      clear hdeps
      refine wpOp_step ho (fun K hK => ?_)
      clear ho
      go_simp
      exact hK _ _ ⟨_, act_put x hdef _ _, rfl, Below.refl _ _⟩
    | 16, ho =>
      have e : o = { dst := some 183, op := Op.load 22 (Operand.tmp 182), type := 22, pos := "apart.go:1115", after := #[{ on := 15, ground := Ground.data }, { on := 12, ground := Ground.guard }], guard := some (12, false) } := (Option.some.inj ho).symm
      subst e
      have q15 : x.tmps.getD 182 undef = .pointer (some ⟨G, k, none⟩) := hdeps { on := 15, ground := Ground.data } (by simp) rfl
      have q12 : x.tmps.getD 179 undef = .bool false := hdeps { on := 12, ground := Ground.guard } (by simp) rfl
      have e12 : (ops41[12]?.bind fun x => x.dst) = some 179 := rfl
      have g12 := get_some q12 (fun h => by cases h)
      simp only [Array.getD_eq_getD_getElem?] at q15 q12
      clear hdeps
      have d1w := cell_thru d1 hB
      refine wpOp_step ho (fun K hK => ?_)
      clear ho
      go_simp
      exact hK _ _ ⟨_, act_put x hdef _ _, rfl, Below.refl _ _⟩
    | 17, ho =>
      have e : o = { dst := some 184, op := Op.move (Operand.tmp 15), type := 3, pos := "apart.go:1115", after := #[{ on := 12, ground := Ground.guard }], guard := some (12, false) } := (Option.some.inj ho).symm
      subst e
      have q12 : x.tmps.getD 179 undef = .bool false := hdeps { on := 12, ground := Ground.guard } (by simp) rfl
      have e12 : (ops41[12]?.bind fun x => x.dst) = some 179 := rfl
      have g12 := get_some q12 (fun h => by cases h)
      simp only [Array.getD_eq_getD_getElem?] at q12
      clear hdeps
      refine wpOp_step ho (fun K hK => ?_)
      clear ho
      go_simp
      exact hK _ _ ⟨_, act_put x hdef _ _, rfl, Below.refl _ _⟩
    | 18, ho =>
      have e : o = { dst := some 185, op := Op.indexAddr 22 (Operand.tmp 183) (Operand.tmp 184), type := 0, pos := "apart.go:1115", after := #[{ on := 16, ground := Ground.data }, { on := 17, ground := Ground.data }, { on := 12, ground := Ground.guard }], guard := some (12, false) } := (Option.some.inj ho).symm
      subst e
      have q16 : x.tmps.getD 183 undef = .slice (some ⟨g, 0, none⟩) lg C1 := hdeps { on := 16, ground := Ground.data } (by simp) rfl
      have q17 : x.tmps.getD 184 undef = .int .i64 (i : Nat) := hdeps { on := 17, ground := Ground.data } (by simp) rfl
      have q12 : x.tmps.getD 179 undef = .bool false := hdeps { on := 12, ground := Ground.guard } (by simp) rfl
      have e12 : (ops41[12]?.bind fun x => x.dst) = some 179 := rfl
      have g12 := get_some q12 (fun h => by cases h)
      simp only [Array.getD_eq_getD_getElem?] at q16 q17 q12
      clear hdeps
      refine wpOp_step ho (fun K hK => ?_)
      clear ho
      go_simp
      exact hK _ _ ⟨_, act_put x hdef _ _, rfl, Below.refl _ _⟩
    | 19, ho =>
      have e : o = { dst := some 186, op := Op.load 45 (Operand.tmp 185), type := 45, pos := "apart.go:1115", after := #[{ on := 18, ground := Ground.data }, { on := 12, ground := Ground.guard }], guard := some (12, false) } := (Option.some.inj ho).symm
      subst e
      have q18 : x.tmps.getD 185 undef = .pointer (some ⟨g, i * 2, none⟩) := hdeps { on := 18, ground := Ground.data } (by simp) rfl
      have q12 : x.tmps.getD 179 undef = .bool false := hdeps { on := 12, ground := Ground.guard } (by simp) rfl
      have e12 : (ops41[12]?.bind fun x => x.dst) = some 179 := rfl
      have g12 := get_some q12 (fun h => by cases h)
      simp only [Array.getD_eq_getD_getElem?] at q18 q12
      clear hdeps
      obtain ⟨γ, hr, hg⟩ := h1
      have k0 : w.cell? ⟨g, i * 2, none⟩ = some (.int .u8 0) := range_thru hr hB 0 _ rfl
      have k1 : w.cell? ⟨g, i * 2 + 1, none⟩ = some (.slice (some ⟨γ, 0, none⟩) 1 1) := range_thru hr hB 1 _ rfl
      have hg2 := gd_below hg hB
      clear hr hg
      refine wpOp_step ho (fun K hK => ?_)
      clear ho
      go_simp
      exact hK _ _ ⟨_, act_put x hdef _ _, ⟨γ, rfl, hg2⟩, Below.refl _ _⟩
    | 20, ho =>
      have e : o = { dst := some 187, op := Op.move (Operand.tmp 14), type := 3, pos := "apart.go:1115", after := #[{ on := 12, ground := Ground.guard }], guard := some (12, false) } := (Option.some.inj ho).symm
      subst e
      have q12 : x.tmps.getD 179 undef = .bool false := hdeps { on := 12, ground := Ground.guard } (by simp) rfl
      have e12 : (ops41[12]?.bind fun x => x.dst) = some 179 := rfl
      have g12 := get_some q12 (fun h => by cases h)
      simp only [Array.getD_eq_getD_getElem?] at q12
      clear hdeps
      refine wpOp_step ho (fun K hK => ?_)
      clear ho
      go_simp
      exact hK _ _ ⟨_, act_put x hdef _ _, rfl, Below.refl _ _⟩
    | 21, ho =>
      have e : o = { dst := some 188, op := Op.move (Operand.tmp 15), type := 3, pos := "apart.go:1115", after := #[{ on := 12, ground := Ground.guard }], guard := some (12, false) } := (Option.some.inj ho).symm
      subst e
      have q12 : x.tmps.getD 179 undef = .bool false := hdeps { on := 12, ground := Ground.guard } (by simp) rfl
      have e12 : (ops41[12]?.bind fun x => x.dst) = some 179 := rfl
      have g12 := get_some q12 (fun h => by cases h)
      simp only [Array.getD_eq_getD_getElem?] at q12
      clear hdeps
      refine wpOp_step ho (fun K hK => ?_)
      clear ho
      go_simp
      exact hK _ _ ⟨_, act_put x hdef _ _, rfl, Below.refl _ _⟩
    | 22, ho =>
      have e : o = { dst := some 189, op := Op.call { callee := Callee.value (Operand.func 24), args := #[Operand.tmp 187, Operand.tmp 188], argTypes := #[3, 3] }, type := 45, pos := "apart.go:1115", after := #[{ on := 20, ground := Ground.data }, { on := 21, ground := Ground.data }, { on := 12, ground := Ground.chain }, { on := 12, ground := Ground.guard }], guard := some (12, false) } := (Option.some.inj ho).symm
      subst e
      have q20 : x.tmps.getD 187 undef = .int .i64 (k : Nat) := hdeps { on := 20, ground := Ground.data } (by simp) rfl
      have q21 : x.tmps.getD 188 undef = .int .i64 (i : Nat) := hdeps { on := 21, ground := Ground.data } (by simp) rfl
      have q12 : x.tmps.getD 179 undef = .bool false := hdeps { on := 12, ground := Ground.guard } (by simp) rfl
      have e12 : (ops41[12]?.bind fun x => x.dst) = some 179 := rfl
      have g12 := get_some q12 (fun h => by cases h)
      simp only [Array.getD_eq_getD_getElem?] at q20 q21 q12
      clear hdeps
      refine wpOp_step ho (fun K hK => ?_)
      clear ho
      go_simp
      refine (cm w).mono ?_
      rintro e w' ⟨γ, rfl, hg, hb⟩
      exact hK _ _ ⟨_, act_put x hdef _ _, ⟨γ, rfl, hg⟩, hb⟩
    | 23, ho =>
      have e : o = { dst := some 190, op := Op.call { callee := Callee.value (Operand.func 33), args := #[Operand.tmp 186, Operand.tmp 189], argTypes := #[45, 45] }, type := 4, pos := "apart.go:1115", after := #[{ on := 19, ground := Ground.data }, { on := 22, ground := Ground.data }, { on := 22, ground := Ground.chain }, { on := 12, ground := Ground.guard }], guard := some (12, false) } := (Option.some.inj ho).symm
      subst e
      obtain ⟨γ19, q19, p19⟩ := hdeps { on := 19, ground := Ground.data } (by simp) rfl
      have q19 : x.tmps.getD 186 undef = .agg #[.int .u8 0, .slice (some ⟨γ19, 0, none⟩) 1 1] := q19
      obtain ⟨γ22, q22, p22⟩ := hdeps { on := 22, ground := Ground.data } (by simp) rfl
      have q22 : x.tmps.getD 189 undef = .agg #[.int .u8 0, .slice (some ⟨γ22, 0, none⟩) 1 1] := q22
      have q12 : x.tmps.getD 179 undef = .bool false := hdeps { on := 12, ground := Ground.guard } (by simp) rfl
      have e12 : (ops41[12]?.bind fun x => x.dst) = some 179 := rfl
      have g12 := get_some q12 (fun h => by cases h)
      simp only [Array.getD_eq_getD_getElem?] at q19 q22 q12
      clear hdeps
      refine wpOp_step ho (fun K hK => ?_)
      clear ho
      go_simp
      refine (same_any γ19 γ22 k i w p19 p22).mono ?_
      rintro e w' ⟨rfl, hb⟩
      exact hK _ _ ⟨_, act_put x hdef _ _, rfl, hb⟩
    | 24, ho =>
      have e : o = { dst := some 191, op := Op.unOp UnOp.not 4 (Operand.tmp 190), type := 4, pos := "apart.go:1115", after := #[{ on := 23, ground := Ground.data }, { on := 12, ground := Ground.guard }], guard := some (12, false) } := (Option.some.inj ho).symm
      subst e
      have q23 : x.tmps.getD 190 undef = .bool true := hdeps { on := 23, ground := Ground.data } (by simp) rfl
      have q12 : x.tmps.getD 179 undef = .bool false := hdeps { on := 12, ground := Ground.guard } (by simp) rfl
      have e12 : (ops41[12]?.bind fun x => x.dst) = some 179 := rfl
      have g12 := get_some q12 (fun h => by cases h)
      simp only [Array.getD_eq_getD_getElem?] at q23 q12
      clear hdeps
      refine wpOp_step ho (fun K hK => ?_)
      clear ho
      go_simp
      exact hK _ _ ⟨_, act_put x hdef _ _, rfl, Below.refl _ _⟩
    | 25, ho =>
      have e : o = { dst := some 192, op := Op.pick (Operand.tmp 179) (Operand.const (Value.bool true)) (Operand.tmp 191), type := 4, pos := "apart.go:1115", after := #[{ on := 12, ground := Ground.data }, { on := 24, ground := Ground.data }], guard := none } := (Option.some.inj ho).symm
      subst e
      have q12 : x.tmps.getD 179 undef = .bool false := hdeps { on := 12, ground := Ground.data } (by simp) rfl
      have q24 : x.tmps.getD 191 undef = .bool false := hdeps { on := 24, ground := Ground.data } (by simp) rfl
      simp only [Array.getD_eq_getD_getElem?] at q12 q24
      clear hdeps
      refine wpOp_step ho (fun K hK => ?_)
      clear ho
      go_simp
      exact hK _ _ ⟨_, act_put x hdef _ _, rfl, Below.refl _ _⟩
    | k + 26, _ => omega
  · intro x w hB hdef hsz hs hv
    exact hQ x w hB hdef (hsz.trans ht) (hun x hs) (hv 25 (by decide))
set_option maxRecDepth 100000 in
theorem region41_lit (n cap k i G g g2 b off lg lk C1 Ck : Nat) (Ak : Option Addr) (lt : Bool) (Q : Exit → Act → World → Prop) (t0 : Array Value) (w0 : World) (ht : t0.size = 193)
    (hs5 : t0.getD 5 undef = .slice (some ⟨G, 0, none⟩) n n) (hs9 : t0.getD 14 undef = .int .i64 (k : Nat)) (hs10 : t0.getD 15 undef = .int .i64 (i : Nat)) (hs0 : t0.getD 0 undef = .slice (some ⟨b, off, none⟩) n cap)
    (hkn : k < n) (hig : i < lg) (hlg : lg ≤ C1) (hlt : lt = decide (i < lk)) (hlk : lk ≤ Ck) (hA : lt = true → Ak = some ⟨g2, 0, none⟩) (hlt1 : lt = true)
    (d1 : w0.cell? ⟨G, k, none⟩ = some (.slice (some ⟨g, 0, none⟩) lg C1)) (c1 : w0.cell? ⟨b, off + k, none⟩ = some (.slice Ak lk Ck))
    (h1 : ∃ γ, w0.rangeAt g (i * 2) (el γ k i) ∧ gd w0 γ k i) (h2 : lt = true → ∃ γ, w0.rangeAt g2 (i * 2) (el γ k i) ∧ gd w0 γ k i)
    (cm : ∀ W : World, Calls Tryz.prog 24 #[.int .i64 (k : Nat), .int .i64 (i : Nat)] W fun e w' => ∃ γ, e = .returned (.agg #[.int .u8 0, .slice (some ⟨γ, 0, none⟩) 1 1]) ∧ gd w' γ k i ∧ Below W.heap.size W w')
    (hQ : ∀ (vs : Nat → Value) (w : World), Below w0.heap.size w0 w → vs 192 = .bool false → Q .normal { tmps := [167, 168, 169, 170, 171, 172, 173, 174, 175, 176, 177, 178, 179, 180, 181, 182, 183, 184, 185, 186, 187, 188, 189, 190, 191, 192].foldl (fun y d => y.setIfInBounds d (vs d)) t0, defers := [] } w) :
    (Code.region 41 ops41 true).wp Tryz.prog Q { tmps := t0, defers := [] } w0 := by
  refine region41 n cap k i G g g2 b off lg lk C1 Ck Ak lt Q t0 w0 ht hs5 hs9 hs10 hs0 hkn hig hlg hlt hlk hA hlt1 d1 c1 h1 h2 cm ?_
  intro x w hB hdef hsz hs h10
  have hx := frame_sets x.tmps t0 (by omega) [167, 168, 169, 170, 171, 172, 173, 174, 175, 176, 177, 178, 179, 180, 181, 182, 183, 184, 185, 186, 187, 188, 189, 190, 191, 192] (fun s hn => hs s (fun e => hn (by simp only [List.mem_cons, List.mem_nil_iff, or_false]; omega)))
  have hq := hQ (fun d => x.tmps.getD d undef) w hB h10
  obtain ⟨T, Df⟩ := x
  dsimp only at hx hdef hq
  subst hdef
  rw [← hx] at hq
  exact hq
end Go.Proofs.YtlmjplpledilhaaGreat.PartFlat

/-
  Lists of api.Part that lie apart: flatParts says so.
-/
namespace Go.Proofs.YtlmjplpledilhaaGreat.PartFlat
open Go.RowKit
set_option linter.unusedVariables false

theorem mkR_one (γ : Nat → Nat) (κ : Nat → Nat × Nat) : ∀ m, ∀ u ∈ mkR γ κ m, u.oneCell' = true
  | 0, u, hu => by cases hu
  | m + 1, u, hu => by
    rcases List.mem_append.1 hu with h | h
    · exact mkR_one γ κ m u h
    · exact el_one _ _ _ u h
theorem RowM.glue {w : World} {v : Value} {a c : Nat} {γ1 γ2 : Nat → Nat} {κ1 κ2 : Nat → Nat × Nat} (h : w.ownsRow 0 45 2 v (a + c) (mkR γ1 κ1 a ++ mkR γ2 κ2 c)) (h1 : ∀ i, i < a → gd w (γ1 i) (κ1 i).1 (κ1 i).2) (h2 : ∀ i, i < c → gd w (γ2 i) (κ2 i).1 (κ2 i).2) :
    RowM w v (a + c) (fun j => if j < a then κ1 j else κ2 (j - a)) (a + c) := by
  refine ⟨Nat.le_refl _, fun j => if j < a then γ1 j else γ2 (j - a), [], ?_, fun i hi => ?_⟩
  · rw [List.append_nil, mkR_add, mkR_congr (γ' := γ1) (κ' := κ1) a (fun i hi => ⟨if_pos hi, if_pos hi⟩)]
    have e : mkR (fun j => (fun j => if j < a then γ1 j else γ2 (j - a)) (a + j)) (fun j => (fun j => if j < a then κ1 j else κ2 (j - a)) (a + j)) c = mkR γ2 κ2 c := mkR_congr c (fun i _ => by
      dsimp only
      rw [if_neg (by omega), if_neg (by omega), Nat.add_sub_cancel_left]
      exact ⟨rfl, rfl⟩)
    rw [e]
    exact h
  · dsimp only
    by_cases e : i < a
    · rw [if_pos e, if_pos e]; exact h1 i e
    · rw [if_neg e, if_neg e]; exact h2 (i - a) (by omega)
/-- Marks of place i behind the first ones of a grown list. -/
def κg (n : Nat) (l : Nat → Nat) (r j : Nat) : Nat × Nat := if j < l r then (r, j) else (r + n, j - l r)
theorem below_undrew {B : Nat} {w w' : World} (h : Below B w.drew w') : Below B w w' := ⟨h.os, h.tape, h.output, h.size, h.block⟩
theorem below_setCells {B b : Nat} {w0 : World} (hB : B ≤ b) : ∀ (vs : List Value) (o : Nat) (w : World), Below B w0 w → Below B w0 (w.setCells b o vs)
  | [], _, _, h => h
  | v :: r, o, _, h => below_setCells hB r (o + 1) _ (h.setCell (p := ⟨b, o, none⟩) hB v)

set_option maxRecDepth 100000 in
set_option maxHeartbeats 4000000 in
theorem flat_any (b off n cap : Nat) (A : Nat → Option Addr) (l C : Nat → Nat) (X : Nat → List Value) (w : World) (hn : n ≤ 100000) (hl : ∀ r, r < n → l r ≤ 1000000000000) (ha : Apt n b A l C)
    (hc : ∀ r, r < n → w.cell? ⟨b, off + r, none⟩ = some (fv A l C r)) (ho : ∀ r, r < n → w.ownsRow 0 45 2 (fv A l C r) (l r) (X r)) :
    Calls Tryz.prog 72 #[.slice (some ⟨b, off, none⟩) n cap] w fun e w' => e = .returned (.bool true) ∧ St n A l C l w w' := by
  have HC := hide hc
  have HO := hide ho
  have HL := hide hl
  have HA := hide ha
  clear hc ho hl ha
  obtain ⟨i0, hi, hq0, hq1, hq2⟩ := info_parts info_e
  go_enter Tryz.func72, Tryz.ntmps72
  go_upto_block 0 with fail
  go_cut [] (fun wx => St n A l C l w wx)
  case first =>
    go_wp2_with fail
    go_loopg [3] n (fun q s3 wr => ∃ k : Nat, k + q = n ∧ s3 = .int .i64 (k : Nat) ∧ St n A l C (fun r => if r < k then l r else 0) w wr)
    case atStart => exact ⟨0, by omega, rfl, ⟨Kept.refl _ _, fun r hr => by simpa using RowM.start (HO.out r hr)⟩⟩
    case round =>
      obtain ⟨k, hkq, rfl, hst⟩ := hrel
      have hk0 : (0 : Int) ≤ (k : Int) := by omega
      cases gk with
      | zero =>
        obtain rfl : k = n := by omega
        have hkz : ¬ ((k : Int) < (k : Int)) := by omega
        have HS := hide (hst.congr (M' := l) (fun r hr => if_pos hr))
        clear hst
        go_wp2_with fail
        go_meet
        exact HS.out
      | succ q =>
        have hkz : (k : Int) < (n : Int) := by omega
        have hkn : k < n := by omega
        obtain ⟨wo, rfl⟩ : ∃ wo : World, wo = wr := ⟨_, rfl⟩
        have hst0 : St n A l C (fun r => if r = k then 0 else if r < k then l r else 0) w wo := hst.congr (fun r hr => by
          by_cases e : r = k
          · subst e; simp
          · rw [if_neg e])
        have hlk := HL.out k hkn
        clear hst
        have hrow := hst0.row HA.out (HC.out k hkn)
        unfold fv at hrow
        go_wp2_with fail
        go_loopg [4] (l k) (fun q s4 wr => ∃ i : Nat, i + q = l k ∧ s4 = .int .i64 (i : Nat) ∧ St n A l C (fun r => if r = k then i else if r < k then l r else 0) w wr)
        case atStart => exact ⟨0, by omega, rfl, hst0⟩
        case round =>
          obtain ⟨i, hiq, rfl, hst⟩ := hrel
          clear hst0 hrow
          have hi0 : (0 : Int) ≤ (i : Int) := by omega
          have c1 := hst.row HA.out (HC.out k hkn)
          have hown := hst.2 k hkn
          simp only [if_true] at hown
          cases gk with
          | zero =>
            have hil : i = l k := by omega
            have hiz : ¬ ((i : Int) < (l k : Int)) := by omega
            have HS : Hid (St n A l C (fun r => if r < k + 1 then l r else 0) w wr) := hst.congr (fun r hr => by
              by_cases e : r = k
              · subst e
                rw [if_pos rfl, if_pos (by omega), hil]
              · rw [if_neg e]
                by_cases e2 : r < k
                · rw [if_pos e2, if_pos (by omega)]
                · rw [if_neg e2, if_neg (by omega)])
            unfold fv at c1
            clear hst hown hil
            go_wp2_with fail
            go_roundg q
            case measure => omega
            case rel => exact ⟨k + 1, by omega, by go_num, HS.out⟩
          | succ q2 =>
            have hiz : (i : Int) < (l k : Int) := by omega
            have hil : i < l k := by omega
            obtain ⟨g, C', hv, hlc, hcm⟩ := hown.slice (by omega)
            have hgo : (fv A l C k).ownBlock = some g := by rw [hv]; rfl
            rw [hv] at c1
            have hm := fun W : World => mark_any k i W (by omega) (by omega)
            have HS : Hid (∀ (w' : World) (γ : Nat), Below wr.heap.size wr w' → gd w' γ k i → St n A l C (fun r => if r = k then i + 1 else if r < k then l r else 0) w (w'.setCells g (i * 2) (el γ k i))) := fun w' γ hb hg => by
              have h1 := (hown.below hb).mark (γ0 := γ) hgo hil hg
              have h2 := hst.step HA.out hkn (F := fun x => x = g) ((Kept.of_below (F := fun x => x = g) hb).trans (kept_setCells g (el γ k i) (i * 2) w') (fun _ _ h => h)) (fun x hx => .inl (by have : x = g := hx; rw [this]; exact hgo)) h1
              refine h2.congr (fun r hr => ?_)
              by_cases e : r = k
              · simp only [if_pos e]
              · simp only [if_neg e]
            have HT : Hid (∀ w' : World, Below wr.heap.size wr w' → w'.there g (i * 2) 2) := fun w' hb => by
              have h1 := hown.below hb
              rw [hv] at h1
              exact h1.there hil
            have HK : Hid (∀ w' : World, Below wr.drew.heap.size wr.drew w' → Below wr.heap.size wr w') := fun w' h => below_undrew h
            have hgb : ¬ (b = g) := fun e => HA.out.nb k g hkn hgo e.symm
            clear hst hown hv hgo
            go_upto_region 7 with fail
            go_region_held3 (fun w' => w'.cell? ⟨b, off + k, none⟩ = some (.slice (some ⟨g, 0, none⟩) (l k) C')) (first | exact c1 | exact c1m | exact c1s) (first | (go_at_call 24; refine (hm _).mono ?_; rintro e w' ⟨γ, rfl, hg, hbm0⟩; have hbm := HK.out w' hbm0; have c1m := cell_thru c1 hbm; have c1s := (kept_setCells g (el γ k i) (i * 2) w').cell c1m hgb; have hth := HT.out w' hbm; obtain ⟨t0, f0⟩ := hth 0 (by omega); obtain ⟨u0x, t0⟩ := Option.isSome_iff_exists.1 t0; obtain ⟨t1, f1⟩ := hth 1 (by omega); obtain ⟨u1x, t1⟩ := Option.isSome_iff_exists.1 t1; simp only [Nat.add_zero] at t0 f0))
            all_goals
              go_wp2_with fail
              go_roundg q2
              case measure => omega
              case rel => exact ⟨i + 1, by omega, by go_num, HS.out _ _ hbm hg⟩
  case rest =>
    have hst1 := hcut
    have hsw : w.heap.size ≤ wc.heap.size := hst1.1.size
    have hvG : ∀ r g, r < n → (fv A l C r).ownBlock = some g → g ≠ wc.heap.size := fun r g hr hg => by
      have := (owns_cells (HO.out r hr) g hg).1
      omega
    have HVG := hide hvG
    have hmk := fun wx => run_make_row' (P := Tryz.prog) 42 22 (.slice none 0 0) 24 Tryz.underlying42 info_sb rfl .i64 .i64 n (by omega) (by omega) wx
    have HS2 := hide (hst1.below (below_alloc wc (.cells (madeCells #[.slice none 0 0] n) 22)))
    have HG2 : Hid (GS n wc.heap.size A l C w 0 (fun r j => (r, j)) (wc.alloc (.cells (madeCells #[.slice none 0 0] n) 22))) := GS.made w wc
    clear hst1 hcut hvG
    go_upto_block 4 with fail
    clear hmk
    generalize hG : wc.heap.size = G at *
    go_cut [] (fun wx => St n A l C l w wx ∧ GS n G A l C w n (fun r j => (r, j)) wx)
    case first =>
      have HGG := hide hG
      clear hG
      go_wp2_with fail
      go_loopg [6] n (fun q s6 wr => ∃ k : Nat, k + q = n ∧ s6 = .int .i64 (k : Nat) ∧ St n A l C l w wr ∧ GS n G A l C w k (fun r j => (r, j)) wr)
      case atStart => exact ⟨0, by omega, rfl, HS2.out, HG2.out⟩
      case round =>
        obtain ⟨k, hkq, rfl, hst, hgs⟩ := hrel
        have hk0 : (0 : Int) ≤ (k : Int) := by omega
        cases gk with
        | zero =>
          obtain rfl : k = n := by omega
          have hkz : ¬ ((k : Int) < (k : Int)) := by omega
          have HS := hide (And.intro hst hgs)
          clear hst hgs
          go_wp2_with fail
          go_meet
          exact HS.out
        | succ q =>
          have hkz : (k : Int) < (n : Int) := by omega
          have hkn : k < n := by omega
          obtain ⟨wo, rfl⟩ : ∃ wo : World, wo = wr := ⟨_, rfl⟩
          have hlk := HL.out k hkn
          have c1 := hst.row HA.out (HC.out k hkn)
          have HST := hide hst
          have HGS := hide hgs
          have hownk := hst.2 k hkn
          have HOWNK := hide hownk
          have hwo : w.heap.size ≤ wo.heap.size := hst.1.size
          clear hst hgs hownk
          unfold fv at c1
          go_wp2_with fail
          go_loopg [7, 8] 64 (fun q s7 s8 wr => ∃ (i : Nat) (A' : Option Addr) (C' : Nat), i + q = 64 ∧ s8 = .int .i64 (i : Nat) ∧ s7 = .slice A' (l k + i) C' ∧ RowM wr (.slice A' (l k + i) C') (l k + i) (fun j => (k, j)) (l k + i) ∧
            (∀ x, (Value.slice A' (l k + i) C').ownBlock = some x → (fv A l C k).ownBlock = some x ∨ wo.heap.size ≤ x) ∧ Kept (fun x => (fv A l C k).ownBlock = some x) wo wr ∧ RowM wr (fv A l C k) (l k) (fun j => (k, j)) (l k))
          case atStart => exact ⟨0, A k, C k, by omega, rfl, rfl, HOWNK.out, fun x hx => .inl hx, Kept.refl _ _, HOWNK.out⟩
          case round =>
            obtain ⟨i, A', C', hiq, rfl, rfl, hog, hgo, hK, hvk⟩ := hrel
            have hi0 : (0 : Int) ≤ (i : Int) := by omega
            have hbk : ¬ (fv A l C k).ownBlock = some b := fun h => HA.out.nb k b hkn h rfl
            have c2 := hK.cell c1 hbk
            cases gk with
            | zero =>
              obtain rfl : i = 64 := by omega
              have hiz : ¬ ((64 : Int) < (64 : Int)) := by omega
              have hGk : ¬ (fv A l C k).ownBlock = some G := fun h => HVG.out k G hkn h rfl
              have hTk := HOWNK.out.tyF
              have hgs3 := HGS.out.kept hK hGk hTk (fun r g hr h hf => by
                rcases h with h | h
                · have := HA.out.dist r k g (by omega) hkn h hf
                  omega
                · have := (owns_cells (HO.out k hkn) g hf).1
                  omega)
              have hst3 := (HST.out.step HA.out hkn hK (fun g hg => .inl hg) hvk).congr (M' := l) (fun r _ => by
                by_cases e : r = k
                · rw [if_pos e, e]
                · rw [if_neg e])
              obtain ⟨u, d1, d2⟩ := hgs3.cell hkn
              have HS : Hid (St n A l C l w (wr.setCell ⟨G, k, none⟩ (.slice A' (l k + 64) C')) ∧ GS n G A l C w (k + 1) (fun r j => (r, j)) (wr.setCell ⟨G, k, none⟩ (.slice A' (l k + 64) C'))) :=
                ⟨hst3.setG hgs3.tyF hsw HVG.out _ _, hgs3.put hkn HVG.out hog (fun g hg => by
                  rcases hgo g hg with h | h
                  · exact .inl h
                  · refine .inr ⟨by omega, fun e => ?_⟩
                    have := HGS.out.lt
                    omega)⟩
              clear hgs3 hst3 hog hgo hK hvk hTk
              go_wp2_with fail
              go_roundg q
              case measure => omega
              case rel => exact ⟨k + 1, by omega, by go_num, HS.out⟩
            | succ q2 =>
              have hiz : (i : Int) < (64 : Int) := by omega
              have hm := fun W : World => mark_any k (l k + i) W (by omega) (by omega)
              rw [Int.natCast_add] at hm
              obtain ⟨_, γ, rest, hog1, hgd⟩ := hog
              have HGO := hide hgo
              have HVK := hide hvk
              have HGD := hide hgd
              have HOG := hide hog1
              clear hog1 hgo hvk hgd
              go_wp2_with (first
                | (go_at_call 24; refine (hm _).mono ?_; rintro e w' ⟨γ0, rfl, hg0, hbm⟩; have hba := below_step hbm (.cells #[.int .u8 0, .slice (some ⟨γ0, 0, none⟩) 1 1] 45); have hogA := owns_thruS HOG.out hba; have hn1 := World.news_of_block (heap_alloc_new w' (.cells #[.int .u8 0, .slice (some ⟨γ0, 0, none⟩) 1 1] 45)))
                | (at_builtin; go_must (refine wpList_append_keepS _ rfl (.tmp 57) (.tmp 67) 22 rfl 45 i0 (.agg #[.int .u8 0, .slice none 0 0]) 2 32 Tryz.underlying22 hi hq0 hq1 hq2 rfl (by omega) 0 _ (l k + i) _ rfl hogA ⟨w'.heap.size, 0, none⟩ 1 1 (el γ0 k (l k + i)) rfl rfl hn1 (el_one _ _ _) (by unfold maxLen; omega) (by omega) (by omega) ?_); intro A3 C3 w3 hown3 hg3 hold3))
              obtain ⟨e1, e2, e3, e4⟩ := grow_step HVK.out HOG.out (by omega) hK HGO.out hba hg3 hold3
              have hnew := RowM.snoc hown3 (RowM.rest HOG.out) (fun j hj => e4 _ _ _ (gd_below (HGD.out j hj) hba)) (e4 _ _ _ (gd_below hg0 (below_alloc w' _)))
              go_roundg q2
              case measure => omega
              case rel => exact ⟨i + 1, A3, C3, by omega, by go_num, rfl, hnew, e3, e1, e2⟩
    case rest =>
      obtain ⟨hstA, hgsA⟩ := hcut
      have HSA := hide hstA
      have HGA := hide hgsA
      clear hstA hgsA HS2 HG2 hG
      obtain ⟨wA, hwA⟩ : ∃ wA, wc = wA := ⟨_, rfl⟩
      go_upto_block 8 with fail
      go_cut [] (fun wx => St n A l C l w wx ∧ GS n G A l C w n (fun r j => (r, j)) wx)
      case first =>
        clear hwA
        go_wp2_with fail
        go_loopg [9] n (fun q s9 wr => ∃ k : Nat, k + q = n ∧ s9 = .int .i64 (k : Nat) ∧ St n A l C l w wr ∧ GS n G A l C w n (fun r j => (r, j)) wr)
        case atStart => exact ⟨0, by omega, rfl, HSA.out, HGA.out⟩
        case round =>
          obtain ⟨k, hkq, rfl, hst, hgs⟩ := hrel
          have hk0 : (0 : Int) ≤ (k : Int) := by omega
          cases gk with
          | zero =>
            obtain rfl : k = n := by omega
            have hkz : ¬ ((k : Int) < (k : Int)) := by omega
            have HS := hide (And.intro hst hgs)
            clear hst hgs
            go_wp2_with fail
            go_meet
            exact HS.out
          | succ q =>
            have hkz : (k : Int) < (n : Int) := by omega
            have hkn : k < n := by omega
            have hlk := HL.out k hkn
            have HSG := hide (And.intro hst hgs)
            clear hst hgs
            obtain ⟨wo, rfl⟩ : ∃ wo : World, wo = wr := ⟨_, rfl⟩
            go_wp2_with fail
            go_loopg [10] (l k + 64) (fun q s10 wr => ∃ i : Nat, i + q = l k + 64 ∧ s10 = .int .i64 (i : Nat) ∧ St n A l C l w wr ∧ GS n G A l C w n (fun r j => (r, j)) wr)
            case atStart => exact ⟨0, by omega, rfl, HSG.out⟩
            case round =>
              obtain ⟨i, hiq, rfl, hst, hgs⟩ := hrel
              have hi0 : (0 : Int) ≤ (i : Int) := by omega
              have c1 := hst.row HA.out (HC.out k hkn)
              have hownk := hst.2 k hkn
              obtain ⟨A', C', d1, hown⟩ := hgs.get hkn
              have HS : Hid (∀ wx, Below wr.heap.size wr wx → St n A l C l w wx ∧ GS n G A l C w n (fun r j => (r, j)) wx) := fun wx hb => ⟨hst.below hb, hgs.below hb⟩
              have HS0 := hide (And.intro hst hgs)
              unfold fv at c1 hownk
              clear hst hgs
              cases gk with
              | zero =>
                have hiz : ¬ ((i : Int) < (l k : Int) + 64) := by omega
                clear hown hownk
                go_wp2_with fail
                go_roundg q
                case measure => omega
                case rel => exact ⟨k + 1, by omega, by go_num, HS0.out⟩
              | succ q2 =>
                have hiz : (i : Int) < (l k : Int) + 64 := by omega
                obtain ⟨g, C2, hv, hlc, hcm⟩ := hown.slice (by omega)
                injection hv with hA' _ hC'
                subst hA' hC'
                have h1 := hown.at (i := i) (by omega)
                have hm := fun W : World => mark_any k i W (by omega) (by omega)
                have HM := hide hm
                have H1 := hide h1
                obtain ⟨g2, hg2⟩ : ∃ g2, decide (i < l k) = true → A k = some ⟨g2, 0, none⟩ ∧ l k ≤ C k ∧ ∃ γ, wr.rangeAt g2 (i * 2) (el γ k i) ∧ gd wr γ k i := by
                  by_cases hlt : i < l k
                  · obtain ⟨g2, C3, hv2, hlc2, hcm2⟩ := hownk.slice (by omega)
                    injection hv2 with hAk _ hCk
                    rw [hAk] at hownk
                    exact ⟨g2, fun _ => ⟨hAk, by omega, hownk.at hlt⟩⟩
                  · exact ⟨0, fun h => absurd (of_decide_eq_true h) hlt⟩
                have hlC : l k ≤ C k := by
                  obtain ⟨_, γ, rest, ho1, _⟩ := hownk
                  obtain ⟨_, ⟨hv0, h0⟩ | ⟨g', cap', cur', hv0, _, _, hnc, _⟩⟩ := ho1
                  · rw [h0]; exact Nat.zero_le _
                  · injection hv0 with _ _ hC3; omega
                have HG2' := hide hg2
                clear hown hownk h1 hm hg2
                go_upto_region 24 with fail
                go_cut [122] (fun s wx => s = .bool false ∧ Below wr.heap.size wr wx)
                case first =>
                  refine region24_lit n cap k i G g g2 b off (l k + 64) (l k) C' (C k) (A k) (decide (i < l k)) _ _ wr rfl rfl rfl rfl rfl hkn (by omega) (by omega) rfl hlC (fun h => (HG2'.out h).1) d1 c1 H1.out (fun h => (HG2'.out h).2.2) HM.out ?_
                  intro vs w' hB' h122
                  clear d1 c1
                  simp only [List.foldl_cons, List.foldl_nil, List.setIfInBounds_toArray, List.set_cons_succ, List.set_cons_zero, h122]
                  clear h122
                  generalize vs 88 = v88
                  generalize vs 89 = v89
                  generalize vs 90 = v90
                  generalize vs 91 = v91
                  generalize vs 92 = v92
                  generalize vs 93 = v93
                  generalize vs 94 = v94
                  generalize vs 95 = v95
                  generalize vs 96 = v96
                  generalize vs 97 = v97
                  generalize vs 98 = v98
                  generalize vs 99 = v99
                  generalize vs 100 = v100
                  generalize vs 101 = v101
                  generalize vs 102 = v102
                  generalize vs 103 = v103
                  generalize vs 104 = v104
                  generalize vs 105 = v105
                  generalize vs 106 = v106
                  generalize vs 107 = v107
                  generalize vs 108 = v108
                  generalize vs 109 = v109
                  generalize vs 110 = v110
                  generalize vs 111 = v111
                  generalize vs 112 = v112
                  generalize vs 113 = v113
                  generalize vs 114 = v114
                  generalize vs 115 = v115
                  generalize vs 116 = v116
                  generalize vs 117 = v117
                  generalize vs 118 = v118
                  generalize vs 119 = v119
                  generalize vs 120 = v120
                  generalize vs 121 = v121
                  clear vs
                  go_wp2_with fail
                  go_meet
                  exact ⟨rfl, hB'⟩
                case rest =>
                  obtain ⟨rfl, hbc⟩ := hcut
                  clear d1 c1
                  go_wp2_with fail
                  go_roundg q2
                  case measure => omega
                  case rel => exact ⟨i + 1, by omega, by go_num, HS.out _ hbc⟩
      case rest =>
        obtain ⟨hstB, hgsB⟩ := hcut
        have HSB := hide hstB
        have hgsB0 : GS n G A l C w 0 (κg n l) wc := hgsB.less
        have HGB := hide hgsB0
        clear hstB hgsB hgsB0 HSA HGA hwA
        have hmk64 := fun wx => run_make (P := Tryz.prog) wx 22 45 i0 (.agg #[.int .u8 0, .slice none 0 0]) Tryz.underlying22 hi hq0 .i64 .i64 64 64 (by omega) (by omega) (by rw [hq2]; omega) (by omega)
        have hmk2 : ∀ wx, (Instr.makeSlice 22 (.int .i64 64) (.int .i64 64)).run Tryz.prog wx = .ok (.slice (some ⟨wx.heap.size, 0, none⟩) 64 64) (wx.alloc (.cells (madeCells (.agg #[.int .u8 0, .slice none 0 0] : Value).cells (64 * 2)) 45)) := fun wx => by
          have h := hmk64 wx
          rw [hq1] at h
          exact h
        have hmkl : ∀ wx : World, (wx.alloc (.cells (madeCells (.agg #[.int .u8 0, .slice none 0 0] : Value).cells (64 * 2)) 45)).ownsRow 0 45 2 (.slice (some ⟨wx.heap.size, 0, none⟩) 64 64) 64 (madeCells (.agg #[.int .u8 0, .slice none 0 0] : Value).cells (64 * 2)).toList := fun wx =>
          ⟨by rw [Array.length_toList, size_madeCells], .inr ⟨wx.heap.size, 64, _, rfl, Nat.zero_le _, heap_alloc_new _ _, Nat.le_refl _, by unfold maxLen; omega, size_madeCells _ _, by rw [List.take_of_length_le (by rw [Array.length_toList, size_madeCells]; exact Nat.le_refl _)]⟩⟩
        clear hmk64
        generalize hMC : madeCells (.agg #[.int .u8 0, .slice none 0 0] : Value).cells (64 * 2) = MC at hmk2 hmkl
        have HMK := hide hmkl
        clear hMC hmkl
        go_upto_block 12 with fail
        go_cut [] (fun wx => St n A l C l w wx ∧ GS n G A l C w n (κg n l) wx)
        case first =>
          go_wp2_with fail
          go_loopg [11] n (fun q s11 wr => ∃ k : Nat, k + q = n ∧ s11 = .int .i64 (k : Nat) ∧ St n A l C l w wr ∧ GS n G A l C w k (κg n l) wr)
          case atStart => exact ⟨0, by omega, rfl, HSB.out, HGB.out⟩
          case round =>
            obtain ⟨k, hkq, rfl, hst, hgs⟩ := hrel
            have hk0 : (0 : Int) ≤ (k : Int) := by omega
            cases gk with
            | zero =>
              obtain rfl : k = n := by omega
              have hkz : ¬ ((k : Int) < (k : Int)) := by omega
              have HS := hide (And.intro hst hgs)
              clear hst hgs
              go_wp2_with fail
              go_meet
              exact HS.out
            | succ q =>
              have hkz : (k : Int) < (n : Int) := by omega
              have hkn : k < n := by omega
              obtain ⟨wo, rfl⟩ : ∃ wo : World, wo = wr := ⟨_, rfl⟩
              have hlk := HL.out k hkn
              have c1 := hst.row HA.out (HC.out k hkn)
              have HST := hide hst
              have HGS := hide hgs
              have HOWNK := hide (hst.2 k hkn)
              have hwo : w.heap.size ≤ wo.heap.size := hst.1.size
              have HM0 : Hid (RowM (wo.alloc (.cells MC 45)) (.slice (some ⟨wo.heap.size, 0, none⟩) 64 64) 64 (fun j => (k + n, j)) 0) := RowM.start (HMK.out wo)
              have HBA : Hid (Below wo.heap.size wo (wo.alloc (.cells MC 45))) := below_alloc wo _
              clear hst hgs
              unfold fv at c1
              go_wp2_with fail
              go_loopg [13] 64 (fun q s13 wr => ∃ i : Nat, i + q = 64 ∧ s13 = .int .i64 (i : Nat) ∧ RowM wr (.slice (some ⟨wo.heap.size, 0, none⟩) 64 64) 64 (fun j => (k + n, j)) i ∧ Below wo.heap.size wo wr)
              case atStart => exact ⟨0, by omega, rfl, HM0.out, HBA.out⟩
              case round =>
                obtain ⟨i, hiq, rfl, hmany, hbl⟩ := hrel
                have hi0 : (0 : Int) ≤ (i : Int) := by omega
                cases gk with
                | zero =>
                  obtain rfl : i = 64 := by omega
                  have hiz : ¬ ((64 : Int) < (64 : Int)) := by omega
                  obtain ⟨_, γ2, rest2, hm2, hgd2⟩ := hmany
                  obtain rfl := RowM.rest hm2
                  rw [List.append_nil] at hm2
                  have hnews := hm2.cells (g := wo.heap.size) rfl
                  have hone := mkR_one γ2 (fun j => (k + n, j)) 64
                  have hlen := mkR_len γ2 (fun j => (k + n, j)) 64
                  have hokr := HOWNK.out.below hbl
                  obtain ⟨_, γ1, rest1, hm1, hgd1⟩ := hokr
                  obtain rfl := RowM.rest hm1
                  rw [List.append_nil] at hm1
                  have c2 := cell_thru c1 hbl
                  have HBL := hide hbl
                  have hGlt : G < wo.heap.size := HGS.out.lt
                  have HGD1 := hide hgd1
                  have HGD2 := hide hgd2
                  generalize hnw : mkR γ2 (fun j => (k + n, j)) 64 = news at hnews hone hlen
                  have HN := hide hnw
                  generalize hol : mkR γ1 (fun j => (k, j)) (l k) = olds at hm1
                  have HO1 := hide hol
                  have hgB : GS n G A l C w k (κg n l) wr := HGS.out.below hbl
                  have hGk : ¬ (fv A l C k).ownBlock = some G := fun h => HVG.out k G hkn h rfl
                  have hTk : TyF (fun g => (fv A l C k).ownBlock = some g) wr := (HOWNK.out.below hbl).tyF
                  have HTK := hide hTk
                  have hkG : ∀ w3, Kept (fun x => (fv A l C k).ownBlock = some x) wr w3 → GS n G A l C w k (κg n l) w3 := fun w3 hK => hgB.kept hK hGk HTK.out (fun r g hr h hf => by
                    rcases h with h | h
                    · have := HA.out.dist r k g (by omega) hkn h hf
                      omega
                    · have := (owns_cells (HO.out k hkn) g hf).1
                      omega)
                  have HKG := hide hkG
                  have HCG : Hid (∀ w3, Kept (fun x => (fv A l C k).ownBlock = some x) wr w3 → ∃ u, w3.cell? ⟨G, k, none⟩ = some u ∧ w3.frozen? ⟨G, k, none⟩ = false) := fun w3 hK => (HKG.out w3 hK).cell hkn
                  have HSTB := hide (HST.out.below hbl)
                  have HM1 := hide hm1
                  have hm1' := hm1
                  unfold fv at hm1'
                  clear hm2 hbl hnw hol hgB hkG hGk hTk hgd1 hgd2 hm1
                  go_wp2_with (at_builtin; go_must (refine wpList_append_keepS _ rfl (.tmp 148) (.tmp 149) 22 rfl 45 i0 (.agg #[.int .u8 0, .slice none 0 0]) 2 32 Tryz.underlying22 hi hq0 hq1 hq2 rfl (by omega) 0 _ (l k) olds rfl hm1' ⟨wo.heap.size, 0, none⟩ 64 64 news rfl hlen hnews hone (by unfold maxLen; omega) (by omega) (by omega) ?_); intro A3 C3 w3 hown3 hg3 hold3; have hK3 := hg3.kept (F := fun x => (fv A l C k).ownBlock = some x) (fun _ h => h); obtain ⟨u3, d1, d2⟩ := HCG.out w3 hK3)
                  have hk1 : RowM w3 (fv A l C k) (l k) (fun j => (k, j)) (l k) := ⟨Nat.le_refl _, γ1, [], by rw [List.append_nil, HO1.out]; exact hold3, fun j hj => gd_kept (HGD1.out j hj) hK3 HTK.out⟩
                  have hS3 := (HSTB.out.step HA.out hkn hK3 (fun g hg => .inl hg) hk1).congr (M' := l) (fun r _ => by
                    by_cases e : r = k
                    · rw [if_pos e, e]
                    · rw [if_neg e])
                  rw [← HN.out, ← HO1.out] at hown3
                  have hrow3 : RowM w3 (.slice A3 (l k + 64) C3) (l k + 64) (κg n l k) (l k + 64) := RowM.glue hown3 (fun j hj => gd_kept (HGD1.out j hj) hK3 HTK.out) (fun j hj => gd_kept (HGD2.out j hj) hK3 HTK.out)
                  have hG3 := (HKG.out w3 hK3).put hkn HVG.out hrow3 (fun g hg => by
                    rcases hg3.foot (F := fun x => (fv A l C k).ownBlock = some x) (fun _ h => h) g hg with h | h
                    · exact .inl h
                    · have := HBL.out.size
                      exact .inr ⟨by omega, by omega⟩)
                  have HS := hide (And.intro (hS3.setG (HKG.out w3 hK3).tyF hsw HVG.out k (.slice A3 (l k + 64) C3)) hG3)
                  clear hS3 hG3 hown3 hold3 hrow3 hk1
                  go_roundg q
                  case measure => omega
                  case rel => exact ⟨k + 1, by omega, by go_num, HS.out⟩
                | succ q2 =>
                  have hiz : (i : Int) < (64 : Int) := by omega
                  have hil : i < 64 := by omega
                  have hm := fun W : World => mark_any (k + n) i W (by omega) (by omega)
                  rw [Int.natCast_add] at hm
                  have HS : Hid (∀ (w' : World) (γ : Nat), Below wr.heap.size wr w' → gd w' γ (k + n) i → RowM (w'.setCells wo.heap.size (i * 2) (el γ (k + n) i)) (.slice (some ⟨wo.heap.size, 0, none⟩) 64 64) 64 (fun j => (k + n, j)) (i + 1) ∧ Below wo.heap.size wo (w'.setCells wo.heap.size (i * 2) (el γ (k + n) i))) := fun w' γ hb hg =>
                    ⟨(hmany.below hb).mark (γ0 := γ) rfl hil hg, below_setCells (Nat.le_refl _) _ _ _ (hbl.trans (hb.mono hbl.size))⟩
                  have HT : Hid (∀ w' : World, Below wr.heap.size wr w' → w'.there wo.heap.size (i * 2) 2) := fun w' hb => (hmany.below hb).there hil
                  clear hmany hbl
                  go_wp2_with (go_at_call 24; refine (hm _).mono ?_; rintro e w' ⟨γ, rfl, hg, hbm⟩; have hth := HT.out w' hbm; obtain ⟨t0, f0⟩ := hth 0 (by omega); obtain ⟨u0x, t0⟩ := Option.isSome_iff_exists.1 t0; obtain ⟨t1, f1⟩ := hth 1 (by omega); obtain ⟨u1x, t1⟩ := Option.isSome_iff_exists.1 t1; simp only [Nat.add_zero] at t0 f0)
                  go_roundg q2
                  case measure => omega
                  case rel => exact ⟨i + 1, by omega, by go_num, (HS.out _ _ hbm hg).1, (HS.out _ _ hbm hg).2⟩
        case rest =>
          obtain ⟨hstC, hgsC⟩ := hcut
          have HSC := hide hstC
          have HGC := hide hgsC
          clear hstC hgsC HSB HGB hmk2 HMK
          go_wp2_with fail
          go_loopg [14] n (fun q s14 wr => ∃ k : Nat, k + q = n ∧ s14 = .int .i64 (k : Nat) ∧ St n A l C l w wr ∧ GS n G A l C w n (κg n l) wr)
          case atStart => exact ⟨0, by omega, rfl, HSC.out, HGC.out⟩
          case round =>
            obtain ⟨k, hkq, rfl, hst, hgs⟩ := hrel
            have hk0 : (0 : Int) ≤ (k : Int) := by omega
            cases gk with
            | zero =>
              obtain rfl : k = n := by omega
              have hkz : ¬ ((k : Int) < (k : Int)) := by omega
              have HS := hide hst
              clear hst hgs
              go_wp2_with fail
              go_ret
              exact ⟨rfl, HS.out⟩
            | succ q =>
              have hkz : (k : Int) < (n : Int) := by omega
              have hkn : k < n := by omega
              have hlk := HL.out k hkn
              have HSG := hide (And.intro hst hgs)
              have c0 := hst.row HA.out (HC.out k hkn)
              unfold fv at c0
              clear hst hgs
              obtain ⟨wo, rfl⟩ : ∃ wo : World, wo = wr := ⟨_, rfl⟩
              go_wp2_with fail
              go_loopg [15] (l k) (fun q s15 wr => ∃ i : Nat, i + q = l k ∧ s15 = .int .i64 (i : Nat) ∧ St n A l C l w wr ∧ GS n G A l C w n (κg n l) wr)
              case atStart => exact ⟨0, by omega, rfl, HSG.out⟩
              case round =>
                obtain ⟨i, hiq, rfl, hst, hgs⟩ := hrel
                clear c0
                have hi0 : (0 : Int) ≤ (i : Int) := by omega
                have c1 := hst.row HA.out (HC.out k hkn)
                have hownk := hst.2 k hkn
                obtain ⟨A', C', d1, hown⟩ := hgs.get hkn
                have HS : Hid (∀ wx, Below wr.heap.size wr wx → St n A l C l w wx ∧ GS n G A l C w n (κg n l) wx) := fun wx hb => ⟨hst.below hb, hgs.below hb⟩
                have HS0 := hide (And.intro hst hgs)
                unfold fv at c1 hownk
                clear hst hgs
                cases gk with
                | zero =>
                  have hiz : ¬ ((i : Int) < (l k : Int)) := by omega
                  clear hown hownk
                  go_wp2_with fail
                  go_roundg q
                  case measure => omega
                  case rel => exact ⟨k + 1, by omega, by go_num, HS0.out⟩
                | succ q2 =>
                  have hiz : (i : Int) < (l k : Int) := by omega
                  have hlt : i < l k := by omega
                  obtain ⟨g, C2, hv, hlc, hcm⟩ := hown.slice (by omega)
                  injection hv with hA' _ hC'
                  subst hA' hC'
                  have h1 := hown.at (i := i) (by omega)
                  have ek : κg n l k i = (k, i) := if_pos hlt
                  rw [ek] at h1
                  have hm := fun W : World => mark_any k i W (by omega) (by omega)
                  obtain ⟨g2, C3, hv2, hlc2, hcm2⟩ := hownk.slice (by omega)
                  injection hv2 with hAk _ hCk
                  rw [hAk] at hownk
                  have h2 := hownk.at hlt
                  have hlC : l k ≤ C k := by omega
                  have HM := hide hm
                  have H1 := hide h1
                  have H2 := hide h2
                  have HAK := hide hAk
                  have ht : (true : Bool) = decide (i < l k) := (decide_eq_true hlt).symm
                  have HT := hide ht
                  clear hown hownk h1 h2 hm ek hAk hCk hlc2 hcm2 ht
                  go_upto_region 41 with fail
                  go_cut [192] (fun s wx => s = .bool false ∧ Below wr.heap.size wr wx)
                  case first =>
                    refine region41_lit n cap k i G g g2 b off (l k + 64) (l k) C' (C k) (A k) true _ _ wr rfl rfl rfl rfl rfl hkn (by omega) (by omega) HT.out hlC (fun _ => HAK.out) rfl d1 c1 H1.out (fun _ => H2.out) HM.out ?_
                    intro vs w' hB' h192
                    clear d1 c1
                    simp only [List.foldl_cons, List.foldl_nil, List.setIfInBounds_toArray, List.set_cons_succ, List.set_cons_zero, h192]
                    clear h192
                    generalize vs 167 = v167
                    generalize vs 168 = v168
                    generalize vs 169 = v169
                    generalize vs 170 = v170
                    generalize vs 171 = v171
                    generalize vs 172 = v172
                    generalize vs 173 = v173
                    generalize vs 174 = v174
                    generalize vs 175 = v175
                    generalize vs 176 = v176
                    generalize vs 177 = v177
                    generalize vs 178 = v178
                    generalize vs 179 = v179
                    generalize vs 180 = v180
                    generalize vs 181 = v181
                    generalize vs 182 = v182
                    generalize vs 183 = v183
                    generalize vs 184 = v184
                    generalize vs 185 = v185
                    generalize vs 186 = v186
                    generalize vs 187 = v187
                    generalize vs 188 = v188
                    generalize vs 189 = v189
                    generalize vs 190 = v190
                    generalize vs 191 = v191
                    clear vs
                    go_wp2_with fail
                    go_meet
                    exact ⟨rfl, hB'⟩
                  case rest =>
                    obtain ⟨rfl, hbc⟩ := hcut
                    clear d1 c1
                    go_wp2_with fail
                    go_roundg q2
                    case measure => omega
                    case rel => exact ⟨i + 1, by omega, by go_num, HS.out _ hbc⟩
end Go.Proofs.YtlmjplpledilhaaGreat.PartFlat
