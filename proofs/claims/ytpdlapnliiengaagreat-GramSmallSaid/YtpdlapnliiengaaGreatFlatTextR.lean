/-
  flatTexts: the two regions that draw their order.
-/
import Derived.Test.YtpdlapnliiengaaGreatFlatTextC
import Derived.Test.YtpdlapnliiengaaGreatRegionsA
namespace Go.Proofs.YtpdlapnliiengaaGreat.TextFlat
open Go.RowKit
set_option linter.unusedVariables false
set_option linter.unusedSimpArgs false

theorem act_put (x : Act) (h : x.defers = []) (d : Nat) (v : Value) : ({ tmps := x.tmps.setIfInBounds d v, defers := [] } : Act) = x.put (some d) v := by
  cases x; cases h; rfl
theorem get_some {t : Array Value} {s : Nat} {v : Value} (h : t.getD s undef = v) (hv : v ≠ undef) : t[s]? = some v := by
  rw [Array.getD_eq_getD_getElem?] at h
  cases e : t[s]? with
  | none => rw [e] at h; exact absurd h.symm hv
  | some u => rw [e] at h; exact congrArg some h
theorem range_thru {w w' : World} {b o : Nat} {cs : List Value} (h : w.rangeAt b o cs) (hb : Below w.heap.size w w') : w'.rangeAt b o cs := fun j v hj => cell_thru (h j v hj) hb

def ops24 : Array Oper :=
  #[{ dst := some 88, op := Op.move (Operand.tmp 5), type := 38, pos := "apart.go:272", after := #[], guard := none },
    { dst := some 89, op := Op.move (Operand.tmp 9), type := 3, pos := "apart.go:272", after := #[], guard := none },
    { dst := some 90, op := Op.indexAddr 38 (Operand.tmp 88) (Operand.tmp 89), type := 0, pos := "apart.go:272", after := #[{ on := 0, ground := Ground.data }, { on := 1, ground := Ground.data }], guard := none },
    { dst := some 91, op := Op.load 29 (Operand.tmp 90), type := 29, pos := "apart.go:272", after := #[{ on := 2, ground := Ground.data }], guard := none },
    { dst := some 92, op := Op.move (Operand.tmp 10), type := 3, pos := "apart.go:272", after := #[], guard := none },
    { dst := some 93, op := Op.indexAddr 29 (Operand.tmp 91) (Operand.tmp 92), type := 0, pos := "apart.go:272", after := #[{ on := 3, ground := Ground.data }, { on := 4, ground := Ground.data }], guard := none },
    { dst := some 94, op := Op.load 9 (Operand.tmp 93), type := 9, pos := "apart.go:272", after := #[{ on := 5, ground := Ground.data }], guard := none },
    { dst := some 95, op := Op.move (Operand.tmp 9), type := 3, pos := "apart.go:272", after := #[], guard := none },
    { dst := some 96, op := Op.move (Operand.tmp 10), type := 3, pos := "apart.go:272", after := #[], guard := none },
    { dst := some 97, op := Op.call { callee := Callee.value (Operand.func 66), args := #[Operand.tmp 95, Operand.tmp 96], argTypes := #[3, 3] }, type := 9, pos := "apart.go:272", after := #[{ on := 7, ground := Ground.data }, { on := 8, ground := Ground.data }], guard := none },
    { dst := some 98, op := Op.binOp BinOp.eql 9 (Operand.tmp 94) (Operand.tmp 97) 9, type := 4, pos := "apart.go:272", after := #[{ on := 6, ground := Ground.data }, { on := 9, ground := Ground.data }], guard := none },
    { dst := some 99, op := Op.unOp UnOp.not 4 (Operand.tmp 98), type := 4, pos := "apart.go:272", after := #[{ on := 10, ground := Ground.data }], guard := none },
    { dst := some 100, op := Op.move (Operand.tmp 99), type := 4, pos := "apart.go:272", after := #[{ on := 11, ground := Ground.data }, { on := 9, ground := Ground.chain }], guard := none },
    { dst := some 101, op := Op.move (Operand.tmp 10), type := 3, pos := "apart.go:272", after := #[{ on := 12, ground := Ground.guard }], guard := some (12, false) },
    { dst := some 102, op := Op.move (Operand.tmp 0), type := 38, pos := "apart.go:272", after := #[{ on := 12, ground := Ground.guard }], guard := some (12, false) },
    { dst := some 103, op := Op.move (Operand.tmp 9), type := 3, pos := "apart.go:272", after := #[{ on := 12, ground := Ground.guard }], guard := some (12, false) },
    { dst := some 104, op := Op.indexAddr 38 (Operand.tmp 102) (Operand.tmp 103), type := 0, pos := "apart.go:272", after := #[{ on := 14, ground := Ground.data }, { on := 15, ground := Ground.data }, { on := 12, ground := Ground.guard }], guard := some (12, false) },
    { dst := some 105, op := Op.load 29 (Operand.tmp 104), type := 29, pos := "apart.go:272", after := #[{ on := 16, ground := Ground.data }, { on := 12, ground := Ground.guard }], guard := some (12, false) },
    { dst := some 106, op := Op.call { callee := Callee.builtin Builtin.len, args := #[Operand.tmp 105], argTypes := #[29] }, type := 3, pos := "apart.go:272", after := #[{ on := 17, ground := Ground.data }, { on := 12, ground := Ground.guard }], guard := some (12, false) },
    { dst := some 107, op := Op.binOp BinOp.lss 3 (Operand.tmp 101) (Operand.tmp 106) 3, type := 4, pos := "apart.go:272", after := #[{ on := 13, ground := Ground.data }, { on := 18, ground := Ground.data }, { on := 12, ground := Ground.guard }], guard := some (12, false) },
    { dst := some 108, op := Op.move (Operand.tmp 107), type := 4, pos := "apart.go:272", after := #[{ on := 19, ground := Ground.data }, { on := 12, ground := Ground.chain }, { on := 12, ground := Ground.guard }], guard := some (12, false) },
    { dst := some 109, op := Op.move (Operand.tmp 0), type := 38, pos := "apart.go:272", after := #[{ on := 20, ground := Ground.guard }], guard := some (20, true) },
    { dst := some 110, op := Op.move (Operand.tmp 9), type := 3, pos := "apart.go:272", after := #[{ on := 20, ground := Ground.guard }], guard := some (20, true) },
    { dst := some 111, op := Op.indexAddr 38 (Operand.tmp 109) (Operand.tmp 110), type := 0, pos := "apart.go:272", after := #[{ on := 21, ground := Ground.data }, { on := 22, ground := Ground.data }, { on := 20, ground := Ground.guard }], guard := some (20, true) },
    { dst := some 112, op := Op.load 29 (Operand.tmp 111), type := 29, pos := "apart.go:272", after := #[{ on := 23, ground := Ground.data }, { on := 20, ground := Ground.guard }], guard := some (20, true) },
    { dst := some 113, op := Op.move (Operand.tmp 10), type := 3, pos := "apart.go:272", after := #[{ on := 20, ground := Ground.guard }], guard := some (20, true) },
    { dst := some 114, op := Op.indexAddr 29 (Operand.tmp 112) (Operand.tmp 113), type := 0, pos := "apart.go:272", after := #[{ on := 24, ground := Ground.data }, { on := 25, ground := Ground.data }, { on := 20, ground := Ground.guard }], guard := some (20, true) },
    { dst := some 115, op := Op.load 9 (Operand.tmp 114), type := 9, pos := "apart.go:272", after := #[{ on := 26, ground := Ground.data }, { on := 20, ground := Ground.guard }], guard := some (20, true) },
    { dst := some 116, op := Op.move (Operand.tmp 9), type := 3, pos := "apart.go:272", after := #[{ on := 20, ground := Ground.guard }], guard := some (20, true) },
    { dst := some 117, op := Op.move (Operand.tmp 10), type := 3, pos := "apart.go:272", after := #[{ on := 20, ground := Ground.guard }], guard := some (20, true) },
    { dst := some 118, op := Op.call { callee := Callee.value (Operand.func 66), args := #[Operand.tmp 116, Operand.tmp 117], argTypes := #[3, 3] }, type := 9, pos := "apart.go:272", after := #[{ on := 28, ground := Ground.data }, { on := 29, ground := Ground.data }, { on := 20, ground := Ground.chain }, { on := 20, ground := Ground.guard }], guard := some (20, true) },
    { dst := some 119, op := Op.binOp BinOp.eql 9 (Operand.tmp 115) (Operand.tmp 118) 9, type := 4, pos := "apart.go:272", after := #[{ on := 27, ground := Ground.data }, { on := 30, ground := Ground.data }, { on := 20, ground := Ground.guard }], guard := some (20, true) },
    { dst := some 120, op := Op.unOp UnOp.not 4 (Operand.tmp 119), type := 4, pos := "apart.go:272", after := #[{ on := 31, ground := Ground.data }, { on := 20, ground := Ground.guard }], guard := some (20, true) },
    { dst := some 121, op := Op.pick (Operand.tmp 108) (Operand.tmp 120) (Operand.const (Value.bool false)), type := 4, pos := "apart.go:272", after := #[{ on := 20, ground := Ground.data }, { on := 32, ground := Ground.data }, { on := 12, ground := Ground.guard }], guard := some (12, false) },
    { dst := some 122, op := Op.pick (Operand.tmp 100) (Operand.const (Value.bool true)) (Operand.tmp 121), type := 4, pos := "apart.go:272", after := #[{ on := 12, ground := Ground.data }, { on := 33, ground := Ground.data }], guard := none }]
def slot24 (j : Nat) : Nat := 88 + j
def val24 (n cap k i G g g2 b off lg lk C1 Ck : Nat) (Ak : Option Addr) (lt : Bool) (t : ByteArray) : Nat → Value → World → Prop
  | 0, v, w => v = .slice (some ⟨G, 0, none⟩) n n
  | 1, v, w => v = .int .i64 (k : Nat)
  | 2, v, w => v = .pointer (some ⟨G, k, none⟩)
  | 3, v, w => v = .slice (some ⟨g, 0, none⟩) lg C1
  | 4, v, w => v = .int .i64 (i : Nat)
  | 5, v, w => v = .pointer (some ⟨g, i, none⟩)
  | 6, v, w => ∃ γ, v = (.string (t)) ∧ gd w γ k i
  | 7, v, w => v = .int .i64 (k : Nat)
  | 8, v, w => v = .int .i64 (i : Nat)
  | 9, v, w => ∃ γ, v = (.string (t)) ∧ gd w γ k i
  | 10, v, w => v = .bool true
  | 11, v, w => v = .bool false
  | 12, v, w => v = .bool false
  | 13, v, w => v = .int .i64 (i : Nat)
  | 14, v, w => v = .slice (some ⟨b, off, none⟩) n cap
  | 15, v, w => v = .int .i64 (k : Nat)
  | 16, v, w => v = .pointer (some ⟨b, off + k, none⟩)
  | 17, v, w => v = .slice Ak lk Ck
  | 18, v, w => v = .int .i64 (lk : Nat)
  | 19, v, w => v = .bool lt
  | 20, v, w => v = .bool lt
  | 21, v, w => lt = true → v = .slice (some ⟨b, off, none⟩) n cap
  | 22, v, w => lt = true → v = .int .i64 (k : Nat)
  | 23, v, w => lt = true → v = .pointer (some ⟨b, off + k, none⟩)
  | 24, v, w => lt = true → v = .slice (some ⟨g2, 0, none⟩) lk Ck
  | 25, v, w => lt = true → v = .int .i64 (i : Nat)
  | 26, v, w => lt = true → v = .pointer (some ⟨g2, i, none⟩)
  | 27, v, w => lt = true → ∃ γ, v = (.string (t)) ∧ gd w γ k i
  | 28, v, w => lt = true → v = .int .i64 (k : Nat)
  | 29, v, w => lt = true → v = .int .i64 (i : Nat)
  | 30, v, w => lt = true → ∃ γ, v = (.string (t)) ∧ gd w γ k i
  | 31, v, w => lt = true → v = .bool true
  | 32, v, w => lt = true → v = .bool false
  | 33, v, w => v = .bool false
  | 34, v, w => v = .bool false
  | _, _, _ => True
theorem val24_below (n cap k i G g g2 b off lg lk C1 Ck : Nat) (Ak : Option Addr) (lt : Bool) (t : ByteArray) (w w' : World) (hb : Below w.heap.size w w') : ∀ j v, val24 n cap k i G g g2 b off lg lk C1 Ck Ak lt t j v w → val24 n cap k i G g g2 b off lg lk C1 Ck Ak lt t j v w' := by
  intro j v h
  match j, h with
  | 0, h => exact h
  | 1, h => exact h
  | 2, h => exact h
  | 3, h => exact h
  | 4, h => exact h
  | 5, h => exact h
  | 6, h => obtain ⟨γ, h1, h2⟩ := h; exact ⟨γ, h1, gd_below h2 hb⟩
  | 7, h => exact h
  | 8, h => exact h
  | 9, h => obtain ⟨γ, h1, h2⟩ := h; exact ⟨γ, h1, gd_below h2 hb⟩
  | 10, h => exact h
  | 11, h => exact h
  | 12, h => exact h
  | 13, h => exact h
  | 14, h => exact h
  | 15, h => exact h
  | 16, h => exact h
  | 17, h => exact h
  | 18, h => exact h
  | 19, h => exact h
  | 20, h => exact h
  | 21, h => exact h
  | 22, h => exact h
  | 23, h => exact h
  | 24, h => exact h
  | 25, h => exact h
  | 26, h => exact h
  | 27, h => exact fun e => by obtain ⟨γ, h1, h2⟩ := h e; exact ⟨γ, h1, gd_below h2 hb⟩
  | 28, h => exact h
  | 29, h => exact h
  | 30, h => exact fun e => by obtain ⟨γ, h1, h2⟩ := h e; exact ⟨γ, h1, gd_below h2 hb⟩
  | 31, h => exact h
  | 32, h => exact h
  | 33, h => exact h
  | 34, h => exact h
  | _ + 35, h => exact h

set_option maxRecDepth 100000 in
set_option maxHeartbeats 2000000 in
theorem region24 (n cap k i G g g2 b off lg lk C1 Ck : Nat) (Ak : Option Addr) (lt : Bool) (t : ByteArray) (Q : Exit → Act → World → Prop) (t0 : Array Value) (w0 : World) (ht : t0.size = 193)
    (hs5 : t0.getD 5 undef = .slice (some ⟨G, 0, none⟩) n n) (hs9 : t0.getD 9 undef = .int .i64 (k : Nat)) (hs10 : t0.getD 10 undef = .int .i64 (i : Nat)) (hs0 : t0.getD 0 undef = .slice (some ⟨b, off, none⟩) n cap)
    (hkn : k < n) (hig : i < lg) (hlg : lg ≤ C1) (hlt : lt = decide (i < lk)) (hlk : lk ≤ Ck) (hA : lt = true → Ak = some ⟨g2, 0, none⟩)
    (d1 : w0.cell? ⟨G, k, none⟩ = some (.slice (some ⟨g, 0, none⟩) lg C1)) (c1 : w0.cell? ⟨b, off + k, none⟩ = some (.slice Ak lk Ck))
    (h1 : ∃ γ, w0.rangeAt g (i) ([.string (t)]) ∧ gd w0 γ k i) (h2 : lt = true → ∃ γ, w0.rangeAt g2 (i) ([.string (t)]) ∧ gd w0 γ k i)
    (cm : ∀ W : World, Calls Tryz.prog 66 #[.int .i64 (k : Nat), .int .i64 (i : Nat)] W fun e w' => ∃ γ, e = .returned ((.string (t))) ∧ gd w' γ k i ∧ Below W.heap.size W w')
    (hQ : ∀ (x : Act) (w : World), Below w0.heap.size w0 w → x.defers = [] → x.tmps.size = 193 → (∀ s, ¬ (88 ≤ s ∧ s ≤ 122) → x.tmps.getD s undef = t0.getD s undef) → x.tmps.getD 122 undef = .bool false → Q .normal x w) :
    (Code.region 24 ops24 true).wp Tryz.prog Q { tmps := t0, defers := [] } w0 := by
  have hun : ∀ (x : Act), (∀ s, (∀ j, j < ops24.size → s ≠ slot24 j) → x.tmps.getD s undef = t0.getD s undef) → ∀ s, ¬ (88 ≤ s ∧ s ≤ 122) → x.tmps.getD s undef = t0.getD s undef := by
    intro x h s hs
    refine h s (fun j hj => ?_)
    have hj' : j < 35 := hj
    unfold slot24
    omega
  refine wp_region_inv (by kernel_rfl) slot24 (val24 n cap k i G g g2 b off lg lk C1 Ck Ak lt t) t0 w0 ?_ ?_ ?_ (val24_below n cap k i G g g2 b off lg lk C1 Ck Ak lt t) ?_ ?_
  · intro j o ho
    have hj : j < 35 := (Array.getElem?_eq_some_iff.1 ho).1
    refine ⟨?_, by rw [ht]; unfold slot24; omega⟩
    match j, ho with
    | 0, ho => cases ho; rfl
    | 1, ho => cases ho; rfl
    | 2, ho => cases ho; rfl
    | 3, ho => cases ho; rfl
    | 4, ho => cases ho; rfl
    | 5, ho => cases ho; rfl
    | 6, ho => cases ho; rfl
    | 7, ho => cases ho; rfl
    | 8, ho => cases ho; rfl
    | 9, ho => cases ho; rfl
    | 10, ho => cases ho; rfl
    | 11, ho => cases ho; rfl
    | 12, ho => cases ho; rfl
    | 13, ho => cases ho; rfl
    | 14, ho => cases ho; rfl
    | 15, ho => cases ho; rfl
    | 16, ho => cases ho; rfl
    | 17, ho => cases ho; rfl
    | 18, ho => cases ho; rfl
    | 19, ho => cases ho; rfl
    | 20, ho => cases ho; rfl
    | 21, ho => cases ho; rfl
    | 22, ho => cases ho; rfl
    | 23, ho => cases ho; rfl
    | 24, ho => cases ho; rfl
    | 25, ho => cases ho; rfl
    | 26, ho => cases ho; rfl
    | 27, ho => cases ho; rfl
    | 28, ho => cases ho; rfl
    | 29, ho => cases ho; rfl
    | 30, ho => cases ho; rfl
    | 31, ho => cases ho; rfl
    | 32, ho => cases ho; rfl
    | 33, ho => cases ho; rfl
    | 34, ho => cases ho; rfl
    | k + 35, _ => omega
  · intro i j hi hj h
    unfold slot24 at h
    omega
  · intro j o ho
    have hj : j < 35 := (Array.getElem?_eq_some_iff.1 ho).1
    match j, ho with
    | 0, ho => cases ho; decide
    | 1, ho => cases ho; decide
    | 2, ho => cases ho; decide
    | 3, ho => cases ho; decide
    | 4, ho => cases ho; decide
    | 5, ho => cases ho; decide
    | 6, ho => cases ho; decide
    | 7, ho => cases ho; decide
    | 8, ho => cases ho; decide
    | 9, ho => cases ho; decide
    | 10, ho => cases ho; decide
    | 11, ho => cases ho; decide
    | 12, ho => cases ho; decide
    | 13, ho => cases ho; decide
    | 14, ho => cases ho; decide
    | 15, ho => cases ho; decide
    | 16, ho => cases ho; decide
    | 17, ho => cases ho; decide
    | 18, ho => cases ho; decide
    | 19, ho => cases ho; decide
    | 20, ho => cases ho; decide
    | 21, ho => cases ho; decide
    | 22, ho => cases ho; decide
    | 23, ho => cases ho; decide
    | 24, ho => cases ho; decide
    | 25, ho => cases ho; decide
    | 26, ho => cases ho; decide
    | 27, ho => cases ho; decide
    | 28, ho => cases ho; decide
    | 29, ho => cases ho; decide
    | 30, ho => cases ho; decide
    | 31, ho => cases ho; decide
    | 32, ho => cases ho; decide
    | 33, ho => cases ho; decide
    | 34, ho => cases ho; decide
    | k + 35, _ => omega
  · intro j o ho x w hB hdef hsz hs hdeps
    have hs' := hun x hs
    have u5 := (hs' 5 (by omega)).trans hs5
    have u9 := (hs' 9 (by omega)).trans hs9
    have u10 := (hs' 10 (by omega)).trans hs10
    have u0 := (hs' 0 (by omega)).trans hs0
    have hj : j < 35 := (Array.getElem?_eq_some_iff.1 ho).1
    have hkI : (k : Int) < (n : Int) := by omega
    have hk0 : (0 : Int) ≤ (k : Int) := by omega
    have hiI : (i : Int) < (lg : Int) := by omega
    have hi0 : (0 : Int) ≤ (i : Int) := by omega
    have HLT := hide hlt
    clear hs hs' hun hs0 hs5 hs9 hs10 hQ hsz ht hlt
    simp only [Array.getD_eq_getD_getElem?] at u0 u5 u9 u10
    match j, ho with
    | 0, ho =>
      have e : o = { dst := some 88, op := Op.move (Operand.tmp 5), type := 38, pos := "apart.go:272", after := #[], guard := none } := (Option.some.inj ho).symm
      subst e
      clear hdeps
      refine wpOp_step ho (fun K hK => ?_)
      clear ho
      go_simp
      exact hK _ _ ⟨_, act_put x hdef _ _, rfl, Below.refl _ _⟩
    | 1, ho =>
      have e : o = { dst := some 89, op := Op.move (Operand.tmp 9), type := 3, pos := "apart.go:272", after := #[], guard := none } := (Option.some.inj ho).symm
      subst e
      clear hdeps
      refine wpOp_step ho (fun K hK => ?_)
      clear ho
      go_simp
      exact hK _ _ ⟨_, act_put x hdef _ _, rfl, Below.refl _ _⟩
    | 2, ho =>
      have e : o = { dst := some 90, op := Op.indexAddr 38 (Operand.tmp 88) (Operand.tmp 89), type := 0, pos := "apart.go:272", after := #[{ on := 0, ground := Ground.data }, { on := 1, ground := Ground.data }], guard := none } := (Option.some.inj ho).symm
      subst e
      have q0 : x.tmps.getD 88 undef = .slice (some ⟨G, 0, none⟩) n n := hdeps { on := 0, ground := Ground.data } (by simp) rfl
      have q1 : x.tmps.getD 89 undef = .int .i64 (k : Nat) := hdeps { on := 1, ground := Ground.data } (by simp) rfl
      simp only [Array.getD_eq_getD_getElem?] at q0 q1
      clear hdeps
      refine wpOp_step ho (fun K hK => ?_)
      clear ho
      go_simp
      exact hK _ _ ⟨_, act_put x hdef _ _, rfl, Below.refl _ _⟩
    | 3, ho =>
      have e : o = { dst := some 91, op := Op.load 29 (Operand.tmp 90), type := 29, pos := "apart.go:272", after := #[{ on := 2, ground := Ground.data }], guard := none } := (Option.some.inj ho).symm
      subst e
      have q2 : x.tmps.getD 90 undef = .pointer (some ⟨G, k, none⟩) := hdeps { on := 2, ground := Ground.data } (by simp) rfl
      simp only [Array.getD_eq_getD_getElem?] at q2
      clear hdeps
      have d1w := cell_thru d1 hB
      refine wpOp_step ho (fun K hK => ?_)
      clear ho
      go_simp
      exact hK _ _ ⟨_, act_put x hdef _ _, rfl, Below.refl _ _⟩
    | 4, ho =>
      have e : o = { dst := some 92, op := Op.move (Operand.tmp 10), type := 3, pos := "apart.go:272", after := #[], guard := none } := (Option.some.inj ho).symm
      subst e
      clear hdeps
      refine wpOp_step ho (fun K hK => ?_)
      clear ho
      go_simp
      exact hK _ _ ⟨_, act_put x hdef _ _, rfl, Below.refl _ _⟩
    | 5, ho =>
      have e : o = { dst := some 93, op := Op.indexAddr 29 (Operand.tmp 91) (Operand.tmp 92), type := 0, pos := "apart.go:272", after := #[{ on := 3, ground := Ground.data }, { on := 4, ground := Ground.data }], guard := none } := (Option.some.inj ho).symm
      subst e
      have q3 : x.tmps.getD 91 undef = .slice (some ⟨g, 0, none⟩) lg C1 := hdeps { on := 3, ground := Ground.data } (by simp) rfl
      have q4 : x.tmps.getD 92 undef = .int .i64 (i : Nat) := hdeps { on := 4, ground := Ground.data } (by simp) rfl
      simp only [Array.getD_eq_getD_getElem?] at q3 q4
      clear hdeps
      refine wpOp_step ho (fun K hK => ?_)
      clear ho
      go_simp
      exact hK _ _ ⟨_, act_put x hdef _ _, rfl, Below.refl _ _⟩
    | 6, ho =>
      have e : o = { dst := some 94, op := Op.load 9 (Operand.tmp 93), type := 9, pos := "apart.go:272", after := #[{ on := 5, ground := Ground.data }], guard := none } := (Option.some.inj ho).symm
      subst e
      have q5 : x.tmps.getD 93 undef = .pointer (some ⟨g, i, none⟩) := hdeps { on := 5, ground := Ground.data } (by simp) rfl
      simp only [Array.getD_eq_getD_getElem?] at q5
      clear hdeps
      obtain ⟨γ, hr, hg⟩ := h1
      have k0 : w.cell? ⟨g, i, none⟩ = some (.string (t)) := range_thru hr hB 0 _ rfl
      have hg2 := gd_below hg hB
      clear hr hg
      refine wpOp_step ho (fun K hK => ?_)
      clear ho
      go_simp
      exact hK _ _ ⟨_, act_put x hdef _ _, ⟨γ, rfl, hg2⟩, Below.refl _ _⟩
    | 7, ho =>
      have e : o = { dst := some 95, op := Op.move (Operand.tmp 9), type := 3, pos := "apart.go:272", after := #[], guard := none } := (Option.some.inj ho).symm
      subst e
      clear hdeps
      refine wpOp_step ho (fun K hK => ?_)
      clear ho
      go_simp
      exact hK _ _ ⟨_, act_put x hdef _ _, rfl, Below.refl _ _⟩
    | 8, ho =>
      have e : o = { dst := some 96, op := Op.move (Operand.tmp 10), type := 3, pos := "apart.go:272", after := #[], guard := none } := (Option.some.inj ho).symm
      subst e
      clear hdeps
      refine wpOp_step ho (fun K hK => ?_)
      clear ho
      go_simp
      exact hK _ _ ⟨_, act_put x hdef _ _, rfl, Below.refl _ _⟩
    | 9, ho =>
      have e : o = { dst := some 97, op := Op.call { callee := Callee.value (Operand.func 66), args := #[Operand.tmp 95, Operand.tmp 96], argTypes := #[3, 3] }, type := 9, pos := "apart.go:272", after := #[{ on := 7, ground := Ground.data }, { on := 8, ground := Ground.data }], guard := none } := (Option.some.inj ho).symm
      subst e
      have q7 : x.tmps.getD 95 undef = .int .i64 (k : Nat) := hdeps { on := 7, ground := Ground.data } (by simp) rfl
      have q8 : x.tmps.getD 96 undef = .int .i64 (i : Nat) := hdeps { on := 8, ground := Ground.data } (by simp) rfl
      simp only [Array.getD_eq_getD_getElem?] at q7 q8
      clear hdeps
      refine wpOp_step ho (fun K hK => ?_)
      clear ho
      go_simp
      refine (cm w).mono ?_
      rintro e w' ⟨γ, rfl, hg, hb⟩
      exact hK _ _ ⟨_, act_put x hdef _ _, ⟨γ, rfl, hg⟩, hb⟩
    | 10, ho =>
      have e : o = { dst := some 98, op := Op.binOp BinOp.eql 9 (Operand.tmp 94) (Operand.tmp 97) 9, type := 4, pos := "apart.go:272", after := #[{ on := 6, ground := Ground.data }, { on := 9, ground := Ground.data }], guard := none } := (Option.some.inj ho).symm
      subst e
      obtain ⟨γ6, q6, p6⟩ := hdeps { on := 6, ground := Ground.data } (by simp) rfl
      have q6 : x.tmps.getD 94 undef = (.string (t)) := q6
      obtain ⟨γ9, q9, p9⟩ := hdeps { on := 9, ground := Ground.data } (by simp) rfl
      have q9 : x.tmps.getD 97 undef = (.string (t)) := q9
      simp only [Array.getD_eq_getD_getElem?] at q6 q9
      clear hdeps
      refine wpOp_step ho (fun K hK => ?_)
      clear ho
      go_simp
      exact hK _ _ ⟨_, act_put x hdef _ _, rfl, Below.refl _ _⟩
    | 11, ho =>
      have e : o = { dst := some 99, op := Op.unOp UnOp.not 4 (Operand.tmp 98), type := 4, pos := "apart.go:272", after := #[{ on := 10, ground := Ground.data }], guard := none } := (Option.some.inj ho).symm
      subst e
      have q10 : x.tmps.getD 98 undef = .bool true := hdeps { on := 10, ground := Ground.data } (by simp) rfl
      simp only [Array.getD_eq_getD_getElem?] at q10
      clear hdeps
      refine wpOp_step ho (fun K hK => ?_)
      clear ho
      go_simp
      exact hK _ _ ⟨_, act_put x hdef _ _, rfl, Below.refl _ _⟩
    | 12, ho =>
      have e : o = { dst := some 100, op := Op.move (Operand.tmp 99), type := 4, pos := "apart.go:272", after := #[{ on := 11, ground := Ground.data }, { on := 9, ground := Ground.chain }], guard := none } := (Option.some.inj ho).symm
      subst e
      have q11 : x.tmps.getD 99 undef = .bool false := hdeps { on := 11, ground := Ground.data } (by simp) rfl
      simp only [Array.getD_eq_getD_getElem?] at q11
      clear hdeps
      refine wpOp_step ho (fun K hK => ?_)
      clear ho
      go_simp
      exact hK _ _ ⟨_, act_put x hdef _ _, rfl, Below.refl _ _⟩
    | 13, ho =>
      have e : o = { dst := some 101, op := Op.move (Operand.tmp 10), type := 3, pos := "apart.go:272", after := #[{ on := 12, ground := Ground.guard }], guard := some (12, false) } := (Option.some.inj ho).symm
      subst e
      have q12 : x.tmps.getD 100 undef = .bool false := hdeps { on := 12, ground := Ground.guard } (by simp) rfl
      have e12 : (ops24[12]?.bind fun x => x.dst) = some 100 := rfl
      have g12 := get_some q12 (fun h => by cases h)
      simp only [Array.getD_eq_getD_getElem?] at q12
      clear hdeps
      refine wpOp_step ho (fun K hK => ?_)
      clear ho
      go_simp
      exact hK _ _ ⟨_, act_put x hdef _ _, rfl, Below.refl _ _⟩
    | 14, ho =>
      have e : o = { dst := some 102, op := Op.move (Operand.tmp 0), type := 38, pos := "apart.go:272", after := #[{ on := 12, ground := Ground.guard }], guard := some (12, false) } := (Option.some.inj ho).symm
      subst e
      have q12 : x.tmps.getD 100 undef = .bool false := hdeps { on := 12, ground := Ground.guard } (by simp) rfl
      have e12 : (ops24[12]?.bind fun x => x.dst) = some 100 := rfl
      have g12 := get_some q12 (fun h => by cases h)
      simp only [Array.getD_eq_getD_getElem?] at q12
      clear hdeps
      refine wpOp_step ho (fun K hK => ?_)
      clear ho
      go_simp
      exact hK _ _ ⟨_, act_put x hdef _ _, rfl, Below.refl _ _⟩
    | 15, ho =>
      have e : o = { dst := some 103, op := Op.move (Operand.tmp 9), type := 3, pos := "apart.go:272", after := #[{ on := 12, ground := Ground.guard }], guard := some (12, false) } := (Option.some.inj ho).symm
      subst e
      have q12 : x.tmps.getD 100 undef = .bool false := hdeps { on := 12, ground := Ground.guard } (by simp) rfl
      have e12 : (ops24[12]?.bind fun x => x.dst) = some 100 := rfl
      have g12 := get_some q12 (fun h => by cases h)
      simp only [Array.getD_eq_getD_getElem?] at q12
      clear hdeps
      refine wpOp_step ho (fun K hK => ?_)
      clear ho
      go_simp
      exact hK _ _ ⟨_, act_put x hdef _ _, rfl, Below.refl _ _⟩
    | 16, ho =>
      have e : o = { dst := some 104, op := Op.indexAddr 38 (Operand.tmp 102) (Operand.tmp 103), type := 0, pos := "apart.go:272", after := #[{ on := 14, ground := Ground.data }, { on := 15, ground := Ground.data }, { on := 12, ground := Ground.guard }], guard := some (12, false) } := (Option.some.inj ho).symm
      subst e
      have q14 : x.tmps.getD 102 undef = .slice (some ⟨b, off, none⟩) n cap := hdeps { on := 14, ground := Ground.data } (by simp) rfl
      have q15 : x.tmps.getD 103 undef = .int .i64 (k : Nat) := hdeps { on := 15, ground := Ground.data } (by simp) rfl
      have q12 : x.tmps.getD 100 undef = .bool false := hdeps { on := 12, ground := Ground.guard } (by simp) rfl
      have e12 : (ops24[12]?.bind fun x => x.dst) = some 100 := rfl
      have g12 := get_some q12 (fun h => by cases h)
      simp only [Array.getD_eq_getD_getElem?] at q14 q15 q12
      clear hdeps
      refine wpOp_step ho (fun K hK => ?_)
      clear ho
      go_simp
      exact hK _ _ ⟨_, act_put x hdef _ _, rfl, Below.refl _ _⟩
    | 17, ho =>
      have e : o = { dst := some 105, op := Op.load 29 (Operand.tmp 104), type := 29, pos := "apart.go:272", after := #[{ on := 16, ground := Ground.data }, { on := 12, ground := Ground.guard }], guard := some (12, false) } := (Option.some.inj ho).symm
      subst e
      have q16 : x.tmps.getD 104 undef = .pointer (some ⟨b, off + k, none⟩) := hdeps { on := 16, ground := Ground.data } (by simp) rfl
      have q12 : x.tmps.getD 100 undef = .bool false := hdeps { on := 12, ground := Ground.guard } (by simp) rfl
      have e12 : (ops24[12]?.bind fun x => x.dst) = some 100 := rfl
      have g12 := get_some q12 (fun h => by cases h)
      simp only [Array.getD_eq_getD_getElem?] at q16 q12
      clear hdeps
      have c1w := cell_thru c1 hB
      refine wpOp_step ho (fun K hK => ?_)
      clear ho
      go_simp
      exact hK _ _ ⟨_, act_put x hdef _ _, rfl, Below.refl _ _⟩
    | 18, ho =>
      have e : o = { dst := some 106, op := Op.call { callee := Callee.builtin Builtin.len, args := #[Operand.tmp 105], argTypes := #[29] }, type := 3, pos := "apart.go:272", after := #[{ on := 17, ground := Ground.data }, { on := 12, ground := Ground.guard }], guard := some (12, false) } := (Option.some.inj ho).symm
      subst e
      have q17 : x.tmps.getD 105 undef = .slice Ak lk Ck := hdeps { on := 17, ground := Ground.data } (by simp) rfl
      have q12 : x.tmps.getD 100 undef = .bool false := hdeps { on := 12, ground := Ground.guard } (by simp) rfl
      have e12 : (ops24[12]?.bind fun x => x.dst) = some 100 := rfl
      have g12 := get_some q12 (fun h => by cases h)
      simp only [Array.getD_eq_getD_getElem?] at q17 q12
      clear hdeps
      refine wpOp_step ho (fun K hK => ?_)
      clear ho
      go_simp
      exact hK _ _ ⟨_, act_put x hdef _ _, rfl, Below.refl _ _⟩
    | 19, ho =>
      have e : o = { dst := some 107, op := Op.binOp BinOp.lss 3 (Operand.tmp 101) (Operand.tmp 106) 3, type := 4, pos := "apart.go:272", after := #[{ on := 13, ground := Ground.data }, { on := 18, ground := Ground.data }, { on := 12, ground := Ground.guard }], guard := some (12, false) } := (Option.some.inj ho).symm
      subst e
      have q13 : x.tmps.getD 101 undef = .int .i64 (i : Nat) := hdeps { on := 13, ground := Ground.data } (by simp) rfl
      have q18 : x.tmps.getD 106 undef = .int .i64 (lk : Nat) := hdeps { on := 18, ground := Ground.data } (by simp) rfl
      have q12 : x.tmps.getD 100 undef = .bool false := hdeps { on := 12, ground := Ground.guard } (by simp) rfl
      have e12 : (ops24[12]?.bind fun x => x.dst) = some 100 := rfl
      have g12 := get_some q12 (fun h => by cases h)
      simp only [Array.getD_eq_getD_getElem?] at q13 q18 q12
      clear hdeps
      refine wpOp_step ho (fun K hK => ?_)
      clear ho
      have hdl : decide ((i : Int) < (lk : Int)) = lt := by rw [HLT.out]; simp
      go_simp
      exact hK _ _ ⟨_, act_put x hdef _ _, (by show Value.bool _ = Value.bool _; rw [HLT.out]), Below.refl _ _⟩
    | 20, ho =>
      have e : o = { dst := some 108, op := Op.move (Operand.tmp 107), type := 4, pos := "apart.go:272", after := #[{ on := 19, ground := Ground.data }, { on := 12, ground := Ground.chain }, { on := 12, ground := Ground.guard }], guard := some (12, false) } := (Option.some.inj ho).symm
      subst e
      have q19 : x.tmps.getD 107 undef = .bool lt := hdeps { on := 19, ground := Ground.data } (by simp) rfl
      have q12 : x.tmps.getD 100 undef = .bool false := hdeps { on := 12, ground := Ground.guard } (by simp) rfl
      have e12 : (ops24[12]?.bind fun x => x.dst) = some 100 := rfl
      have g12 := get_some q12 (fun h => by cases h)
      simp only [Array.getD_eq_getD_getElem?] at q19 q12
      clear hdeps
      refine wpOp_step ho (fun K hK => ?_)
      clear ho
      go_simp
      exact hK _ _ ⟨_, act_put x hdef _ _, rfl, Below.refl _ _⟩
    | 21, ho =>
      have e : o = { dst := some 109, op := Op.move (Operand.tmp 0), type := 38, pos := "apart.go:272", after := #[{ on := 20, ground := Ground.guard }], guard := some (20, true) } := (Option.some.inj ho).symm
      subst e
      cases lt with
      | false =>
        have q20 : x.tmps.getD 108 undef = .bool false := hdeps { on := 20, ground := Ground.guard } (by simp) rfl
        have e20 : (ops24[20]?.bind fun x => x.dst) = some 108 := rfl
        have g20 := get_some q20 (fun h => by cases h)
        clear hdeps q20
        refine wpOp_step ho (fun K hK => ?_)
        clear ho
        go_simp
        exact hK _ _ ⟨_, act_put x hdef _ _, fun h => (by cases h), Below.refl _ _⟩
      | true =>
        have q20 : x.tmps.getD 108 undef = .bool true := hdeps { on := 20, ground := Ground.guard } (by simp) rfl
        have e20 : (ops24[20]?.bind fun x => x.dst) = some 108 := rfl
        have g20 := get_some q20 (fun h => by cases h)
        simp only [Array.getD_eq_getD_getElem?] at q20
        clear hdeps
        refine wpOp_step ho (fun K hK => ?_)
        clear ho
        go_simp
        exact hK _ _ ⟨_, act_put x hdef _ _, fun _ => rfl, Below.refl _ _⟩
    | 22, ho =>
      have e : o = { dst := some 110, op := Op.move (Operand.tmp 9), type := 3, pos := "apart.go:272", after := #[{ on := 20, ground := Ground.guard }], guard := some (20, true) } := (Option.some.inj ho).symm
      subst e
      cases lt with
      | false =>
        have q20 : x.tmps.getD 108 undef = .bool false := hdeps { on := 20, ground := Ground.guard } (by simp) rfl
        have e20 : (ops24[20]?.bind fun x => x.dst) = some 108 := rfl
        have g20 := get_some q20 (fun h => by cases h)
        clear hdeps q20
        refine wpOp_step ho (fun K hK => ?_)
        clear ho
        go_simp
        exact hK _ _ ⟨_, act_put x hdef _ _, fun h => (by cases h), Below.refl _ _⟩
      | true =>
        have q20 : x.tmps.getD 108 undef = .bool true := hdeps { on := 20, ground := Ground.guard } (by simp) rfl
        have e20 : (ops24[20]?.bind fun x => x.dst) = some 108 := rfl
        have g20 := get_some q20 (fun h => by cases h)
        simp only [Array.getD_eq_getD_getElem?] at q20
        clear hdeps
        refine wpOp_step ho (fun K hK => ?_)
        clear ho
        go_simp
        exact hK _ _ ⟨_, act_put x hdef _ _, fun _ => rfl, Below.refl _ _⟩
    | 23, ho =>
      have e : o = { dst := some 111, op := Op.indexAddr 38 (Operand.tmp 109) (Operand.tmp 110), type := 0, pos := "apart.go:272", after := #[{ on := 21, ground := Ground.data }, { on := 22, ground := Ground.data }, { on := 20, ground := Ground.guard }], guard := some (20, true) } := (Option.some.inj ho).symm
      subst e
      cases lt with
      | false =>
        have q20 : x.tmps.getD 108 undef = .bool false := hdeps { on := 20, ground := Ground.guard } (by simp) rfl
        have e20 : (ops24[20]?.bind fun x => x.dst) = some 108 := rfl
        have g20 := get_some q20 (fun h => by cases h)
        clear hdeps q20
        refine wpOp_step ho (fun K hK => ?_)
        clear ho
        go_simp
        exact hK _ _ ⟨_, act_put x hdef _ _, fun h => (by cases h), Below.refl _ _⟩
      | true =>
        have q21 : x.tmps.getD 109 undef = .slice (some ⟨b, off, none⟩) n cap := (hdeps { on := 21, ground := Ground.data } (by simp) rfl) rfl
        have q22 : x.tmps.getD 110 undef = .int .i64 (k : Nat) := (hdeps { on := 22, ground := Ground.data } (by simp) rfl) rfl
        have q20 : x.tmps.getD 108 undef = .bool true := hdeps { on := 20, ground := Ground.guard } (by simp) rfl
        have e20 : (ops24[20]?.bind fun x => x.dst) = some 108 := rfl
        have g20 := get_some q20 (fun h => by cases h)
        simp only [Array.getD_eq_getD_getElem?] at q21 q22 q20
        clear hdeps
        refine wpOp_step ho (fun K hK => ?_)
        clear ho
        go_simp
        exact hK _ _ ⟨_, act_put x hdef _ _, fun _ => rfl, Below.refl _ _⟩
    | 24, ho =>
      have e : o = { dst := some 112, op := Op.load 29 (Operand.tmp 111), type := 29, pos := "apart.go:272", after := #[{ on := 23, ground := Ground.data }, { on := 20, ground := Ground.guard }], guard := some (20, true) } := (Option.some.inj ho).symm
      subst e
      cases lt with
      | false =>
        have q20 : x.tmps.getD 108 undef = .bool false := hdeps { on := 20, ground := Ground.guard } (by simp) rfl
        have e20 : (ops24[20]?.bind fun x => x.dst) = some 108 := rfl
        have g20 := get_some q20 (fun h => by cases h)
        clear hdeps q20
        refine wpOp_step ho (fun K hK => ?_)
        clear ho
        go_simp
        exact hK _ _ ⟨_, act_put x hdef _ _, fun h => (by cases h), Below.refl _ _⟩
      | true =>
        have q23 : x.tmps.getD 111 undef = .pointer (some ⟨b, off + k, none⟩) := (hdeps { on := 23, ground := Ground.data } (by simp) rfl) rfl
        have q20 : x.tmps.getD 108 undef = .bool true := hdeps { on := 20, ground := Ground.guard } (by simp) rfl
        have e20 : (ops24[20]?.bind fun x => x.dst) = some 108 := rfl
        have g20 := get_some q20 (fun h => by cases h)
        simp only [Array.getD_eq_getD_getElem?] at q23 q20
        clear hdeps
        have c1w := cell_thru c1 hB
        rw [hA rfl] at c1w
        refine wpOp_step ho (fun K hK => ?_)
        clear ho
        go_simp
        exact hK _ _ ⟨_, act_put x hdef _ _, fun _ => rfl, Below.refl _ _⟩
    | 25, ho =>
      have e : o = { dst := some 113, op := Op.move (Operand.tmp 10), type := 3, pos := "apart.go:272", after := #[{ on := 20, ground := Ground.guard }], guard := some (20, true) } := (Option.some.inj ho).symm
      subst e
      cases lt with
      | false =>
        have q20 : x.tmps.getD 108 undef = .bool false := hdeps { on := 20, ground := Ground.guard } (by simp) rfl
        have e20 : (ops24[20]?.bind fun x => x.dst) = some 108 := rfl
        have g20 := get_some q20 (fun h => by cases h)
        clear hdeps q20
        refine wpOp_step ho (fun K hK => ?_)
        clear ho
        go_simp
        exact hK _ _ ⟨_, act_put x hdef _ _, fun h => (by cases h), Below.refl _ _⟩
      | true =>
        have q20 : x.tmps.getD 108 undef = .bool true := hdeps { on := 20, ground := Ground.guard } (by simp) rfl
        have e20 : (ops24[20]?.bind fun x => x.dst) = some 108 := rfl
        have g20 := get_some q20 (fun h => by cases h)
        simp only [Array.getD_eq_getD_getElem?] at q20
        clear hdeps
        refine wpOp_step ho (fun K hK => ?_)
        clear ho
        go_simp
        exact hK _ _ ⟨_, act_put x hdef _ _, fun _ => rfl, Below.refl _ _⟩
    | 26, ho =>
      have e : o = { dst := some 114, op := Op.indexAddr 29 (Operand.tmp 112) (Operand.tmp 113), type := 0, pos := "apart.go:272", after := #[{ on := 24, ground := Ground.data }, { on := 25, ground := Ground.data }, { on := 20, ground := Ground.guard }], guard := some (20, true) } := (Option.some.inj ho).symm
      subst e
      cases lt with
      | false =>
        have q20 : x.tmps.getD 108 undef = .bool false := hdeps { on := 20, ground := Ground.guard } (by simp) rfl
        have e20 : (ops24[20]?.bind fun x => x.dst) = some 108 := rfl
        have g20 := get_some q20 (fun h => by cases h)
        clear hdeps q20
        refine wpOp_step ho (fun K hK => ?_)
        clear ho
        go_simp
        exact hK _ _ ⟨_, act_put x hdef _ _, fun h => (by cases h), Below.refl _ _⟩
      | true =>
        have q24 : x.tmps.getD 112 undef = .slice (some ⟨g2, 0, none⟩) lk Ck := (hdeps { on := 24, ground := Ground.data } (by simp) rfl) rfl
        have q25 : x.tmps.getD 113 undef = .int .i64 (i : Nat) := (hdeps { on := 25, ground := Ground.data } (by simp) rfl) rfl
        have q20 : x.tmps.getD 108 undef = .bool true := hdeps { on := 20, ground := Ground.guard } (by simp) rfl
        have e20 : (ops24[20]?.bind fun x => x.dst) = some 108 := rfl
        have g20 := get_some q20 (fun h => by cases h)
        simp only [Array.getD_eq_getD_getElem?] at q24 q25 q20
        clear hdeps
        have hil : i < lk := of_decide_eq_true (HLT.out.symm)
        have hilI : (i : Int) < (lk : Int) := by omega
        refine wpOp_step ho (fun K hK => ?_)
        clear ho
        go_simp
        exact hK _ _ ⟨_, act_put x hdef _ _, fun _ => rfl, Below.refl _ _⟩
    | 27, ho =>
      have e : o = { dst := some 115, op := Op.load 9 (Operand.tmp 114), type := 9, pos := "apart.go:272", after := #[{ on := 26, ground := Ground.data }, { on := 20, ground := Ground.guard }], guard := some (20, true) } := (Option.some.inj ho).symm
      subst e
      cases lt with
      | false =>
        have q20 : x.tmps.getD 108 undef = .bool false := hdeps { on := 20, ground := Ground.guard } (by simp) rfl
        have e20 : (ops24[20]?.bind fun x => x.dst) = some 108 := rfl
        have g20 := get_some q20 (fun h => by cases h)
        clear hdeps q20
        refine wpOp_step ho (fun K hK => ?_)
        clear ho
        go_simp
        exact hK _ _ ⟨_, act_put x hdef _ _, fun h => (by cases h), Below.refl _ _⟩
      | true =>
        have q26 : x.tmps.getD 114 undef = .pointer (some ⟨g2, i, none⟩) := (hdeps { on := 26, ground := Ground.data } (by simp) rfl) rfl
        have q20 : x.tmps.getD 108 undef = .bool true := hdeps { on := 20, ground := Ground.guard } (by simp) rfl
        have e20 : (ops24[20]?.bind fun x => x.dst) = some 108 := rfl
        have g20 := get_some q20 (fun h => by cases h)
        simp only [Array.getD_eq_getD_getElem?] at q26 q20
        clear hdeps
        obtain ⟨γ, hr, hg⟩ := h2 rfl
        have k0 : w.cell? ⟨g2, i, none⟩ = some (.string (t)) := range_thru hr hB 0 _ rfl
        have hg2 := gd_below hg hB
        clear hr hg
        refine wpOp_step ho (fun K hK => ?_)
        clear ho
        go_simp
        exact hK _ _ ⟨_, act_put x hdef _ _, fun _ => ⟨γ, rfl, hg2⟩, Below.refl _ _⟩
    | 28, ho =>
      have e : o = { dst := some 116, op := Op.move (Operand.tmp 9), type := 3, pos := "apart.go:272", after := #[{ on := 20, ground := Ground.guard }], guard := some (20, true) } := (Option.some.inj ho).symm
      subst e
      cases lt with
      | false =>
        have q20 : x.tmps.getD 108 undef = .bool false := hdeps { on := 20, ground := Ground.guard } (by simp) rfl
        have e20 : (ops24[20]?.bind fun x => x.dst) = some 108 := rfl
        have g20 := get_some q20 (fun h => by cases h)
        clear hdeps q20
        refine wpOp_step ho (fun K hK => ?_)
        clear ho
        go_simp
        exact hK _ _ ⟨_, act_put x hdef _ _, fun h => (by cases h), Below.refl _ _⟩
      | true =>
        have q20 : x.tmps.getD 108 undef = .bool true := hdeps { on := 20, ground := Ground.guard } (by simp) rfl
        have e20 : (ops24[20]?.bind fun x => x.dst) = some 108 := rfl
        have g20 := get_some q20 (fun h => by cases h)
        simp only [Array.getD_eq_getD_getElem?] at q20
        clear hdeps
        refine wpOp_step ho (fun K hK => ?_)
        clear ho
        go_simp
        exact hK _ _ ⟨_, act_put x hdef _ _, fun _ => rfl, Below.refl _ _⟩
    | 29, ho =>
      have e : o = { dst := some 117, op := Op.move (Operand.tmp 10), type := 3, pos := "apart.go:272", after := #[{ on := 20, ground := Ground.guard }], guard := some (20, true) } := (Option.some.inj ho).symm
      subst e
      cases lt with
      | false =>
        have q20 : x.tmps.getD 108 undef = .bool false := hdeps { on := 20, ground := Ground.guard } (by simp) rfl
        have e20 : (ops24[20]?.bind fun x => x.dst) = some 108 := rfl
        have g20 := get_some q20 (fun h => by cases h)
        clear hdeps q20
        refine wpOp_step ho (fun K hK => ?_)
        clear ho
        go_simp
        exact hK _ _ ⟨_, act_put x hdef _ _, fun h => (by cases h), Below.refl _ _⟩
      | true =>
        have q20 : x.tmps.getD 108 undef = .bool true := hdeps { on := 20, ground := Ground.guard } (by simp) rfl
        have e20 : (ops24[20]?.bind fun x => x.dst) = some 108 := rfl
        have g20 := get_some q20 (fun h => by cases h)
        simp only [Array.getD_eq_getD_getElem?] at q20
        clear hdeps
        refine wpOp_step ho (fun K hK => ?_)
        clear ho
        go_simp
        exact hK _ _ ⟨_, act_put x hdef _ _, fun _ => rfl, Below.refl _ _⟩
    | 30, ho =>
      have e : o = { dst := some 118, op := Op.call { callee := Callee.value (Operand.func 66), args := #[Operand.tmp 116, Operand.tmp 117], argTypes := #[3, 3] }, type := 9, pos := "apart.go:272", after := #[{ on := 28, ground := Ground.data }, { on := 29, ground := Ground.data }, { on := 20, ground := Ground.chain }, { on := 20, ground := Ground.guard }], guard := some (20, true) } := (Option.some.inj ho).symm
      subst e
      cases lt with
      | false =>
        have q20 : x.tmps.getD 108 undef = .bool false := hdeps { on := 20, ground := Ground.guard } (by simp) rfl
        have e20 : (ops24[20]?.bind fun x => x.dst) = some 108 := rfl
        have g20 := get_some q20 (fun h => by cases h)
        clear hdeps q20
        refine wpOp_step ho (fun K hK => ?_)
        clear ho
        go_simp
        exact hK _ _ ⟨_, act_put x hdef _ _, fun h => (by cases h), Below.refl _ _⟩
      | true =>
        have q28 : x.tmps.getD 116 undef = .int .i64 (k : Nat) := (hdeps { on := 28, ground := Ground.data } (by simp) rfl) rfl
        have q29 : x.tmps.getD 117 undef = .int .i64 (i : Nat) := (hdeps { on := 29, ground := Ground.data } (by simp) rfl) rfl
        have q20 : x.tmps.getD 108 undef = .bool true := hdeps { on := 20, ground := Ground.guard } (by simp) rfl
        have e20 : (ops24[20]?.bind fun x => x.dst) = some 108 := rfl
        have g20 := get_some q20 (fun h => by cases h)
        simp only [Array.getD_eq_getD_getElem?] at q28 q29 q20
        clear hdeps
        refine wpOp_step ho (fun K hK => ?_)
        clear ho
        go_simp
        refine (cm w).mono ?_
        rintro e w' ⟨γ, rfl, hg, hb⟩
        exact hK _ _ ⟨_, act_put x hdef _ _, fun _ => ⟨γ, rfl, hg⟩, hb⟩
    | 31, ho =>
      have e : o = { dst := some 119, op := Op.binOp BinOp.eql 9 (Operand.tmp 115) (Operand.tmp 118) 9, type := 4, pos := "apart.go:272", after := #[{ on := 27, ground := Ground.data }, { on := 30, ground := Ground.data }, { on := 20, ground := Ground.guard }], guard := some (20, true) } := (Option.some.inj ho).symm
      subst e
      cases lt with
      | false =>
        have q20 : x.tmps.getD 108 undef = .bool false := hdeps { on := 20, ground := Ground.guard } (by simp) rfl
        have e20 : (ops24[20]?.bind fun x => x.dst) = some 108 := rfl
        have g20 := get_some q20 (fun h => by cases h)
        clear hdeps q20
        refine wpOp_step ho (fun K hK => ?_)
        clear ho
        go_simp
        exact hK _ _ ⟨_, act_put x hdef _ _, fun h => (by cases h), Below.refl _ _⟩
      | true =>
        obtain ⟨γ27, q27, p27⟩ := (hdeps { on := 27, ground := Ground.data } (by simp) rfl) rfl
        have q27 : x.tmps.getD 115 undef = (.string (t)) := q27
        obtain ⟨γ30, q30, p30⟩ := (hdeps { on := 30, ground := Ground.data } (by simp) rfl) rfl
        have q30 : x.tmps.getD 118 undef = (.string (t)) := q30
        have q20 : x.tmps.getD 108 undef = .bool true := hdeps { on := 20, ground := Ground.guard } (by simp) rfl
        have e20 : (ops24[20]?.bind fun x => x.dst) = some 108 := rfl
        have g20 := get_some q20 (fun h => by cases h)
        simp only [Array.getD_eq_getD_getElem?] at q27 q30 q20
        clear hdeps
        refine wpOp_step ho (fun K hK => ?_)
        clear ho
        go_simp
        exact hK _ _ ⟨_, act_put x hdef _ _, fun _ => rfl, Below.refl _ _⟩
    | 32, ho =>
      have e : o = { dst := some 120, op := Op.unOp UnOp.not 4 (Operand.tmp 119), type := 4, pos := "apart.go:272", after := #[{ on := 31, ground := Ground.data }, { on := 20, ground := Ground.guard }], guard := some (20, true) } := (Option.some.inj ho).symm
      subst e
      cases lt with
      | false =>
        have q20 : x.tmps.getD 108 undef = .bool false := hdeps { on := 20, ground := Ground.guard } (by simp) rfl
        have e20 : (ops24[20]?.bind fun x => x.dst) = some 108 := rfl
        have g20 := get_some q20 (fun h => by cases h)
        clear hdeps q20
        refine wpOp_step ho (fun K hK => ?_)
        clear ho
        go_simp
        exact hK _ _ ⟨_, act_put x hdef _ _, fun h => (by cases h), Below.refl _ _⟩
      | true =>
        have q31 : x.tmps.getD 119 undef = .bool true := (hdeps { on := 31, ground := Ground.data } (by simp) rfl) rfl
        have q20 : x.tmps.getD 108 undef = .bool true := hdeps { on := 20, ground := Ground.guard } (by simp) rfl
        have e20 : (ops24[20]?.bind fun x => x.dst) = some 108 := rfl
        have g20 := get_some q20 (fun h => by cases h)
        simp only [Array.getD_eq_getD_getElem?] at q31 q20
        clear hdeps
        refine wpOp_step ho (fun K hK => ?_)
        clear ho
        go_simp
        exact hK _ _ ⟨_, act_put x hdef _ _, fun _ => rfl, Below.refl _ _⟩
    | 33, ho =>
      have e : o = { dst := some 121, op := Op.pick (Operand.tmp 108) (Operand.tmp 120) (Operand.const (Value.bool false)), type := 4, pos := "apart.go:272", after := #[{ on := 20, ground := Ground.data }, { on := 32, ground := Ground.data }, { on := 12, ground := Ground.guard }], guard := some (12, false) } := (Option.some.inj ho).symm
      subst e
      cases lt with
      | false =>
        have q20 : x.tmps.getD 108 undef = .bool false := hdeps { on := 20, ground := Ground.data } (by simp) rfl
        have q12 : x.tmps.getD 100 undef = .bool false := hdeps { on := 12, ground := Ground.guard } (by simp) rfl
        have e12 : (ops24[12]?.bind fun x => x.dst) = some 100 := rfl
        have g12 := get_some q12 (fun h => by cases h)
        simp only [Array.getD_eq_getD_getElem?] at q20 q12
        clear hdeps
        refine wpOp_step ho (fun K hK => ?_)
        clear ho
        go_simp
        exact hK _ _ ⟨_, act_put x hdef _ _, rfl, Below.refl _ _⟩
      | true =>
        have q20 : x.tmps.getD 108 undef = .bool true := hdeps { on := 20, ground := Ground.data } (by simp) rfl
        have q32 : x.tmps.getD 120 undef = .bool false := (hdeps { on := 32, ground := Ground.data } (by simp) rfl) rfl
        have q12 : x.tmps.getD 100 undef = .bool false := hdeps { on := 12, ground := Ground.guard } (by simp) rfl
        have e12 : (ops24[12]?.bind fun x => x.dst) = some 100 := rfl
        have g12 := get_some q12 (fun h => by cases h)
        simp only [Array.getD_eq_getD_getElem?] at q20 q32 q12
        clear hdeps
        refine wpOp_step ho (fun K hK => ?_)
        clear ho
        go_simp
        exact hK _ _ ⟨_, act_put x hdef _ _, rfl, Below.refl _ _⟩
    | 34, ho =>
      have e : o = { dst := some 122, op := Op.pick (Operand.tmp 100) (Operand.const (Value.bool true)) (Operand.tmp 121), type := 4, pos := "apart.go:272", after := #[{ on := 12, ground := Ground.data }, { on := 33, ground := Ground.data }], guard := none } := (Option.some.inj ho).symm
      subst e
      have q12 : x.tmps.getD 100 undef = .bool false := hdeps { on := 12, ground := Ground.data } (by simp) rfl
      have q33 : x.tmps.getD 121 undef = .bool false := hdeps { on := 33, ground := Ground.data } (by simp) rfl
      simp only [Array.getD_eq_getD_getElem?] at q12 q33
      clear hdeps
      refine wpOp_step ho (fun K hK => ?_)
      clear ho
      go_simp
      exact hK _ _ ⟨_, act_put x hdef _ _, rfl, Below.refl _ _⟩
    | k + 35, _ => omega
  · intro x w hB hdef hsz hs hv
    exact hQ x w hB hdef (hsz.trans ht) (hun x hs) (hv 34 (by decide))
set_option maxRecDepth 100000 in
theorem region24_lit (n cap k i G g g2 b off lg lk C1 Ck : Nat) (Ak : Option Addr) (lt : Bool) (t : ByteArray) (Q : Exit → Act → World → Prop) (t0 : Array Value) (w0 : World) (ht : t0.size = 193)
    (hs5 : t0.getD 5 undef = .slice (some ⟨G, 0, none⟩) n n) (hs9 : t0.getD 9 undef = .int .i64 (k : Nat)) (hs10 : t0.getD 10 undef = .int .i64 (i : Nat)) (hs0 : t0.getD 0 undef = .slice (some ⟨b, off, none⟩) n cap)
    (hkn : k < n) (hig : i < lg) (hlg : lg ≤ C1) (hlt : lt = decide (i < lk)) (hlk : lk ≤ Ck) (hA : lt = true → Ak = some ⟨g2, 0, none⟩)
    (d1 : w0.cell? ⟨G, k, none⟩ = some (.slice (some ⟨g, 0, none⟩) lg C1)) (c1 : w0.cell? ⟨b, off + k, none⟩ = some (.slice Ak lk Ck))
    (h1 : ∃ γ, w0.rangeAt g (i) ([.string (t)]) ∧ gd w0 γ k i) (h2 : lt = true → ∃ γ, w0.rangeAt g2 (i) ([.string (t)]) ∧ gd w0 γ k i)
    (cm : ∀ W : World, Calls Tryz.prog 66 #[.int .i64 (k : Nat), .int .i64 (i : Nat)] W fun e w' => ∃ γ, e = .returned ((.string (t))) ∧ gd w' γ k i ∧ Below W.heap.size W w')
    (hQ : ∀ (vs : Nat → Value) (w : World), Below w0.heap.size w0 w → vs 122 = .bool false → Q .normal { tmps := [88, 89, 90, 91, 92, 93, 94, 95, 96, 97, 98, 99, 100, 101, 102, 103, 104, 105, 106, 107, 108, 109, 110, 111, 112, 113, 114, 115, 116, 117, 118, 119, 120, 121, 122].foldl (fun y d => y.setIfInBounds d (vs d)) t0, defers := [] } w) :
    (Code.region 24 ops24 true).wp Tryz.prog Q { tmps := t0, defers := [] } w0 := by
  refine region24 n cap k i G g g2 b off lg lk C1 Ck Ak lt t Q t0 w0 ht hs5 hs9 hs10 hs0 hkn hig hlg hlt hlk hA d1 c1 h1 h2 cm ?_
  intro x w hB hdef hsz hs h10
  have hx := frame_sets x.tmps t0 (by omega) [88, 89, 90, 91, 92, 93, 94, 95, 96, 97, 98, 99, 100, 101, 102, 103, 104, 105, 106, 107, 108, 109, 110, 111, 112, 113, 114, 115, 116, 117, 118, 119, 120, 121, 122] (fun s hn => hs s (fun e => hn (by simp only [List.mem_cons, List.mem_nil_iff, or_false]; omega)))
  have hq := hQ (fun d => x.tmps.getD d undef) w hB h10
  obtain ⟨T, Df⟩ := x
  dsimp only at hx hdef hq
  subst hdef
  rw [← hx] at hq
  exact hq

def ops41 : Array Oper :=
  #[{ dst := some 167, op := Op.move (Operand.tmp 0), type := 38, pos := "apart.go:286", after := #[], guard := none },
    { dst := some 168, op := Op.move (Operand.tmp 14), type := 3, pos := "apart.go:286", after := #[], guard := none },
    { dst := some 169, op := Op.indexAddr 38 (Operand.tmp 167) (Operand.tmp 168), type := 0, pos := "apart.go:286", after := #[{ on := 0, ground := Ground.data }, { on := 1, ground := Ground.data }], guard := none },
    { dst := some 170, op := Op.load 29 (Operand.tmp 169), type := 29, pos := "apart.go:286", after := #[{ on := 2, ground := Ground.data }], guard := none },
    { dst := some 171, op := Op.move (Operand.tmp 15), type := 3, pos := "apart.go:286", after := #[], guard := none },
    { dst := some 172, op := Op.indexAddr 29 (Operand.tmp 170) (Operand.tmp 171), type := 0, pos := "apart.go:286", after := #[{ on := 3, ground := Ground.data }, { on := 4, ground := Ground.data }], guard := none },
    { dst := some 173, op := Op.load 9 (Operand.tmp 172), type := 9, pos := "apart.go:286", after := #[{ on := 5, ground := Ground.data }], guard := none },
    { dst := some 174, op := Op.move (Operand.tmp 14), type := 3, pos := "apart.go:286", after := #[], guard := none },
    { dst := some 175, op := Op.move (Operand.tmp 15), type := 3, pos := "apart.go:286", after := #[], guard := none },
    { dst := some 176, op := Op.call { callee := Callee.value (Operand.func 66), args := #[Operand.tmp 174, Operand.tmp 175], argTypes := #[3, 3] }, type := 9, pos := "apart.go:286", after := #[{ on := 7, ground := Ground.data }, { on := 8, ground := Ground.data }], guard := none },
    { dst := some 177, op := Op.binOp BinOp.eql 9 (Operand.tmp 173) (Operand.tmp 176) 9, type := 4, pos := "apart.go:286", after := #[{ on := 6, ground := Ground.data }, { on := 9, ground := Ground.data }], guard := none },
    { dst := some 178, op := Op.unOp UnOp.not 4 (Operand.tmp 177), type := 4, pos := "apart.go:286", after := #[{ on := 10, ground := Ground.data }], guard := none },
    { dst := some 179, op := Op.move (Operand.tmp 178), type := 4, pos := "apart.go:286", after := #[{ on := 11, ground := Ground.data }, { on := 9, ground := Ground.chain }], guard := none },
    { dst := some 180, op := Op.move (Operand.tmp 5), type := 38, pos := "apart.go:286", after := #[{ on := 12, ground := Ground.guard }], guard := some (12, false) },
    { dst := some 181, op := Op.move (Operand.tmp 14), type := 3, pos := "apart.go:286", after := #[{ on := 12, ground := Ground.guard }], guard := some (12, false) },
    { dst := some 182, op := Op.indexAddr 38 (Operand.tmp 180) (Operand.tmp 181), type := 0, pos := "apart.go:286", after := #[{ on := 13, ground := Ground.data }, { on := 14, ground := Ground.data }, { on := 12, ground := Ground.guard }], guard := some (12, false) },
    { dst := some 183, op := Op.load 29 (Operand.tmp 182), type := 29, pos := "apart.go:286", after := #[{ on := 15, ground := Ground.data }, { on := 12, ground := Ground.guard }], guard := some (12, false) },
    { dst := some 184, op := Op.move (Operand.tmp 15), type := 3, pos := "apart.go:286", after := #[{ on := 12, ground := Ground.guard }], guard := some (12, false) },
    { dst := some 185, op := Op.indexAddr 29 (Operand.tmp 183) (Operand.tmp 184), type := 0, pos := "apart.go:286", after := #[{ on := 16, ground := Ground.data }, { on := 17, ground := Ground.data }, { on := 12, ground := Ground.guard }], guard := some (12, false) },
    { dst := some 186, op := Op.load 9 (Operand.tmp 185), type := 9, pos := "apart.go:286", after := #[{ on := 18, ground := Ground.data }, { on := 12, ground := Ground.guard }], guard := some (12, false) },
    { dst := some 187, op := Op.move (Operand.tmp 14), type := 3, pos := "apart.go:286", after := #[{ on := 12, ground := Ground.guard }], guard := some (12, false) },
    { dst := some 188, op := Op.move (Operand.tmp 15), type := 3, pos := "apart.go:286", after := #[{ on := 12, ground := Ground.guard }], guard := some (12, false) },
    { dst := some 189, op := Op.call { callee := Callee.value (Operand.func 66), args := #[Operand.tmp 187, Operand.tmp 188], argTypes := #[3, 3] }, type := 9, pos := "apart.go:286", after := #[{ on := 20, ground := Ground.data }, { on := 21, ground := Ground.data }, { on := 12, ground := Ground.chain }, { on := 12, ground := Ground.guard }], guard := some (12, false) },
    { dst := some 190, op := Op.binOp BinOp.eql 9 (Operand.tmp 186) (Operand.tmp 189) 9, type := 4, pos := "apart.go:286", after := #[{ on := 19, ground := Ground.data }, { on := 22, ground := Ground.data }, { on := 12, ground := Ground.guard }], guard := some (12, false) },
    { dst := some 191, op := Op.unOp UnOp.not 4 (Operand.tmp 190), type := 4, pos := "apart.go:286", after := #[{ on := 23, ground := Ground.data }, { on := 12, ground := Ground.guard }], guard := some (12, false) },
    { dst := some 192, op := Op.pick (Operand.tmp 179) (Operand.const (Value.bool true)) (Operand.tmp 191), type := 4, pos := "apart.go:286", after := #[{ on := 12, ground := Ground.data }, { on := 24, ground := Ground.data }], guard := none }]
def slot41 (j : Nat) : Nat := 167 + j
def val41 (n cap k i G g g2 b off lg lk C1 Ck : Nat) (Ak : Option Addr) (lt : Bool) (t : ByteArray) : Nat → Value → World → Prop
  | 0, v, w => v = .slice (some ⟨b, off, none⟩) n cap
  | 1, v, w => v = .int .i64 (k : Nat)
  | 2, v, w => v = .pointer (some ⟨b, off + k, none⟩)
  | 3, v, w => v = .slice (some ⟨g2, 0, none⟩) lk Ck
  | 4, v, w => v = .int .i64 (i : Nat)
  | 5, v, w => v = .pointer (some ⟨g2, i, none⟩)
  | 6, v, w => ∃ γ, v = (.string (t)) ∧ gd w γ k i
  | 7, v, w => v = .int .i64 (k : Nat)
  | 8, v, w => v = .int .i64 (i : Nat)
  | 9, v, w => ∃ γ, v = (.string (t)) ∧ gd w γ k i
  | 10, v, w => v = .bool true
  | 11, v, w => v = .bool false
  | 12, v, w => v = .bool false
  | 13, v, w => v = .slice (some ⟨G, 0, none⟩) n n
  | 14, v, w => v = .int .i64 (k : Nat)
  | 15, v, w => v = .pointer (some ⟨G, k, none⟩)
  | 16, v, w => v = .slice (some ⟨g, 0, none⟩) lg C1
  | 17, v, w => v = .int .i64 (i : Nat)
  | 18, v, w => v = .pointer (some ⟨g, i, none⟩)
  | 19, v, w => ∃ γ, v = (.string (t)) ∧ gd w γ k i
  | 20, v, w => v = .int .i64 (k : Nat)
  | 21, v, w => v = .int .i64 (i : Nat)
  | 22, v, w => ∃ γ, v = (.string (t)) ∧ gd w γ k i
  | 23, v, w => v = .bool true
  | 24, v, w => v = .bool false
  | 25, v, w => v = .bool false
  | _, _, _ => True
theorem val41_below (n cap k i G g g2 b off lg lk C1 Ck : Nat) (Ak : Option Addr) (lt : Bool) (t : ByteArray) (w w' : World) (hb : Below w.heap.size w w') : ∀ j v, val41 n cap k i G g g2 b off lg lk C1 Ck Ak lt t j v w → val41 n cap k i G g g2 b off lg lk C1 Ck Ak lt t j v w' := by
  intro j v h
  match j, h with
  | 0, h => exact h
  | 1, h => exact h
  | 2, h => exact h
  | 3, h => exact h
  | 4, h => exact h
  | 5, h => exact h
  | 6, h => obtain ⟨γ, h1, h2⟩ := h; exact ⟨γ, h1, gd_below h2 hb⟩
  | 7, h => exact h
  | 8, h => exact h
  | 9, h => obtain ⟨γ, h1, h2⟩ := h; exact ⟨γ, h1, gd_below h2 hb⟩
  | 10, h => exact h
  | 11, h => exact h
  | 12, h => exact h
  | 13, h => exact h
  | 14, h => exact h
  | 15, h => exact h
  | 16, h => exact h
  | 17, h => exact h
  | 18, h => exact h
  | 19, h => obtain ⟨γ, h1, h2⟩ := h; exact ⟨γ, h1, gd_below h2 hb⟩
  | 20, h => exact h
  | 21, h => exact h
  | 22, h => obtain ⟨γ, h1, h2⟩ := h; exact ⟨γ, h1, gd_below h2 hb⟩
  | 23, h => exact h
  | 24, h => exact h
  | 25, h => exact h
  | _ + 26, h => exact h

set_option maxRecDepth 100000 in
set_option maxHeartbeats 2000000 in
theorem region41 (n cap k i G g g2 b off lg lk C1 Ck : Nat) (Ak : Option Addr) (lt : Bool) (t : ByteArray) (Q : Exit → Act → World → Prop) (t0 : Array Value) (w0 : World) (ht : t0.size = 193)
    (hs5 : t0.getD 5 undef = .slice (some ⟨G, 0, none⟩) n n) (hs9 : t0.getD 14 undef = .int .i64 (k : Nat)) (hs10 : t0.getD 15 undef = .int .i64 (i : Nat)) (hs0 : t0.getD 0 undef = .slice (some ⟨b, off, none⟩) n cap)
    (hkn : k < n) (hig : i < lg) (hlg : lg ≤ C1) (hlt : lt = decide (i < lk)) (hlk : lk ≤ Ck) (hA : lt = true → Ak = some ⟨g2, 0, none⟩) (hlt1 : lt = true)
    (d1 : w0.cell? ⟨G, k, none⟩ = some (.slice (some ⟨g, 0, none⟩) lg C1)) (c1 : w0.cell? ⟨b, off + k, none⟩ = some (.slice Ak lk Ck))
    (h1 : ∃ γ, w0.rangeAt g (i) ([.string (t)]) ∧ gd w0 γ k i) (h2 : lt = true → ∃ γ, w0.rangeAt g2 (i) ([.string (t)]) ∧ gd w0 γ k i)
    (cm : ∀ W : World, Calls Tryz.prog 66 #[.int .i64 (k : Nat), .int .i64 (i : Nat)] W fun e w' => ∃ γ, e = .returned ((.string (t))) ∧ gd w' γ k i ∧ Below W.heap.size W w')
    (hQ : ∀ (x : Act) (w : World), Below w0.heap.size w0 w → x.defers = [] → x.tmps.size = 193 → (∀ s, ¬ (167 ≤ s ∧ s ≤ 192) → x.tmps.getD s undef = t0.getD s undef) → x.tmps.getD 192 undef = .bool false → Q .normal x w) :
    (Code.region 41 ops41 true).wp Tryz.prog Q { tmps := t0, defers := [] } w0 := by
  have hun : ∀ (x : Act), (∀ s, (∀ j, j < ops41.size → s ≠ slot41 j) → x.tmps.getD s undef = t0.getD s undef) → ∀ s, ¬ (167 ≤ s ∧ s ≤ 192) → x.tmps.getD s undef = t0.getD s undef := by
    intro x h s hs
    refine h s (fun j hj => ?_)
    have hj' : j < 26 := hj
    unfold slot41
    omega
  refine wp_region_inv (by kernel_rfl) slot41 (val41 n cap k i G g g2 b off lg lk C1 Ck Ak lt t) t0 w0 ?_ ?_ ?_ (val41_below n cap k i G g g2 b off lg lk C1 Ck Ak lt t) ?_ ?_
  · intro j o ho
    have hj : j < 26 := (Array.getElem?_eq_some_iff.1 ho).1
    refine ⟨?_, by rw [ht]; unfold slot41; omega⟩
    match j, ho with
    | 0, ho => cases ho; rfl
    | 1, ho => cases ho; rfl
    | 2, ho => cases ho; rfl
    | 3, ho => cases ho; rfl
    | 4, ho => cases ho; rfl
    | 5, ho => cases ho; rfl
    | 6, ho => cases ho; rfl
    | 7, ho => cases ho; rfl
    | 8, ho => cases ho; rfl
    | 9, ho => cases ho; rfl
    | 10, ho => cases ho; rfl
    | 11, ho => cases ho; rfl
    | 12, ho => cases ho; rfl
    | 13, ho => cases ho; rfl
    | 14, ho => cases ho; rfl
    | 15, ho => cases ho; rfl
    | 16, ho => cases ho; rfl
    | 17, ho => cases ho; rfl
    | 18, ho => cases ho; rfl
    | 19, ho => cases ho; rfl
    | 20, ho => cases ho; rfl
    | 21, ho => cases ho; rfl
    | 22, ho => cases ho; rfl
    | 23, ho => cases ho; rfl
    | 24, ho => cases ho; rfl
    | 25, ho => cases ho; rfl
    | k + 26, _ => omega
  · intro i j hi hj h
    unfold slot41 at h
    omega
  · intro j o ho
    have hj : j < 26 := (Array.getElem?_eq_some_iff.1 ho).1
    match j, ho with
    | 0, ho => cases ho; decide
    | 1, ho => cases ho; decide
    | 2, ho => cases ho; decide
    | 3, ho => cases ho; decide
    | 4, ho => cases ho; decide
    | 5, ho => cases ho; decide
    | 6, ho => cases ho; decide
    | 7, ho => cases ho; decide
    | 8, ho => cases ho; decide
    | 9, ho => cases ho; decide
    | 10, ho => cases ho; decide
    | 11, ho => cases ho; decide
    | 12, ho => cases ho; decide
    | 13, ho => cases ho; decide
    | 14, ho => cases ho; decide
    | 15, ho => cases ho; decide
    | 16, ho => cases ho; decide
    | 17, ho => cases ho; decide
    | 18, ho => cases ho; decide
    | 19, ho => cases ho; decide
    | 20, ho => cases ho; decide
    | 21, ho => cases ho; decide
    | 22, ho => cases ho; decide
    | 23, ho => cases ho; decide
    | 24, ho => cases ho; decide
    | 25, ho => cases ho; decide
    | k + 26, _ => omega
  · intro j o ho x w hB hdef hsz hs hdeps
    have hs' := hun x hs
    have u5 := (hs' 5 (by omega)).trans hs5
    have u9 := (hs' 14 (by omega)).trans hs9
    have u10 := (hs' 15 (by omega)).trans hs10
    have u0 := (hs' 0 (by omega)).trans hs0
    have hj : j < 26 := (Array.getElem?_eq_some_iff.1 ho).1
    have hkI : (k : Int) < (n : Int) := by omega
    have hk0 : (0 : Int) ≤ (k : Int) := by omega
    have hiI : (i : Int) < (lg : Int) := by omega
    have hi0 : (0 : Int) ≤ (i : Int) := by omega
    have HLT := hide hlt
    clear hs hs' hun hs0 hs5 hs9 hs10 hQ hsz ht hlt
    simp only [Array.getD_eq_getD_getElem?] at u0 u5 u9 u10
    match j, ho with
    | 0, ho =>
      have e : o = { dst := some 167, op := Op.move (Operand.tmp 0), type := 38, pos := "apart.go:286", after := #[], guard := none } := (Option.some.inj ho).symm
      subst e
      clear hdeps
      refine wpOp_step ho (fun K hK => ?_)
      clear ho
      go_simp
      exact hK _ _ ⟨_, act_put x hdef _ _, rfl, Below.refl _ _⟩
    | 1, ho =>
      have e : o = { dst := some 168, op := Op.move (Operand.tmp 14), type := 3, pos := "apart.go:286", after := #[], guard := none } := (Option.some.inj ho).symm
      subst e
      clear hdeps
      refine wpOp_step ho (fun K hK => ?_)
      clear ho
      go_simp
      exact hK _ _ ⟨_, act_put x hdef _ _, rfl, Below.refl _ _⟩
    | 2, ho =>
      have e : o = { dst := some 169, op := Op.indexAddr 38 (Operand.tmp 167) (Operand.tmp 168), type := 0, pos := "apart.go:286", after := #[{ on := 0, ground := Ground.data }, { on := 1, ground := Ground.data }], guard := none } := (Option.some.inj ho).symm
      subst e
      have q0 : x.tmps.getD 167 undef = .slice (some ⟨b, off, none⟩) n cap := hdeps { on := 0, ground := Ground.data } (by simp) rfl
      have q1 : x.tmps.getD 168 undef = .int .i64 (k : Nat) := hdeps { on := 1, ground := Ground.data } (by simp) rfl
      simp only [Array.getD_eq_getD_getElem?] at q0 q1
      clear hdeps
      refine wpOp_step ho (fun K hK => ?_)
      clear ho
      go_simp
      exact hK _ _ ⟨_, act_put x hdef _ _, rfl, Below.refl _ _⟩
    | 3, ho =>
      have e : o = { dst := some 170, op := Op.load 29 (Operand.tmp 169), type := 29, pos := "apart.go:286", after := #[{ on := 2, ground := Ground.data }], guard := none } := (Option.some.inj ho).symm
      subst e
      have q2 : x.tmps.getD 169 undef = .pointer (some ⟨b, off + k, none⟩) := hdeps { on := 2, ground := Ground.data } (by simp) rfl
      simp only [Array.getD_eq_getD_getElem?] at q2
      clear hdeps
      have c1w := cell_thru c1 hB
      rw [hA hlt1] at c1w
      refine wpOp_step ho (fun K hK => ?_)
      clear ho
      go_simp
      exact hK _ _ ⟨_, act_put x hdef _ _, rfl, Below.refl _ _⟩
    | 4, ho =>
      have e : o = { dst := some 171, op := Op.move (Operand.tmp 15), type := 3, pos := "apart.go:286", after := #[], guard := none } := (Option.some.inj ho).symm
      subst e
      clear hdeps
      refine wpOp_step ho (fun K hK => ?_)
      clear ho
      go_simp
      exact hK _ _ ⟨_, act_put x hdef _ _, rfl, Below.refl _ _⟩
    | 5, ho =>
      have e : o = { dst := some 172, op := Op.indexAddr 29 (Operand.tmp 170) (Operand.tmp 171), type := 0, pos := "apart.go:286", after := #[{ on := 3, ground := Ground.data }, { on := 4, ground := Ground.data }], guard := none } := (Option.some.inj ho).symm
      subst e
      have q3 : x.tmps.getD 170 undef = .slice (some ⟨g2, 0, none⟩) lk Ck := hdeps { on := 3, ground := Ground.data } (by simp) rfl
      have q4 : x.tmps.getD 171 undef = .int .i64 (i : Nat) := hdeps { on := 4, ground := Ground.data } (by simp) rfl
      simp only [Array.getD_eq_getD_getElem?] at q3 q4
      clear hdeps
      have hil : i < lk := of_decide_eq_true (HLT.out.symm.trans hlt1)
      have hilI : (i : Int) < (lk : Int) := by omega
      refine wpOp_step ho (fun K hK => ?_)
      clear ho
      go_simp
      exact hK _ _ ⟨_, act_put x hdef _ _, rfl, Below.refl _ _⟩
    | 6, ho =>
      have e : o = { dst := some 173, op := Op.load 9 (Operand.tmp 172), type := 9, pos := "apart.go:286", after := #[{ on := 5, ground := Ground.data }], guard := none } := (Option.some.inj ho).symm
      subst e
      have q5 : x.tmps.getD 172 undef = .pointer (some ⟨g2, i, none⟩) := hdeps { on := 5, ground := Ground.data } (by simp) rfl
      simp only [Array.getD_eq_getD_getElem?] at q5
      clear hdeps
      obtain ⟨γ, hr, hg⟩ := h2 hlt1
      have k0 : w.cell? ⟨g2, i, none⟩ = some (.string (t)) := range_thru hr hB 0 _ rfl
      have hg2 := gd_below hg hB
      clear hr hg
      refine wpOp_step ho (fun K hK => ?_)
      clear ho
      go_simp
      exact hK _ _ ⟨_, act_put x hdef _ _, ⟨γ, rfl, hg2⟩, Below.refl _ _⟩
    | 7, ho =>
      have e : o = { dst := some 174, op := Op.move (Operand.tmp 14), type := 3, pos := "apart.go:286", after := #[], guard := none } := (Option.some.inj ho).symm
      subst e
      clear hdeps
      refine wpOp_step ho (fun K hK => ?_)
      clear ho
      go_simp
      exact hK _ _ ⟨_, act_put x hdef _ _, rfl, Below.refl _ _⟩
    | 8, ho =>
      have e : o = { dst := some 175, op := Op.move (Operand.tmp 15), type := 3, pos := "apart.go:286", after := #[], guard := none } := (Option.some.inj ho).symm
      subst e
      clear hdeps
      refine wpOp_step ho (fun K hK => ?_)
      clear ho
      go_simp
      exact hK _ _ ⟨_, act_put x hdef _ _, rfl, Below.refl _ _⟩
    | 9, ho =>
      have e : o = { dst := some 176, op := Op.call { callee := Callee.value (Operand.func 66), args := #[Operand.tmp 174, Operand.tmp 175], argTypes := #[3, 3] }, type := 9, pos := "apart.go:286", after := #[{ on := 7, ground := Ground.data }, { on := 8, ground := Ground.data }], guard := none } := (Option.some.inj ho).symm
      subst e
      have q7 : x.tmps.getD 174 undef = .int .i64 (k : Nat) := hdeps { on := 7, ground := Ground.data } (by simp) rfl
      have q8 : x.tmps.getD 175 undef = .int .i64 (i : Nat) := hdeps { on := 8, ground := Ground.data } (by simp) rfl
      simp only [Array.getD_eq_getD_getElem?] at q7 q8
      clear hdeps
      refine wpOp_step ho (fun K hK => ?_)
      clear ho
      go_simp
      refine (cm w).mono ?_
      rintro e w' ⟨γ, rfl, hg, hb⟩
      exact hK _ _ ⟨_, act_put x hdef _ _, ⟨γ, rfl, hg⟩, hb⟩
    | 10, ho =>
      have e : o = { dst := some 177, op := Op.binOp BinOp.eql 9 (Operand.tmp 173) (Operand.tmp 176) 9, type := 4, pos := "apart.go:286", after := #[{ on := 6, ground := Ground.data }, { on := 9, ground := Ground.data }], guard := none } := (Option.some.inj ho).symm
      subst e
      obtain ⟨γ6, q6, p6⟩ := hdeps { on := 6, ground := Ground.data } (by simp) rfl
      have q6 : x.tmps.getD 173 undef = (.string (t)) := q6
      obtain ⟨γ9, q9, p9⟩ := hdeps { on := 9, ground := Ground.data } (by simp) rfl
      have q9 : x.tmps.getD 176 undef = (.string (t)) := q9
      simp only [Array.getD_eq_getD_getElem?] at q6 q9
      clear hdeps
      refine wpOp_step ho (fun K hK => ?_)
      clear ho
      go_simp
      exact hK _ _ ⟨_, act_put x hdef _ _, rfl, Below.refl _ _⟩
    | 11, ho =>
      have e : o = { dst := some 178, op := Op.unOp UnOp.not 4 (Operand.tmp 177), type := 4, pos := "apart.go:286", after := #[{ on := 10, ground := Ground.data }], guard := none } := (Option.some.inj ho).symm
      subst e
      have q10 : x.tmps.getD 177 undef = .bool true := hdeps { on := 10, ground := Ground.data } (by simp) rfl
      simp only [Array.getD_eq_getD_getElem?] at q10
      clear hdeps
      refine wpOp_step ho (fun K hK => ?_)
      clear ho
      go_simp
      exact hK _ _ ⟨_, act_put x hdef _ _, rfl, Below.refl _ _⟩
    | 12, ho =>
      have e : o = { dst := some 179, op := Op.move (Operand.tmp 178), type := 4, pos := "apart.go:286", after := #[{ on := 11, ground := Ground.data }, { on := 9, ground := Ground.chain }], guard := none } := (Option.some.inj ho).symm
      subst e
      have q11 : x.tmps.getD 178 undef = .bool false := hdeps { on := 11, ground := Ground.data } (by simp) rfl
      simp only [Array.getD_eq_getD_getElem?] at q11
      clear hdeps
      refine wpOp_step ho (fun K hK => ?_)
      clear ho
      go_simp
      exact hK _ _ ⟨_, act_put x hdef _ _, rfl, Below.refl _ _⟩
    | 13, ho =>
      have e : o = { dst := some 180, op := Op.move (Operand.tmp 5), type := 38, pos := "apart.go:286", after := #[{ on := 12, ground := Ground.guard }], guard := some (12, false) } := (Option.some.inj ho).symm
      subst e
      have q12 : x.tmps.getD 179 undef = .bool false := hdeps { on := 12, ground := Ground.guard } (by simp) rfl
      have e12 : (ops41[12]?.bind fun x => x.dst) = some 179 := rfl
      have g12 := get_some q12 (fun h => by cases h)
      simp only [Array.getD_eq_getD_getElem?] at q12
      clear hdeps
      refine wpOp_step ho (fun K hK => ?_)
      clear ho
      go_simp
      exact hK _ _ ⟨_, act_put x hdef _ _, rfl, Below.refl _ _⟩
    | 14, ho =>
      have e : o = { dst := some 181, op := Op.move (Operand.tmp 14), type := 3, pos := "apart.go:286", after := #[{ on := 12, ground := Ground.guard }], guard := some (12, false) } := (Option.some.inj ho).symm
      subst e
      have q12 : x.tmps.getD 179 undef = .bool false := hdeps { on := 12, ground := Ground.guard } (by simp) rfl
      have e12 : (ops41[12]?.bind fun x => x.dst) = some 179 := rfl
      have g12 := get_some q12 (fun h => by cases h)
      simp only [Array.getD_eq_getD_getElem?] at q12
      clear hdeps
      refine wpOp_step ho (fun K hK => ?_)
      clear ho
      go_simp
      exact hK _ _ ⟨_, act_put x hdef _ _, rfl, Below.refl _ _⟩
    | 15, ho =>
      have e : o = { dst := some 182, op := Op.indexAddr 38 (Operand.tmp 180) (Operand.tmp 181), type := 0, pos := "apart.go:286", after := #[{ on := 13, ground := Ground.data }, { on := 14, ground := Ground.data }, { on := 12, ground := Ground.guard }], guard := some (12, false) } := (Option.some.inj ho).symm
      subst e
      have q13 : x.tmps.getD 180 undef = .slice (some ⟨G, 0, none⟩) n n := hdeps { on := 13, ground := Ground.data } (by simp) rfl
      have q14 : x.tmps.getD 181 undef = .int .i64 (k : Nat) := hdeps { on := 14, ground := Ground.data } (by simp) rfl
      have q12 : x.tmps.getD 179 undef = .bool false := hdeps { on := 12, ground := Ground.guard } (by simp) rfl
      have e12 : (ops41[12]?.bind fun x => x.dst) = some 179 := rfl
      have g12 := get_some q12 (fun h => by cases h)
      simp only [Array.getD_eq_getD_getElem?] at q13 q14 q12
      clear hdeps
      refine wpOp_step ho (fun K hK => ?_)
      clear ho
      go_simp
      exact hK _ _ ⟨_, act_put x hdef _ _, rfl, Below.refl _ _⟩
    | 16, ho =>
      have e : o = { dst := some 183, op := Op.load 29 (Operand.tmp 182), type := 29, pos := "apart.go:286", after := #[{ on := 15, ground := Ground.data }, { on := 12, ground := Ground.guard }], guard := some (12, false) } := (Option.some.inj ho).symm
      subst e
      have q15 : x.tmps.getD 182 undef = .pointer (some ⟨G, k, none⟩) := hdeps { on := 15, ground := Ground.data } (by simp) rfl
      have q12 : x.tmps.getD 179 undef = .bool false := hdeps { on := 12, ground := Ground.guard } (by simp) rfl
      have e12 : (ops41[12]?.bind fun x => x.dst) = some 179 := rfl
      have g12 := get_some q12 (fun h => by cases h)
      simp only [Array.getD_eq_getD_getElem?] at q15 q12
      clear hdeps
      have d1w := cell_thru d1 hB
      refine wpOp_step ho (fun K hK => ?_)
      clear ho
      go_simp
      exact hK _ _ ⟨_, act_put x hdef _ _, rfl, Below.refl _ _⟩
    | 17, ho =>
      have e : o = { dst := some 184, op := Op.move (Operand.tmp 15), type := 3, pos := "apart.go:286", after := #[{ on := 12, ground := Ground.guard }], guard := some (12, false) } := (Option.some.inj ho).symm
      subst e
      have q12 : x.tmps.getD 179 undef = .bool false := hdeps { on := 12, ground := Ground.guard } (by simp) rfl
      have e12 : (ops41[12]?.bind fun x => x.dst) = some 179 := rfl
      have g12 := get_some q12 (fun h => by cases h)
      simp only [Array.getD_eq_getD_getElem?] at q12
      clear hdeps
      refine wpOp_step ho (fun K hK => ?_)
      clear ho
      go_simp
      exact hK _ _ ⟨_, act_put x hdef _ _, rfl, Below.refl _ _⟩
    | 18, ho =>
      have e : o = { dst := some 185, op := Op.indexAddr 29 (Operand.tmp 183) (Operand.tmp 184), type := 0, pos := "apart.go:286", after := #[{ on := 16, ground := Ground.data }, { on := 17, ground := Ground.data }, { on := 12, ground := Ground.guard }], guard := some (12, false) } := (Option.some.inj ho).symm
      subst e
      have q16 : x.tmps.getD 183 undef = .slice (some ⟨g, 0, none⟩) lg C1 := hdeps { on := 16, ground := Ground.data } (by simp) rfl
      have q17 : x.tmps.getD 184 undef = .int .i64 (i : Nat) := hdeps { on := 17, ground := Ground.data } (by simp) rfl
      have q12 : x.tmps.getD 179 undef = .bool false := hdeps { on := 12, ground := Ground.guard } (by simp) rfl
      have e12 : (ops41[12]?.bind fun x => x.dst) = some 179 := rfl
      have g12 := get_some q12 (fun h => by cases h)
      simp only [Array.getD_eq_getD_getElem?] at q16 q17 q12
      clear hdeps
      refine wpOp_step ho (fun K hK => ?_)
      clear ho
      go_simp
      exact hK _ _ ⟨_, act_put x hdef _ _, rfl, Below.refl _ _⟩
    | 19, ho =>
      have e : o = { dst := some 186, op := Op.load 9 (Operand.tmp 185), type := 9, pos := "apart.go:286", after := #[{ on := 18, ground := Ground.data }, { on := 12, ground := Ground.guard }], guard := some (12, false) } := (Option.some.inj ho).symm
      subst e
      have q18 : x.tmps.getD 185 undef = .pointer (some ⟨g, i, none⟩) := hdeps { on := 18, ground := Ground.data } (by simp) rfl
      have q12 : x.tmps.getD 179 undef = .bool false := hdeps { on := 12, ground := Ground.guard } (by simp) rfl
      have e12 : (ops41[12]?.bind fun x => x.dst) = some 179 := rfl
      have g12 := get_some q12 (fun h => by cases h)
      simp only [Array.getD_eq_getD_getElem?] at q18 q12
      clear hdeps
      obtain ⟨γ, hr, hg⟩ := h1
      have k0 : w.cell? ⟨g, i, none⟩ = some (.string (t)) := range_thru hr hB 0 _ rfl
      have hg2 := gd_below hg hB
      clear hr hg
      refine wpOp_step ho (fun K hK => ?_)
      clear ho
      go_simp
      exact hK _ _ ⟨_, act_put x hdef _ _, ⟨γ, rfl, hg2⟩, Below.refl _ _⟩
    | 20, ho =>
      have e : o = { dst := some 187, op := Op.move (Operand.tmp 14), type := 3, pos := "apart.go:286", after := #[{ on := 12, ground := Ground.guard }], guard := some (12, false) } := (Option.some.inj ho).symm
      subst e
      have q12 : x.tmps.getD 179 undef = .bool false := hdeps { on := 12, ground := Ground.guard } (by simp) rfl
      have e12 : (ops41[12]?.bind fun x => x.dst) = some 179 := rfl
      have g12 := get_some q12 (fun h => by cases h)
      simp only [Array.getD_eq_getD_getElem?] at q12
      clear hdeps
      refine wpOp_step ho (fun K hK => ?_)
      clear ho
      go_simp
      exact hK _ _ ⟨_, act_put x hdef _ _, rfl, Below.refl _ _⟩
    | 21, ho =>
      have e : o = { dst := some 188, op := Op.move (Operand.tmp 15), type := 3, pos := "apart.go:286", after := #[{ on := 12, ground := Ground.guard }], guard := some (12, false) } := (Option.some.inj ho).symm
      subst e
      have q12 : x.tmps.getD 179 undef = .bool false := hdeps { on := 12, ground := Ground.guard } (by simp) rfl
      have e12 : (ops41[12]?.bind fun x => x.dst) = some 179 := rfl
      have g12 := get_some q12 (fun h => by cases h)
      simp only [Array.getD_eq_getD_getElem?] at q12
      clear hdeps
      refine wpOp_step ho (fun K hK => ?_)
      clear ho
      go_simp
      exact hK _ _ ⟨_, act_put x hdef _ _, rfl, Below.refl _ _⟩
    | 22, ho =>
      have e : o = { dst := some 189, op := Op.call { callee := Callee.value (Operand.func 66), args := #[Operand.tmp 187, Operand.tmp 188], argTypes := #[3, 3] }, type := 9, pos := "apart.go:286", after := #[{ on := 20, ground := Ground.data }, { on := 21, ground := Ground.data }, { on := 12, ground := Ground.chain }, { on := 12, ground := Ground.guard }], guard := some (12, false) } := (Option.some.inj ho).symm
      subst e
      have q20 : x.tmps.getD 187 undef = .int .i64 (k : Nat) := hdeps { on := 20, ground := Ground.data } (by simp) rfl
      have q21 : x.tmps.getD 188 undef = .int .i64 (i : Nat) := hdeps { on := 21, ground := Ground.data } (by simp) rfl
      have q12 : x.tmps.getD 179 undef = .bool false := hdeps { on := 12, ground := Ground.guard } (by simp) rfl
      have e12 : (ops41[12]?.bind fun x => x.dst) = some 179 := rfl
      have g12 := get_some q12 (fun h => by cases h)
      simp only [Array.getD_eq_getD_getElem?] at q20 q21 q12
      clear hdeps
      refine wpOp_step ho (fun K hK => ?_)
      clear ho
      go_simp
      refine (cm w).mono ?_
      rintro e w' ⟨γ, rfl, hg, hb⟩
      exact hK _ _ ⟨_, act_put x hdef _ _, ⟨γ, rfl, hg⟩, hb⟩
    | 23, ho =>
      have e : o = { dst := some 190, op := Op.binOp BinOp.eql 9 (Operand.tmp 186) (Operand.tmp 189) 9, type := 4, pos := "apart.go:286", after := #[{ on := 19, ground := Ground.data }, { on := 22, ground := Ground.data }, { on := 12, ground := Ground.guard }], guard := some (12, false) } := (Option.some.inj ho).symm
      subst e
      obtain ⟨γ19, q19, p19⟩ := hdeps { on := 19, ground := Ground.data } (by simp) rfl
      have q19 : x.tmps.getD 186 undef = (.string (t)) := q19
      obtain ⟨γ22, q22, p22⟩ := hdeps { on := 22, ground := Ground.data } (by simp) rfl
      have q22 : x.tmps.getD 189 undef = (.string (t)) := q22
      have q12 : x.tmps.getD 179 undef = .bool false := hdeps { on := 12, ground := Ground.guard } (by simp) rfl
      have e12 : (ops41[12]?.bind fun x => x.dst) = some 179 := rfl
      have g12 := get_some q12 (fun h => by cases h)
      simp only [Array.getD_eq_getD_getElem?] at q19 q22 q12
      clear hdeps
      refine wpOp_step ho (fun K hK => ?_)
      clear ho
      go_simp
      exact hK _ _ ⟨_, act_put x hdef _ _, rfl, Below.refl _ _⟩
    | 24, ho =>
      have e : o = { dst := some 191, op := Op.unOp UnOp.not 4 (Operand.tmp 190), type := 4, pos := "apart.go:286", after := #[{ on := 23, ground := Ground.data }, { on := 12, ground := Ground.guard }], guard := some (12, false) } := (Option.some.inj ho).symm
      subst e
      have q23 : x.tmps.getD 190 undef = .bool true := hdeps { on := 23, ground := Ground.data } (by simp) rfl
      have q12 : x.tmps.getD 179 undef = .bool false := hdeps { on := 12, ground := Ground.guard } (by simp) rfl
      have e12 : (ops41[12]?.bind fun x => x.dst) = some 179 := rfl
      have g12 := get_some q12 (fun h => by cases h)
      simp only [Array.getD_eq_getD_getElem?] at q23 q12
      clear hdeps
      refine wpOp_step ho (fun K hK => ?_)
      clear ho
      go_simp
      exact hK _ _ ⟨_, act_put x hdef _ _, rfl, Below.refl _ _⟩
    | 25, ho =>
      have e : o = { dst := some 192, op := Op.pick (Operand.tmp 179) (Operand.const (Value.bool true)) (Operand.tmp 191), type := 4, pos := "apart.go:286", after := #[{ on := 12, ground := Ground.data }, { on := 24, ground := Ground.data }], guard := none } := (Option.some.inj ho).symm
      subst e
      have q12 : x.tmps.getD 179 undef = .bool false := hdeps { on := 12, ground := Ground.data } (by simp) rfl
      have q24 : x.tmps.getD 191 undef = .bool false := hdeps { on := 24, ground := Ground.data } (by simp) rfl
      simp only [Array.getD_eq_getD_getElem?] at q12 q24
      clear hdeps
      refine wpOp_step ho (fun K hK => ?_)
      clear ho
      go_simp
      exact hK _ _ ⟨_, act_put x hdef _ _, rfl, Below.refl _ _⟩
    | k + 26, _ => omega
  · intro x w hB hdef hsz hs hv
    exact hQ x w hB hdef (hsz.trans ht) (hun x hs) (hv 25 (by decide))
set_option maxRecDepth 100000 in
theorem region41_lit (n cap k i G g g2 b off lg lk C1 Ck : Nat) (Ak : Option Addr) (lt : Bool) (t : ByteArray) (Q : Exit → Act → World → Prop) (t0 : Array Value) (w0 : World) (ht : t0.size = 193)
    (hs5 : t0.getD 5 undef = .slice (some ⟨G, 0, none⟩) n n) (hs9 : t0.getD 14 undef = .int .i64 (k : Nat)) (hs10 : t0.getD 15 undef = .int .i64 (i : Nat)) (hs0 : t0.getD 0 undef = .slice (some ⟨b, off, none⟩) n cap)
    (hkn : k < n) (hig : i < lg) (hlg : lg ≤ C1) (hlt : lt = decide (i < lk)) (hlk : lk ≤ Ck) (hA : lt = true → Ak = some ⟨g2, 0, none⟩) (hlt1 : lt = true)
    (d1 : w0.cell? ⟨G, k, none⟩ = some (.slice (some ⟨g, 0, none⟩) lg C1)) (c1 : w0.cell? ⟨b, off + k, none⟩ = some (.slice Ak lk Ck))
    (h1 : ∃ γ, w0.rangeAt g (i) ([.string (t)]) ∧ gd w0 γ k i) (h2 : lt = true → ∃ γ, w0.rangeAt g2 (i) ([.string (t)]) ∧ gd w0 γ k i)
    (cm : ∀ W : World, Calls Tryz.prog 66 #[.int .i64 (k : Nat), .int .i64 (i : Nat)] W fun e w' => ∃ γ, e = .returned ((.string (t))) ∧ gd w' γ k i ∧ Below W.heap.size W w')
    (hQ : ∀ (vs : Nat → Value) (w : World), Below w0.heap.size w0 w → vs 192 = .bool false → Q .normal { tmps := [167, 168, 169, 170, 171, 172, 173, 174, 175, 176, 177, 178, 179, 180, 181, 182, 183, 184, 185, 186, 187, 188, 189, 190, 191, 192].foldl (fun y d => y.setIfInBounds d (vs d)) t0, defers := [] } w) :
    (Code.region 41 ops41 true).wp Tryz.prog Q { tmps := t0, defers := [] } w0 := by
  refine region41 n cap k i G g g2 b off lg lk C1 Ck Ak lt t Q t0 w0 ht hs5 hs9 hs10 hs0 hkn hig hlg hlt hlk hA hlt1 d1 c1 h1 h2 cm ?_
  intro x w hB hdef hsz hs h10
  have hx := frame_sets x.tmps t0 (by omega) [167, 168, 169, 170, 171, 172, 173, 174, 175, 176, 177, 178, 179, 180, 181, 182, 183, 184, 185, 186, 187, 188, 189, 190, 191, 192] (fun s hn => hs s (fun e => hn (by simp only [List.mem_cons, List.mem_nil_iff, or_false]; omega)))
  have hq := hQ (fun d => x.tmps.getD d undef) w hB h10
  obtain ⟨T, Df⟩ := x
  dsimp only at hx hdef hq
  subst hdef
  rw [← hx] at hq
  exact hq
end Go.Proofs.YtpdlapnliiengaaGreat.TextFlat
