/-
  WireEnds's region that draws its order: bytes put together.
-/
import Derived.Test.YtpnphijfdcimlaaEndsL
import Derived.Test.YtpnphijfdcimlaaU8
import Derived.Test.YtpnphijfdcimlaaRegion
namespace Go.Proofs.Ytpnphijfdcimlaa
open Go.RowKit

def ops23 : Array Oper :=
  #[{ dst := some 121, op := Op.buildSlice 25 0 #[], type := 25, pos := "law.go:145", after := #[], guard := none },
    { dst := some 122, op := Op.move (Operand.tmp 8), type := 25, pos := "law.go:145", after := #[], guard := none },
    { dst := some 123, op := Op.call { callee := Callee.builtin Builtin.append, args := #[Operand.tmp 121, Operand.tmp 122], argTypes := #[25, 25] }, type := 25, pos := "law.go:145", after := #[{ on := 0, ground := Ground.data }, { on := 1, ground := Ground.data }], guard := none },
    { dst := some 124, op := Op.buildSlice 25 4 #[(0, Operand.const (Value.int IntKind.u8 0)), (1, Operand.const (Value.int IntKind.u8 1)), (2, Operand.const (Value.int IntKind.u8 32)), (3, Operand.const (Value.int IntKind.u8 127))], type := 25, pos := "law.go:145", after := #[], guard := none },
    { dst := some 125, op := Op.move (Operand.tmp 9), type := 3, pos := "law.go:145", after := #[], guard := none },
    { dst := some 126, op := Op.indexAddr 25 (Operand.tmp 124) (Operand.tmp 125), type := 0, pos := "law.go:145", after := #[{ on := 3, ground := Ground.data }, { on := 4, ground := Ground.data }], guard := none },
    { dst := some 127, op := Op.load 5 (Operand.tmp 126), type := 5, pos := "law.go:145", after := #[{ on := 5, ground := Ground.data }], guard := none },
    { dst := some 128, op := Op.buildSlice 25 2 #[(0, Operand.tmp 127), (1, Operand.const (Value.int IntKind.u8 5))], type := 25, pos := "law.go:145", after := #[{ on := 6, ground := Ground.data }], guard := none },
    { dst := some 129, op := Op.call { callee := Callee.builtin Builtin.append, args := #[Operand.tmp 123, Operand.tmp 128], argTypes := #[25, 25] }, type := 25, pos := "law.go:145", after := #[{ on := 2, ground := Ground.data }, { on := 7, ground := Ground.data }, { on := 2, ground := Ground.chain }], guard := none },
    { dst := some 10, op := Op.assign (Operand.tmp 129), type := 25, pos := "law.go:145", after := #[{ on := 8, ground := Ground.data }, { on := 8, ground := Ground.chain }, { on := 0, ground := Ground.phase }, { on := 1, ground := Ground.phase }, { on := 2, ground := Ground.phase }, { on := 3, ground := Ground.phase }, { on := 4, ground := Ground.phase }, { on := 5, ground := Ground.phase }, { on := 6, ground := Ground.phase }, { on := 7, ground := Ground.phase }, { on := 8, ground := Ground.phase }], guard := none }]
def slot23 (i : Nat) : Nat := if i = 9 then 10 else 121 + i
/-- What each of them leaves in its slot. -/
def val23 (B z k j : Nat) : Nat → Value → World → Prop
  | 0, v, w => ∃ g, v = .slice (some ⟨g, 0, none⟩) 0 0 ∧ B ≤ g ∧ U8 w g 0
  | 1, v, _ => v = .slice (some ⟨z, 0, none⟩) k 20
  | 2, v, w => ∃ g C, v = .slice (some ⟨g, 0, none⟩) k C ∧ B ≤ g ∧ U8 w g C ∧ k ≤ C ∧ C ≤ 9223372036854775807
  | 3, v, w => ∃ g, v = .slice (some ⟨g, 0, none⟩) 4 4 ∧ U8 w g 4
  | 4, v, _ => v = .int .i64 (j : Nat)
  | 5, v, w => ∃ g, v = .pointer (some ⟨g, j, none⟩) ∧ U8 w g 4
  | 6, v, _ => ∃ x : Nat, x < 256 ∧ v = .int .u8 (x : Nat)
  | 7, v, w => ∃ g, v = .slice (some ⟨g, 0, none⟩) 2 2 ∧ U8 w g 2
  | _, v, w => ∃ g C, v = .slice (some ⟨g, 0, none⟩) (k + 2) C ∧ U8 w g C ∧ k + 2 ≤ C ∧ C ≤ 9223372036854775807
theorem val23_rel (B z k j : Nat) (w w' : World) (hb : R8 B w w') : ∀ i v, val23 B z k j i v w → val23 B z k j i v w' := by
  intro i v h
  match i, h with
  | 0, h => obtain ⟨g, h1, h2, h3⟩ := h; exact ⟨g, h1, h2, hb.2 _ _ h3⟩
  | 1, h => exact h
  | 2, h => obtain ⟨g, C, h1, h2, h3, h4⟩ := h; exact ⟨g, C, h1, h2, hb.2 _ _ h3, h4⟩
  | 3, h => obtain ⟨g, h1, h2⟩ := h; exact ⟨g, h1, hb.2 _ _ h2⟩
  | 4, h => exact h
  | 5, h => obtain ⟨g, h1, h2⟩ := h; exact ⟨g, h1, hb.2 _ _ h2⟩
  | 6, h => exact h
  | 7, h => obtain ⟨g, h1, h2⟩ := h; exact ⟨g, h1, hb.2 _ _ h2⟩
  | _ + 8, h => obtain ⟨g, C, h1, h2, h3⟩ := h; exact ⟨g, C, h1, hb.2 _ _ h2, h3⟩
theorem act_put (x : Act) (h : x.defers = []) (d : Nat) (v : Value) : ({ tmps := x.tmps.setIfInBounds d v, defers := [] } : Act) = x.put (some d) v := by
  cases x; cases h; rfl
theorem u8_mem {L : List Nat} (h : ∀ b ∈ L, b < 256) : ∀ v ∈ L.map (fun b => Value.int .u8 (b : Nat)), ∃ z : Nat, z < 256 ∧ v = .int .u8 (z : Nat) := lc_mem L h

set_option maxRecDepth 100000 in
set_option maxHeartbeats 1000000 in
theorem region23 (z k j : Nat) (Lk : List Nat) (Q : Exit → Act → World → Prop) (t0 : Array Value) (w0 : World) (n0 : Nat) (ht : t0.size = n0) (hn0 : 131 ≤ n0)
    (h8 : t0.getD 8 undef = .slice (some ⟨z, 0, none⟩) k 20) (h9 : t0.getD 9 undef = .int .i64 (j : Nat)) (hj : j < 4) (hk : k ≤ 20) (hL : Lk.length = k) (hb : BL w0 (some ⟨z, 0, none⟩) Lk)
    (hQ : ∀ (x : Act) (w : World), Below w0.heap.size w0 w → x.defers = [] → x.tmps.size = n0 → (∀ s, s ≠ 10 → ¬ (121 ≤ s ∧ s ≤ 129) → x.tmps.getD s undef = t0.getD s undef) → val23 w0.heap.size z k j 9 (x.tmps.getD 10 undef) w → Q .normal x w) :
    (Code.region 23 ops23 true).wp Try.prog Q { tmps := t0, defers := [] } w0 := by
  have hun : ∀ (x : Act), (∀ s, (∀ j, j < ops23.size → s ≠ slot23 j) → x.tmps.getD s undef = t0.getD s undef) → ∀ s, s ≠ 10 → ¬ (121 ≤ s ∧ s ≤ 129) → x.tmps.getD s undef = t0.getD s undef := by
    intro x h s h6 hs
    refine h s (fun j hj => ?_)
    have hj' : j < 10 := hj
    unfold slot23
    split <;> omega
  refine wp_region_rel (by kernel_rfl) slot23 (R8 w0.heap.size) (val23 w0.heap.size z k j) t0 w0 ?_ ?_ ?_ (R8.drew _ _) (fun _ _ _ h h' => h.trans h') (val23_rel w0.heap.size z k j) ?_ ?_
  · intro i o ho
    have hi : i < 10 := (Array.getElem?_eq_some_iff.1 ho).1
    refine ⟨?_, by rw [ht]; unfold slot23; split <;> omega⟩
    match i, ho with
    | 0, ho => cases ho; rfl
    | 1, ho => cases ho; rfl
    | 2, ho => cases ho; rfl
    | 3, ho => cases ho; rfl
    | 4, ho => cases ho; rfl
    | 5, ho => cases ho; rfl
    | 6, ho => cases ho; rfl
    | 7, ho => cases ho; rfl
    | 8, ho => cases ho; rfl
    | 9, ho => cases ho; rfl
    | k + 10, _ => omega
  · intro i j hi hj h
    have hi' : i < 10 := hi
    have hj' : j < 10 := hj
    unfold slot23 at h
    split at h <;> split at h <;> omega
  · intro i o ho
    have hi : i < 10 := (Array.getElem?_eq_some_iff.1 ho).1
    match i, ho with
    | 0, ho => cases ho; decide
    | 1, ho => cases ho; decide
    | 2, ho => cases ho; decide
    | 3, ho => cases ho; decide
    | 4, ho => cases ho; decide
    | 5, ho => cases ho; decide
    | 6, ho => cases ho; decide
    | 7, ho => cases ho; decide
    | 8, ho => cases ho; decide
    | 9, ho => cases ho; decide
    | k + 10, _ => omega
  · intro i o ho x w hB hdef hsz hs hdeps
    have hs' := hun x hs
    have u8 := (hs' 8 (by omega) (by omega)).trans h8
    have u9 := (hs' 9 (by omega) (by omega)).trans h9
    have hi : i < 10 := (Array.getElem?_eq_some_iff.1 ho).1
    have hBw := hB.1.size
    clear hs hs' hun h8 h9 hQ hsz ht hn0
    simp only [Array.getD_eq_getD_getElem?] at u8 u9
    match i, ho with
    | 0, ho =>
      have e : o = { dst := some 121, op := Op.buildSlice 25 0 #[], type := 25, pos := "law.go:145", after := #[], guard := none } := (Option.some.inj ho).symm
      subst e
      clear hdeps
      refine wpOp_step ho (fun K hK => ?_)
      clear ho
      go_simp
      exact hK _ _ ⟨_, act_put x hdef _ _, ⟨_, rfl, hBw, u8_lit w _ 0 _ rfl rfl (fun v hv => by cases hv)⟩, R8.alloc hBw _⟩
    | 1, ho =>
      have e : o = { dst := some 122, op := Op.move (Operand.tmp 8), type := 25, pos := "law.go:145", after := #[], guard := none } := (Option.some.inj ho).symm
      subst e
      clear hdeps
      refine wpOp_step ho (fun K hK => ?_)
      clear ho
      go_simp
      exact hK _ _ ⟨_, act_put x hdef _ _, rfl, R8.refl _ _⟩
    | 2, ho =>
      have e : o = { dst := some 123, op := Op.call { callee := Callee.builtin Builtin.append, args := #[Operand.tmp 121, Operand.tmp 122], argTypes := #[25, 25] }, type := 25, pos := "law.go:145", after := #[{ on := 0, ground := Ground.data }, { on := 1, ground := Ground.data }], guard := none } := (Option.some.inj ho).symm
      subst e
      obtain ⟨g, q0, hg, hu⟩ := hdeps { on := 0, ground := Ground.data } (by simp) rfl
      have q0 : x.tmps.getD 121 undef = .slice (some ⟨g, 0, none⟩) 0 0 := q0
      have q1 : x.tmps.getD 122 undef = .slice (some ⟨z, 0, none⟩) k 20 := hdeps { on := 1, ground := Ground.data } (by simp) rfl
      clear hdeps
      refine wpOp_step ho (fun K hK => ?_)
      clear ho
      refine step_append_u8 w rfl (.tmp 121) (.tmp 122) rfl rfl g 0 0 q0 hu (Nat.le_refl _) (by omega) ⟨z, 0, none⟩ k 20 q1 Lk hL hb.lt ((hb.below hB.1).news _ rfl) (by omega) ?_
      intro g' C' w' a1 a2 a3 a4 a5
      rw [Nat.zero_add] at a2 ⊢
      exact hK _ _ ⟨_, rfl, ⟨g', C', rfl, by omega, a1, a2, a3⟩, a5 _ hg hBw⟩
    | 3, ho =>
      have e : o = { dst := some 124, op := Op.buildSlice 25 4 #[(0, Operand.const (Value.int IntKind.u8 0)), (1, Operand.const (Value.int IntKind.u8 1)), (2, Operand.const (Value.int IntKind.u8 32)), (3, Operand.const (Value.int IntKind.u8 127))], type := 25, pos := "law.go:145", after := #[], guard := none } := (Option.some.inj ho).symm
      subst e
      clear hdeps
      refine wpOp_step ho (fun K hK => ?_)
      clear ho
      go_simp
      exact hK _ _ ⟨_, act_put x hdef _ _, ⟨_, rfl, u8_lit w _ 4 _ rfl rfl (u8_mem (L := [0, 1, 32, 127]) (by decide))⟩, R8.alloc hBw _⟩
    | 4, ho =>
      have e : o = { dst := some 125, op := Op.move (Operand.tmp 9), type := 3, pos := "law.go:145", after := #[], guard := none } := (Option.some.inj ho).symm
      subst e
      clear hdeps
      refine wpOp_step ho (fun K hK => ?_)
      clear ho
      go_simp
      exact hK _ _ ⟨_, act_put x hdef _ _, rfl, R8.refl _ _⟩
    | 5, ho =>
      have e : o = { dst := some 126, op := Op.indexAddr 25 (Operand.tmp 124) (Operand.tmp 125), type := 0, pos := "law.go:145", after := #[{ on := 3, ground := Ground.data }, { on := 4, ground := Ground.data }], guard := none } := (Option.some.inj ho).symm
      subst e
      obtain ⟨g, q3, hu⟩ := hdeps { on := 3, ground := Ground.data } (by simp) rfl
      have q3 : x.tmps.getD 124 undef = .slice (some ⟨g, 0, none⟩) 4 4 := q3
      have q4 : x.tmps.getD 125 undef = .int .i64 (j : Nat) := hdeps { on := 4, ground := Ground.data } (by simp) rfl
      simp only [Array.getD_eq_getD_getElem?] at q3 q4
      clear hdeps
      have hj4 : (j : Int) < 4 := by omega
      have hj0 : (0 : Int) ≤ (j : Int) := by omega
      refine wpOp_step ho (fun K hK => ?_)
      clear ho
      go_simp
      exact hK _ _ ⟨_, act_put x hdef _ _, ⟨g, rfl, hu⟩, R8.refl _ _⟩
    | 6, ho =>
      have e : o = { dst := some 127, op := Op.load 5 (Operand.tmp 126), type := 5, pos := "law.go:145", after := #[{ on := 5, ground := Ground.data }], guard := none } := (Option.some.inj ho).symm
      subst e
      obtain ⟨g, q5, hu⟩ := hdeps { on := 5, ground := Ground.data } (by simp) rfl
      have q5 : x.tmps.getD 126 undef = .pointer (some ⟨g, j, none⟩) := q5
      simp only [Array.getD_eq_getD_getElem?] at q5
      clear hdeps
      obtain ⟨x', hx', hc⟩ := hu.cell (i := j) hj
      refine wpOp_step ho (fun K hK => ?_)
      clear ho
      go_simp
      exact hK _ _ ⟨_, act_put x hdef _ _, ⟨x', hx', rfl⟩, R8.refl _ _⟩
    | 7, ho =>
      have e : o = { dst := some 128, op := Op.buildSlice 25 2 #[(0, Operand.tmp 127), (1, Operand.const (Value.int IntKind.u8 5))], type := 25, pos := "law.go:145", after := #[{ on := 6, ground := Ground.data }], guard := none } := (Option.some.inj ho).symm
      subst e
      obtain ⟨x', hx', q6⟩ := hdeps { on := 6, ground := Ground.data } (by simp) rfl
      have q6 : x.tmps.getD 127 undef = .int .u8 (x' : Nat) := q6
      simp only [Array.getD_eq_getD_getElem?] at q6
      clear hdeps
      refine wpOp_step ho (fun K hK => ?_)
      clear ho
      go_simp
      exact hK _ _ ⟨_, act_put x hdef _ _, ⟨_, rfl, u8_lit w _ 2 _ rfl rfl (u8_mem (L := [x', 5]) (fun b hb => by
        simp only [List.mem_cons, List.mem_nil_iff, or_false] at hb
        omega))⟩, R8.alloc hBw _⟩
    | 8, ho =>
      have e : o = { dst := some 129, op := Op.call { callee := Callee.builtin Builtin.append, args := #[Operand.tmp 123, Operand.tmp 128], argTypes := #[25, 25] }, type := 25, pos := "law.go:145", after := #[{ on := 2, ground := Ground.data }, { on := 7, ground := Ground.data }, { on := 2, ground := Ground.chain }], guard := none } := (Option.some.inj ho).symm
      subst e
      obtain ⟨g, C, q2, hg, hu, hc1, hc2⟩ := hdeps { on := 2, ground := Ground.data } (by simp) rfl
      have q2 : x.tmps.getD 123 undef = .slice (some ⟨g, 0, none⟩) k C := q2
      obtain ⟨g2, q7, hu2⟩ := hdeps { on := 7, ground := Ground.data } (by simp) rfl
      have q7 : x.tmps.getD 128 undef = .slice (some ⟨g2, 0, none⟩) 2 2 := q7
      clear hdeps
      obtain ⟨L2, l1, l2, l3⟩ := hu2.own 2 (Nat.le_refl _) (by omega)
      refine wpOp_step ho (fun K hK => ?_)
      clear ho
      refine step_append_u8 w rfl (.tmp 123) (.tmp 128) rfl rfl g k C q2 hu hc1 hc2 ⟨g2, 0, none⟩ 2 2 q7 L2 l2 l1 (l3.cells (g := g2) rfl) (by omega) ?_
      intro g' C' w' a1 a2 a3 a4 a5
      exact hK _ _ ⟨_, rfl, ⟨g', C', rfl, a1, a2, a3⟩, a5 _ hg hBw⟩
    | 9, ho =>
      have e : o = { dst := some 10, op := Op.assign (Operand.tmp 129), type := 25, pos := "law.go:145", after := #[{ on := 8, ground := Ground.data }, { on := 8, ground := Ground.chain }, { on := 0, ground := Ground.phase }, { on := 1, ground := Ground.phase }, { on := 2, ground := Ground.phase }, { on := 3, ground := Ground.phase }, { on := 4, ground := Ground.phase }, { on := 5, ground := Ground.phase }, { on := 6, ground := Ground.phase }, { on := 7, ground := Ground.phase }, { on := 8, ground := Ground.phase }], guard := none } := (Option.some.inj ho).symm
      subst e
      obtain ⟨g, C, q8, hu, hc⟩ := hdeps { on := 8, ground := Ground.data } (by simp) rfl
      have q8 : x.tmps.getD 129 undef = .slice (some ⟨g, 0, none⟩) (k + 2) C := q8
      simp only [Array.getD_eq_getD_getElem?] at q8
      clear hdeps
      refine wpOp_step ho (fun K hK => ?_)
      clear ho
      go_simp
      exact hK _ _ ⟨_, act_put x hdef _ _, ⟨g, C, rfl, hu, hc⟩, R8.refl _ _⟩
    | k + 10, _ => omega
  · intro x w hB hdef hsz hs hv
    exact hQ x w hB.1 hdef (hsz.trans ht) (hun x hs) (hv 9 (by decide))
theorem region23_lit (z k j : Nat) (Lk : List Nat) (Q : Exit → Act → World → Prop) (t0 : Array Value) (w0 : World) (n0 : Nat) (ht : t0.size = n0) (hn0 : 131 ≤ n0)
    (h8 : t0.getD 8 undef = .slice (some ⟨z, 0, none⟩) k 20) (h9 : t0.getD 9 undef = .int .i64 (j : Nat)) (hj : j < 4) (hk : k ≤ 20) (hL : Lk.length = k) (hb : BL w0 (some ⟨z, 0, none⟩) Lk)
    (hQ : ∀ (vs : Nat → Value) (w : World) (A : Option Addr) (m C : Nat) (L : List Nat), vs 10 = .slice A m C → Bs w A m C L → Below w0.heap.size w0 w → Q .normal { tmps := [10, 121, 122, 123, 124, 125, 126, 127, 128, 129].foldl (fun y d => y.setIfInBounds d (vs d)) t0, defers := [] } w) :
    (Code.region 23 ops23 true).wp Try.prog Q { tmps := t0, defers := [] } w0 := by
  refine region23 z k j Lk Q t0 w0 n0 ht hn0 h8 h9 hj hk hL hb ?_
  intro x w hB hdef hsz hs h10
  have hx := frame_sets x.tmps t0 (by omega) [10, 121, 122, 123, 124, 125, 126, 127, 128, 129] (fun s hn => hs s (by intro e; subst e; exact hn (by decide)) (fun e => hn (by simp only [List.mem_cons, List.mem_nil_iff, or_false]; omega)))
  obtain ⟨g, C, e, hu, hc1, hc2⟩ := h10
  obtain ⟨L, l1, l2, l3⟩ := hu.own (k + 2) hc1 hc2
  obtain ⟨_, A', C', e', _, _, _, _, hbl, hf⟩ := owns_bl l3 l1
  have hq := hQ (fun d => x.tmps.getD d undef) w (some ⟨g, 0, none⟩) (k + 2) C L e ⟨l2, by omega, hc1, hc2, (fun h => by cases h), .inr ⟨_, _, rfl⟩, (fun h o s e2 => by cases e2; exact hu.lt), by cases e'; exact hbl⟩ hB
  obtain ⟨T, Df⟩ := x
  dsimp only at hx hdef hq
  subst hdef
  rw [← hx] at hq
  exact hq
end Go.Proofs.Ytpnphijfdcimlaa
