/-
  lang.Of's drawn region (written by tools/gen-lof.py).
-/
import Derived.Test.YtdjdlkobfmahpaaGreatDoorLLang
import Derived.Test.YtdjdlkobfmahpaaGreatDoorRegT
namespace Go.Proofs.YtdjdlkobfmahpaaGreatDoor
open Go.RowKit Go.Shelf
set_option linter.unusedVariables false
set_option linter.unusedSimpArgs false

abbrev lofR_o0 : Oper := { dst := some 9, op := Op.call { callee := Callee.value (Operand.func 27), args := #[], argTypes := #[] }, type := 51, pos := "lang.go:44", after := #[], guard := none }
abbrev lofR_o1 : Oper := { dst := some 10, op := Op.load 9 (Operand.tmp 3), type := 9, pos := "lang.go:44", after := #[], guard := none }
abbrev lofR_o2 : Oper := { dst := some 11, op := Op.call { callee := Callee.value (Operand.func 35), args := #[Operand.tmp 10], argTypes := #[9] }, type := 9, pos := "lang.go:44", after := #[{ on := 1, ground := Ground.data }, { on := 0, ground := Ground.chain }], guard := none }
abbrev lofR_o3 : Oper := { dst := some 12, op := Op.lookup 51 (Operand.tmp 9) (Operand.tmp 11) false, type := 54, pos := "lang.go:44", after := #[{ on := 0, ground := Ground.data }, { on := 2, ground := Ground.data }], guard := none }
abbrev lofR_o4 : Oper := { dst := some 13, op := Op.field 54 (Operand.tmp 12) 0, type := 9, pos := "lang.go:44", after := #[{ on := 3, ground := Ground.data }], guard := none }
abbrev lofR_o5 : Oper := { dst := some 2, op := Op.assign (Operand.tmp 13), type := 9, pos := "lang.go:44", after := #[{ on := 4, ground := Ground.data }, { on := 2, ground := Ground.chain }, { on := 0, ground := Ground.phase }, { on := 1, ground := Ground.phase }, { on := 2, ground := Ground.phase }, { on := 3, ground := Ground.phase }, { on := 4, ground := Ground.phase }], guard := none }
def lofR_ops : Array Oper := #[lofR_o0, lofR_o1, lofR_o2, lofR_o3, lofR_o4, lofR_o5]
abbrev lofR_mem (s : Nat) : Prop := s ∈ [9, 10, 11, 12, 13, 2]
set_option maxRecDepth 100000 in
theorem lofR_slots : ∀ j, j < 6 → lofR_mem (slotOf lofR_ops j) := by
  intro j hj
  match j, hj with
  | 0, _ => exact (by decide : lofR_mem 9)
  | 1, _ => exact (by decide : lofR_mem 10)
  | 2, _ => exact (by decide : lofR_mem 11)
  | 3, _ => exact (by decide : lofR_mem 12)
  | 4, _ => exact (by decide : lofR_mem 13)
  | 5, _ => exact (by decide : lofR_mem 2)
  | k + 6, hj => omega
def lofR_val (b3 : Nat) (p E N : List UInt8) : Nat → Value → World → Prop
  | 0, v, w => ∃ g, v = .map (some g) ∧ MapL w g 22
  | 1, v, w => v = by8 p
  | 2, v, w => v = by8 E
  | 3, v, w => v = .agg #[by8 N]
  | 4, v, w => v = by8 N
  | 5, v, w => v = by8 N
  | _, _, _ => True
theorem lofR_below (b3 : Nat) (p E N : List UInt8) (w w' : World) (hb : Below w.heap.size w w') : ∀ j v, lofR_val b3 p E N j v w → lofR_val b3 p E N j v w' := by
  intro j v h
  match j, h with
  | 0, h => obtain ⟨g, h1, h2⟩ := h; exact ⟨g, h1, h2.below hb⟩
  | 1, h => exact h
  | 2, h => exact h
  | 3, h => exact h
  | 4, h => exact h
  | 5, h => exact h
  | _ + 6, h => exact h
set_option maxRecDepth 100000 in
set_option maxHeartbeats 2000000 in
theorem lofR_s0 {Fc : Fence} (hF : Wide Fc) {nC : Nat} (b3 : Nat) (p E N : List UInt8) (Q : Exit → Act → World → Prop) (df : List Deferred) (w0 : World)
    (hS : w0.cell? ⟨b3, 0, none⟩ = some (by8 p)) (hp : p.length ≤ 1000000) (hE : extL p = E) (hN : nameL E = N)
    (x : Act) (w : World) (hB : Below w0.heap.size w0 w) (hdef : x.defers = df) (u3 : x.tmps.getD 3 undef = .pointer (some ⟨b3, 0, none⟩))
    : wpOpIn Fc nC Tryz.prog lofR_ops Q 0 (fun a' w' => ∃ v, a' = x.put (some 9) v ∧ (∃ g, v = .map (some g) ∧ MapL w' g 22) ∧ Below w.heap.size w w') x w := by
  have ho : lofR_ops[0]? = some lofR_o0 := rfl
  simp only [Array.getD_eq_getD_getElem?] at u3
  refine wpOpIn_plain ho rfl (oper_inK hF.fn (fun K hK => ?_))
  clear ho
  rw [Oper.semAt_plain Fc _ _ (by intro c h; cases h)]
  simp only [lofR_o0]
  go_simp
  refine ⟨hF.deep, (hF.call (languages_any w)).mono ?_⟩
  rintro e w' ⟨g, rfl, hM, hb⟩
  exact hK _ _ ⟨_, act_putD x hdef _ _, ⟨g, rfl, hM⟩, hb⟩
set_option maxRecDepth 100000 in
set_option maxHeartbeats 2000000 in
theorem lofR_s1 {Fc : Fence} (hF : Wide Fc) {nC : Nat} (b3 : Nat) (p E N : List UInt8) (Q : Exit → Act → World → Prop) (df : List Deferred) (w0 : World)
    (hS : w0.cell? ⟨b3, 0, none⟩ = some (by8 p)) (hp : p.length ≤ 1000000) (hE : extL p = E) (hN : nameL E = N)
    (x : Act) (w : World) (hB : Below w0.heap.size w0 w) (hdef : x.defers = df) (u3 : x.tmps.getD 3 undef = .pointer (some ⟨b3, 0, none⟩))
    : wpOpIn Fc nC Tryz.prog lofR_ops Q 1 (fun a' w' => ∃ v, a' = x.put (some 10) v ∧ (v = by8 p) ∧ Below w.heap.size w w') x w := by
  have ho : lofR_ops[1]? = some lofR_o1 := rfl
  simp only [Array.getD_eq_getD_getElem?] at u3
  have c0 := cell_thru hS hB
  refine wpOpIn_plain ho rfl (oper_inK hF.fn (fun K hK => ?_))
  clear ho
  rw [Oper.semAt_plain Fc _ _ (by intro c h; cases h)]
  simp only [lofR_o1]
  go_simp
  exact hK _ _ ⟨_, act_putD x hdef _ _, rfl, Below.refl _ _⟩
set_option maxRecDepth 100000 in
set_option maxHeartbeats 2000000 in
theorem lofR_s2 {Fc : Fence} (hF : Wide Fc) {nC : Nat} (b3 : Nat) (p E N : List UInt8) (Q : Exit → Act → World → Prop) (df : List Deferred) (w0 : World)
    (hS : w0.cell? ⟨b3, 0, none⟩ = some (by8 p)) (hp : p.length ≤ 1000000) (hE : extL p = E) (hN : nameL E = N)
    (x : Act) (w : World) (hB : Below w0.heap.size w0 w) (hdef : x.defers = df) (u3 : x.tmps.getD 3 undef = .pointer (some ⟨b3, 0, none⟩))
    (p1 : lofR_val b3 p E N 1 (x.tmps.getD 10 undef) w)
    : wpOpIn Fc nC Tryz.prog lofR_ops Q 2 (fun a' w' => ∃ v, a' = x.put (some 11) v ∧ (v = by8 E) ∧ Below w.heap.size w w') x w := by
  have ho : lofR_ops[2]? = some lofR_o2 := rfl
  simp only [Array.getD_eq_getD_getElem?] at u3
  have q1 : x.tmps.getD 10 undef = by8 p := p1
  simp only [Array.getD_eq_getD_getElem?] at q1
  refine wpOpIn_plain ho rfl (oper_inK hF.fn (fun K hK => ?_))
  clear ho
  rw [Oper.semAt_plain Fc _ _ (by intro c h; cases h)]
  simp only [lofR_o2]
  go_simp
  refine ⟨hF.deep, (hF.call (extension_any p w hp)).mono ?_⟩
  rintro e w' ⟨rfl, hb⟩
  exact hK _ _ ⟨_, act_putD x hdef _ _, by rw [hE], hb⟩
set_option maxRecDepth 100000 in
set_option maxHeartbeats 2000000 in
theorem lofR_s3 {Fc : Fence} (hF : Wide Fc) {nC : Nat} (b3 : Nat) (p E N : List UInt8) (Q : Exit → Act → World → Prop) (df : List Deferred) (w0 : World)
    (hS : w0.cell? ⟨b3, 0, none⟩ = some (by8 p)) (hp : p.length ≤ 1000000) (hE : extL p = E) (hN : nameL E = N)
    (x : Act) (w : World) (hB : Below w0.heap.size w0 w) (hdef : x.defers = df) (u3 : x.tmps.getD 3 undef = .pointer (some ⟨b3, 0, none⟩))
    (p0 : lofR_val b3 p E N 0 (x.tmps.getD 9 undef) w)
    (p2 : lofR_val b3 p E N 2 (x.tmps.getD 11 undef) w)
    : wpOpIn Fc nC Tryz.prog lofR_ops Q 3 (fun a' w' => ∃ v, a' = x.put (some 12) v ∧ (v = .agg #[by8 N]) ∧ Below w.heap.size w w') x w := by
  have ho : lofR_ops[3]? = some lofR_o3 := rfl
  simp only [Array.getD_eq_getD_getElem?] at u3
  obtain ⟨g0, q0, p0⟩ := p0
  have q0 : x.tmps.getD 9 undef = .map (some g0) := q0
  have q2 : x.tmps.getD 11 undef = by8 E := p2
  simp only [Array.getD_eq_getD_getElem?] at q0 q2
  have hlk := lookup_tab E g0 w p0
  rw [hN] at hlk
  refine wpOpIn_plain ho rfl (oper_inK hF.fn (fun K hK => ?_))
  clear ho
  rw [Oper.semAt_plain Fc _ _ (by intro c h; cases h)]
  simp only [lofR_o3]
  go_simp
  exact hK _ _ ⟨_, act_putD x hdef _ _, rfl, Below.refl _ _⟩
set_option maxRecDepth 100000 in
set_option maxHeartbeats 2000000 in
theorem lofR_s4 {Fc : Fence} (hF : Wide Fc) {nC : Nat} (b3 : Nat) (p E N : List UInt8) (Q : Exit → Act → World → Prop) (df : List Deferred) (w0 : World)
    (hS : w0.cell? ⟨b3, 0, none⟩ = some (by8 p)) (hp : p.length ≤ 1000000) (hE : extL p = E) (hN : nameL E = N)
    (x : Act) (w : World) (hB : Below w0.heap.size w0 w) (hdef : x.defers = df) (u3 : x.tmps.getD 3 undef = .pointer (some ⟨b3, 0, none⟩))
    (p3 : lofR_val b3 p E N 3 (x.tmps.getD 12 undef) w)
    : wpOpIn Fc nC Tryz.prog lofR_ops Q 4 (fun a' w' => ∃ v, a' = x.put (some 13) v ∧ (v = by8 N) ∧ Below w.heap.size w w') x w := by
  have ho : lofR_ops[4]? = some lofR_o4 := rfl
  simp only [Array.getD_eq_getD_getElem?] at u3
  have q3 : x.tmps.getD 12 undef = .agg #[by8 N] := p3
  simp only [Array.getD_eq_getD_getElem?] at q3
  refine wpOpIn_plain ho rfl (oper_inK hF.fn (fun K hK => ?_))
  clear ho
  rw [Oper.semAt_plain Fc _ _ (by intro c h; cases h)]
  simp only [lofR_o4]
  go_simp
  exact hK _ _ ⟨by8 N, rfl, rfl, Below.refl _ _⟩
set_option maxRecDepth 100000 in
set_option maxHeartbeats 2000000 in
theorem lofR_s5 {Fc : Fence} (hF : Wide Fc) {nC : Nat} (b3 : Nat) (p E N : List UInt8) (Q : Exit → Act → World → Prop) (df : List Deferred) (w0 : World)
    (hS : w0.cell? ⟨b3, 0, none⟩ = some (by8 p)) (hp : p.length ≤ 1000000) (hE : extL p = E) (hN : nameL E = N)
    (x : Act) (w : World) (hB : Below w0.heap.size w0 w) (hdef : x.defers = df) (u3 : x.tmps.getD 3 undef = .pointer (some ⟨b3, 0, none⟩))
    (p4 : lofR_val b3 p E N 4 (x.tmps.getD 13 undef) w)
    : wpOpIn Fc nC Tryz.prog lofR_ops Q 5 (fun a' w' => ∃ v, a' = x.put (some 2) v ∧ (v = by8 N) ∧ Below w.heap.size w w') x w := by
  have ho : lofR_ops[5]? = some lofR_o5 := rfl
  simp only [Array.getD_eq_getD_getElem?] at u3
  have q4 : x.tmps.getD 13 undef = by8 N := p4
  simp only [Array.getD_eq_getD_getElem?] at q4
  refine wpOpIn_plain ho rfl (oper_inK hF.fn (fun K hK => ?_))
  clear ho
  rw [Oper.semAt_plain Fc _ _ (by intro c h; cases h)]
  simp only [lofR_o5]
  go_simp
  exact hK _ _ ⟨_, act_putD x hdef _ _, rfl, Below.refl _ _⟩

set_option maxRecDepth 100000 in
set_option maxHeartbeats 4000000 in
theorem lofR {Fc : Fence} (hF : Wide Fc) {nC : Nat} (b3 : Nat) (p E N : List UInt8) (Q : Exit → Act → World → Prop) (t0 : Array Value) (df : List Deferred) (w0 : World) (ht : t0.size = 14)
    (hs3 : t0.getD 3 undef = .pointer (some ⟨b3, 0, none⟩))
    (hS : w0.cell? ⟨b3, 0, none⟩ = some (by8 p)) (hp : p.length ≤ 1000000) (hE : extL p = E) (hN : nameL E = N)
    (hQ : ∀ (vs : Nat → Value) (w : World), Below w0.heap.size w0 w → (vs 2 = by8 N) → Q .normal { tmps := [9, 10, 11, 12, 13, 2].foldl (fun y d => y.setIfInBounds d (vs d)) t0, defers := df } w) :
    (Code.region 5 lofR_ops true).wpIn Fc nC Tryz.prog Q { tmps := t0, defers := df } w0 := by
  refine wpIn_region_tail 6 (by decide) (by kernel_rfl) (fun a b => Below a.heap.size a b) (lofR_val b3 p E N) t0 df w0 (by rw [ht]; kernel_rfl) (by kernel_rfl) (by kernel_rfl) (by kernel_rfl) ((Below.refl _ _).drew) (fun _ _ _ h k => h.trans (k.mono h.size)) (lofR_below b3 p E N) ?_ ?_
  · intro j o ho hj x w hB hdef hsz hs hdeps
    have hs' : ∀ s, ¬ lofR_mem s → x.tmps.getD s undef = t0.getD s undef := fun s hn => hs s (fun j hj e => hn (by rw [e]; exact lofR_slots j hj))
    have u3 := (hs' 3 (by decide)).trans hs3
    match j, ho, hj with
    | 0, ho, _ =>
      have e : o = lofR_o0 := (Option.some.inj ho).symm
      subst e
      exact lofR_s0 hF b3 p E N Q df w0 hS hp hE hN x w hB hdef u3 
    | 1, ho, _ =>
      have e : o = lofR_o1 := (Option.some.inj ho).symm
      subst e
      exact lofR_s1 hF b3 p E N Q df w0 hS hp hE hN x w hB hdef u3 
    | 2, ho, _ =>
      have e : o = lofR_o2 := (Option.some.inj ho).symm
      subst e
      exact lofR_s2 hF b3 p E N Q df w0 hS hp hE hN x w hB hdef u3 (hdeps { on := 1, ground := Ground.data } (by simp) rfl)
    | 3, ho, _ =>
      have e : o = lofR_o3 := (Option.some.inj ho).symm
      subst e
      exact lofR_s3 hF b3 p E N Q df w0 hS hp hE hN x w hB hdef u3 (hdeps { on := 0, ground := Ground.data } (by simp) rfl) (hdeps { on := 2, ground := Ground.data } (by simp) rfl)
    | 4, ho, _ =>
      have e : o = lofR_o4 := (Option.some.inj ho).symm
      subst e
      exact lofR_s4 hF b3 p E N Q df w0 hS hp hE hN x w hB hdef u3 (hdeps { on := 3, ground := Ground.data } (by simp) rfl)
    | 5, ho, _ =>
      have e : o = lofR_o5 := (Option.some.inj ho).symm
      subst e
      exact lofR_s5 hF b3 p E N Q df w0 hS hp hE hN x w hB hdef u3 (hdeps { on := 4, ground := Ground.data } (by simp) rfl)
    | k + 6, _, hj => omega
  · intro x w hB hdef hsz hs hv
    have hx := frame_sets x.tmps t0 hsz [9, 10, 11, 12, 13, 2] (fun s hn => hs s (fun j hj e => hn (by rw [e]; exact lofR_slots j hj)))
    have hq := hQ (fun d => x.tmps.getD d undef) w hB (hv 5 (by decide))
    obtain ⟨T, Df⟩ := x
    dsimp only at hx hdef hq
    subst hdef
    rw [← hx] at hq
    exact hq
end Go.Proofs.YtdjdlkobfmahpaaGreatDoor
