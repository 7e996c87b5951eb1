/-
  SetTells's drawn region (written by tools/gen-stells.py).
-/
import Derived.Test.YtmnjicpgdhnimaaDoorSOne
import Derived.Test.YtmnjicpgdhnimaaDoorAparts
namespace Go.Proofs.YtmnjicpgdhnimaaDoor
open Go.RowKit Go.Shelf
set_option linter.unusedVariables false
set_option linter.unusedSimpArgs false

abbrev stellsR_o0 : Oper := { dst := some 7, op := Op.load 24 (Operand.tmp 2), type := 24, pos := "law.go:40", after := #[], guard := none }
abbrev stellsR_o1 : Oper := { dst := some 8, op := Op.call { callee := Callee.value (Operand.func 8), args := #[Operand.tmp 7], argTypes := #[24] }, type := 25, pos := "law.go:40", after := #[{ on := 0, ground := Ground.data }], guard := none }
abbrev stellsR_o2 : Oper := { dst := some 9, op := Op.load 24 (Operand.tmp 2), type := 24, pos := "law.go:40", after := #[], guard := none }
abbrev stellsR_o3 : Oper := { dst := some 10, op := Op.call { callee := Callee.value (Operand.func 8), args := #[Operand.tmp 9], argTypes := #[24] }, type := 25, pos := "law.go:40", after := #[{ on := 2, ground := Ground.data }, { on := 1, ground := Ground.chain }], guard := none }
abbrev stellsR_o4 : Oper := { dst := some 5, op := Op.assign (Operand.tmp 8), type := 25, pos := "law.go:40", after := #[{ on := 1, ground := Ground.data }, { on := 3, ground := Ground.chain }, { on := 0, ground := Ground.phase }, { on := 1, ground := Ground.phase }, { on := 2, ground := Ground.textOnly Departure.lateStores }, { on := 3, ground := Ground.textOnly Departure.lateStoresUnsure }], guard := none }
abbrev stellsR_o5 : Oper := { dst := some 6, op := Op.assign (Operand.tmp 10), type := 25, pos := "law.go:40", after := #[{ on := 3, ground := Ground.data }, { on := 4, ground := Ground.chain }, { on := 0, ground := Ground.phase }, { on := 1, ground := Ground.phase }, { on := 2, ground := Ground.phase }, { on := 3, ground := Ground.phase }, { on := 4, ground := Ground.phase }], guard := none }
def stellsR_ops : Array Oper := #[stellsR_o0, stellsR_o1, stellsR_o2, stellsR_o3, stellsR_o4, stellsR_o5]
abbrev stellsR_mem (s : Nat) : Prop := s ∈ [7, 8, 9, 10]
set_option maxRecDepth 100000 in
theorem stellsR_slots : ∀ j, j < 4 → stellsR_mem (slotOf stellsR_ops j) := by
  intro j hj
  match j, hj with
  | 0, _ => exact (by decide : stellsR_mem 7)
  | 1, _ => exact (by decide : stellsR_mem 8)
  | 2, _ => exact (by decide : stellsR_mem 9)
  | 3, _ => exact (by decide : stellsR_mem 10)
  | k + 4, hj => omega
def stellsR_val (b2 N0 : Nat) (H : Nat → Bool) : Nat → Value → World → Prop
  | 0, v, w => v = sv H
  | 1, v, w => ∃ A C, v = .slice A (bl H 256).length C ∧ w.ownsRow N0 5 1 (.slice A (bl H 256).length C) (bl H 256).length (lc (bl H 256))
  | 2, v, w => v = sv H
  | 3, v, w => ∃ A C, v = .slice A (bl H 256).length C ∧ w.ownsRow N0 5 1 (.slice A (bl H 256).length C) (bl H 256).length (lc (bl H 256))
  | _, _, _ => True
theorem stellsR_below (b2 N0 : Nat) (H : Nat → Bool) (w w' : World) (hb : Below w.heap.size w w') : ∀ j v, stellsR_val b2 N0 H j v w → stellsR_val b2 N0 H j v w' := by
  intro j v h
  match j, h with
  | 0, h => exact h
  | 1, h => obtain ⟨A, C, h1, h2⟩ := h; exact ⟨A, C, h1, owns_thruS h2 hb⟩
  | 2, h => exact h
  | 3, h => obtain ⟨A, C, h1, h2⟩ := h; exact ⟨A, C, h1, owns_thruS h2 hb⟩
  | _ + 4, h => exact h
set_option maxRecDepth 100000 in
set_option maxHeartbeats 2000000 in
theorem stellsR_s0 {Fc : Fence} (hF : Wide Fc) {nC : Nat} (b2 N0 : Nat) (H : Nat → Bool) (Q : Exit → Act → World → Prop) (df : List Deferred) (w0 : World)
    (hS : SBox w0 b2 H) (hT : Tab w0) (hN0 : w0.heap.size = N0)
    (x : Act) (w : World) (hB : Below w0.heap.size w0 w) (hdef : x.defers = df) (u2 : x.tmps.getD 2 undef = .pointer (some ⟨b2, 0, none⟩))
    : wpOpIn Fc nC Tryd.prog stellsR_ops Q 0 (fun a' w' => ∃ v, a' = x.put (some 7) v ∧ (v = sv H) ∧ Below w.heap.size w w') x w := by
  have ho : stellsR_ops[0]? = some stellsR_o0 := rfl
  simp only [Array.getD_eq_getD_getElem?] at u2
  have hsb := hS.below hB hS.lt
  have c0 := hsb.cell 0 (by omega)
  have c1 := hsb.cell 1 (by omega)
  have c2 := hsb.cell 2 (by omega)
  have c3 := hsb.cell 3 (by omega)
  refine wpOpIn_plain ho rfl (oper_inK hF.fn (fun K hK => ?_))
  clear ho
  rw [Oper.semAt_plain Fc _ _ (by intro c h; cases h)]
  simp only [stellsR_o0]
  go_simp
  exact hK _ _ ⟨_, act_putD x hdef _ _, rfl, Below.refl _ _⟩
set_option maxRecDepth 100000 in
set_option maxHeartbeats 2000000 in
theorem stellsR_s1 {Fc : Fence} (hF : Wide Fc) {nC : Nat} (b2 N0 : Nat) (H : Nat → Bool) (Q : Exit → Act → World → Prop) (df : List Deferred) (w0 : World)
    (hS : SBox w0 b2 H) (hT : Tab w0) (hN0 : w0.heap.size = N0)
    (x : Act) (w : World) (hB : Below w0.heap.size w0 w) (hdef : x.defers = df) (u2 : x.tmps.getD 2 undef = .pointer (some ⟨b2, 0, none⟩))
    (p0 : stellsR_val b2 N0 H 0 (x.tmps.getD 7 undef) w)
    : wpOpIn Fc nC Tryd.prog stellsR_ops Q 1 (fun a' w' => ∃ v, a' = x.put (some 8) v ∧ (∃ A C, v = .slice A (bl H 256).length C ∧ w'.ownsRow N0 5 1 (.slice A (bl H 256).length C) (bl H 256).length (lc (bl H 256))) ∧ Below w.heap.size w w' ∧ ∀ g, v.ownBlock = some g → w.heap.size ≤ g) x w := by
  have ho : stellsR_ops[1]? = some stellsR_o1 := rfl
  simp only [Array.getD_eq_getD_getElem?] at u2
  have q0 : x.tmps.getD 7 undef = sv H := p0
  simp only [Array.getD_eq_getD_getElem?] at q0
  refine wpOpIn_plain ho rfl (oper_inK hF.fn (fun K hK => ?_))
  clear ho
  rw [Oper.semAt_plain Fc _ _ (by intro c h; cases h)]
  simp only [stellsR_o1]
  go_simp
  refine ⟨hF.deep, (hF.call (bytes_any H w (hT.below hB))).mono ?_⟩
  rintro e w' ⟨v, rfl, ho, hb⟩
  obtain ⟨A, C, rfl⟩ := owns_slice ho
  exact hK _ _ ⟨_, act_putD x hdef _ _, ⟨A, C, rfl, owns_lower ho (hN0 ▸ hB.size)⟩, hb, fun g hg => (owns_cells ho g hg).2.1⟩
set_option maxRecDepth 100000 in
set_option maxHeartbeats 2000000 in
theorem stellsR_s2 {Fc : Fence} (hF : Wide Fc) {nC : Nat} (b2 N0 : Nat) (H : Nat → Bool) (Q : Exit → Act → World → Prop) (df : List Deferred) (w0 : World)
    (hS : SBox w0 b2 H) (hT : Tab w0) (hN0 : w0.heap.size = N0)
    (x : Act) (w : World) (hB : Below w0.heap.size w0 w) (hdef : x.defers = df) (u2 : x.tmps.getD 2 undef = .pointer (some ⟨b2, 0, none⟩))
    : wpOpIn Fc nC Tryd.prog stellsR_ops Q 2 (fun a' w' => ∃ v, a' = x.put (some 9) v ∧ (v = sv H) ∧ Below w.heap.size w w') x w := by
  have ho : stellsR_ops[2]? = some stellsR_o2 := rfl
  simp only [Array.getD_eq_getD_getElem?] at u2
  have hsb := hS.below hB hS.lt
  have c0 := hsb.cell 0 (by omega)
  have c1 := hsb.cell 1 (by omega)
  have c2 := hsb.cell 2 (by omega)
  have c3 := hsb.cell 3 (by omega)
  refine wpOpIn_plain ho rfl (oper_inK hF.fn (fun K hK => ?_))
  clear ho
  rw [Oper.semAt_plain Fc _ _ (by intro c h; cases h)]
  simp only [stellsR_o2]
  go_simp
  exact hK _ _ ⟨_, act_putD x hdef _ _, rfl, Below.refl _ _⟩
set_option maxRecDepth 100000 in
set_option maxHeartbeats 2000000 in
theorem stellsR_s3 {Fc : Fence} (hF : Wide Fc) {nC : Nat} (b2 N0 : Nat) (H : Nat → Bool) (Q : Exit → Act → World → Prop) (df : List Deferred) (w0 : World)
    (hS : SBox w0 b2 H) (hT : Tab w0) (hN0 : w0.heap.size = N0)
    (x : Act) (w : World) (hB : Below w0.heap.size w0 w) (hdef : x.defers = df) (u2 : x.tmps.getD 2 undef = .pointer (some ⟨b2, 0, none⟩))
    (p2 : stellsR_val b2 N0 H 2 (x.tmps.getD 9 undef) w)
    : wpOpIn Fc nC Tryd.prog stellsR_ops Q 3 (fun a' w' => ∃ v, a' = x.put (some 10) v ∧ (∃ A C, v = .slice A (bl H 256).length C ∧ w'.ownsRow N0 5 1 (.slice A (bl H 256).length C) (bl H 256).length (lc (bl H 256))) ∧ Below w.heap.size w w' ∧ ∀ g, v.ownBlock = some g → w.heap.size ≤ g) x w := by
  have ho : stellsR_ops[3]? = some stellsR_o3 := rfl
  simp only [Array.getD_eq_getD_getElem?] at u2
  have q2 : x.tmps.getD 9 undef = sv H := p2
  simp only [Array.getD_eq_getD_getElem?] at q2
  refine wpOpIn_plain ho rfl (oper_inK hF.fn (fun K hK => ?_))
  clear ho
  rw [Oper.semAt_plain Fc _ _ (by intro c h; cases h)]
  simp only [stellsR_o3]
  go_simp
  refine ⟨hF.deep, (hF.call (bytes_any H w (hT.below hB))).mono ?_⟩
  rintro e w' ⟨v, rfl, ho, hb⟩
  obtain ⟨A, C, rfl⟩ := owns_slice ho
  exact hK _ _ ⟨_, act_putD x hdef _ _, ⟨A, C, rfl, owns_lower ho (hN0 ▸ hB.size)⟩, hb, fun g hg => (owns_cells ho g hg).2.1⟩

set_option maxRecDepth 100000 in
set_option maxHeartbeats 4000000 in
theorem stellsR {Fc : Fence} (hF : Wide Fc) {nC : Nat} (b2 N0 : Nat) (H : Nat → Bool) (Q : Exit → Act → World → Prop) (t0 : Array Value) (df : List Deferred) (w0 : World) (ht : t0.size = 23)
    (hs2 : t0.getD 2 undef = .pointer (some ⟨b2, 0, none⟩))
    (hS : SBox w0 b2 H) (hT : Tab w0) (hN0 : w0.heap.size = N0)
    (hQ : ∀ (vs : Nat → Value) (w : World), Below w0.heap.size w0 w → (∃ A C, (vs 8) = .slice A (bl H 256).length C ∧ w.ownsRow N0 5 1 (.slice A (bl H 256).length C) (bl H 256).length (lc (bl H 256))) → (∃ A C, (vs 10) = .slice A (bl H 256).length C ∧ w.ownsRow N0 5 1 (.slice A (bl H 256).length C) (bl H 256).length (lc (bl H 256))) → (∀ g, (vs 8).ownBlock = some g → (vs 10).ownBlock = some g → False) → wpOpIn Fc nC Tryd.prog stellsR_ops Q 4 (fun a' w' => wpOpIn Fc nC Tryd.prog stellsR_ops Q 5 (Q .normal) a' w') { tmps := [7, 8, 9, 10].foldl (fun y d => y.setIfInBounds d (vs d)) t0, defers := df } w) :
    (Code.region 1 stellsR_ops true).wpIn Fc nC Tryd.prog Q { tmps := t0, defers := df } w0 := by
  refine wpIn_region_tailD 4 (by decide) (by kernel_rfl) (fun a b => Below a.heap.size a b) (stellsR_val b2 N0 H) (fun i j v u => i ∈ [1, 3] → j ∈ [1, 3] → ∀ g, v.ownBlock = some g → u.ownBlock = some g → False) t0 df w0 (by rw [ht]; kernel_rfl) (by kernel_rfl) (by kernel_rfl) (by kernel_rfl) ((Below.refl _ _).drew) (fun _ _ _ h k => h.trans (k.mono h.size)) (stellsR_below b2 N0 H) (fun _ _ _ _ h a b g e1 e2 => h b a g e2 e1) ?_ ?_
  · intro j o ho hj x w hB hdef hsz hs hdeps
    have hs' : ∀ s, ¬ stellsR_mem s → x.tmps.getD s undef = t0.getD s undef := fun s hn => hs s (fun j hj e => hn (by rw [e]; exact stellsR_slots j hj))
    have u2 := (hs' 2 (by decide)).trans hs2
    match j, ho, hj with
    | 0, ho, _ =>
      have e : o = stellsR_o0 := (Option.some.inj ho).symm
      subst e
      exact wpOpIn_mono (fun _ _ ⟨v, e1, e2, e3⟩ => ⟨v, e1, e2, e3, fun _ _ _ _ _ h => absurd h (by decide)⟩) (stellsR_s0 hF b2 N0 H Q df w0 hS hT hN0 x w hB hdef u2 )
    | 1, ho, _ =>
      have e : o = stellsR_o1 := (Option.some.inj ho).symm
      subst e
      refine wpOpIn_mono ?_ (stellsR_s1 hF b2 N0 H Q df w0 hS hT hN0 x w hB hdef u2 (hdeps { on := 0, ground := Ground.data } (by simp) rfl))
      rintro a' w' ⟨v, e1, e2, e3, hg⟩
      refine ⟨_, e1, e2, e3, fun k u hk hne hu _ hk2 g e4 e5 => ?_⟩
      have hk3 : k = 1 ∨ k = 3 := by simpa using hk2
      rcases hk3 with rfl | rfl
      · exact absurd rfl hne
      · obtain ⟨A', C', rfl, ho'⟩ := hu; have h1 := (owns_cells ho' g e5).1; have h2 := hg g e4; omega
    | 2, ho, _ =>
      have e : o = stellsR_o2 := (Option.some.inj ho).symm
      subst e
      exact wpOpIn_mono (fun _ _ ⟨v, e1, e2, e3⟩ => ⟨v, e1, e2, e3, fun _ _ _ _ _ h => absurd h (by decide)⟩) (stellsR_s2 hF b2 N0 H Q df w0 hS hT hN0 x w hB hdef u2 )
    | 3, ho, _ =>
      have e : o = stellsR_o3 := (Option.some.inj ho).symm
      subst e
      refine wpOpIn_mono ?_ (stellsR_s3 hF b2 N0 H Q df w0 hS hT hN0 x w hB hdef u2 (hdeps { on := 2, ground := Ground.data } (by simp) rfl))
      rintro a' w' ⟨v, e1, e2, e3, hg⟩
      refine ⟨_, e1, e2, e3, fun k u hk hne hu _ hk2 g e4 e5 => ?_⟩
      have hk3 : k = 1 ∨ k = 3 := by simpa using hk2
      rcases hk3 with rfl | rfl
      · obtain ⟨A', C', rfl, ho'⟩ := hu; have h1 := (owns_cells ho' g e5).1; have h2 := hg g e4; omega
      · exact absurd rfl hne
    | k + 4, _, hj => omega
  · intro x w hB hdef hsz hs hv hap
    have hx := frame_sets x.tmps t0 hsz [7, 8, 9, 10] (fun s hn => hs s (fun j hj e => hn (by rw [e]; exact stellsR_slots j hj)))
    have hq := hQ (fun d => x.tmps.getD d undef) w hB (hv 1 (by decide)) (hv 3 (by decide)) (hap 1 3 (by decide) (by decide) (by decide) (by decide) (by decide))
    obtain ⟨T, Df⟩ := x
    dsimp only at hx hdef hq
    subst hdef
    rw [← hx] at hq
    exact hq
end Go.Proofs.YtmnjicpgdhnimaaDoor
