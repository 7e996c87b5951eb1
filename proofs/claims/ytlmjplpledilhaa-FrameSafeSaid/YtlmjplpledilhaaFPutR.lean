/-
  frame.Put: the regions that draw their order (written by tools/gen-fput.py).
-/
import Derived.Test.YtlmjplpledilhaaFLaidR
import Derived.Test.YtlmjplpledilhaaRegionP
import Derived.Test.YtlmjplpledilhaaFSize
import Derived.Laws.MakeOwn
namespace Go.Proofs.Ytlmjplpledilhaa
open Go.RowKit
set_option linter.unusedVariables false
set_option linter.unusedSimpArgs false

theorem owns_none {w : World} {B n C : Nat} {xs : List Value} {e : TypeId} (h : w.ownsRow B e 1 (.slice none n C) n xs) : n = 0 ∧ C = 0 := by
  obtain ⟨_, ⟨h1, h2⟩ | ⟨g, cap, cur, h1, _⟩⟩ := h
  · cases h1; exact ⟨rfl, rfl⟩
  · cases h1
def fputA_ops : Array Oper :=
  #[{ dst := some 12, op := Op.move (Operand.tmp 4), type := 3, pos := "frame.go:22", after := #[], guard := none },
    { dst := some 13, op := Op.makeSlice 24 (Operand.const (Value.int IntKind.i64 0)) (Operand.tmp 12), type := 24, pos := "frame.go:22", after := #[{ on := 0, ground := Ground.data }], guard := none },
    { dst := some 14, op := Op.move (Operand.tmp 4), type := 3, pos := "frame.go:22", after := #[], guard := none },
    { dst := some 15, op := Op.convert 3 23 (Operand.tmp 14), type := 23, pos := "frame.go:22", after := #[{ on := 2, ground := Ground.data }], guard := none },
    { dst := some 16, op := Op.call { callee := Callee.value (Operand.func 14), args := #[Operand.tmp 15], argTypes := #[23] }, type := 24, pos := "frame.go:22", after := #[{ on := 3, ground := Ground.data }], guard := none },
    { dst := some 17, op := Op.call { callee := Callee.builtin Builtin.append, args := #[Operand.tmp 13, Operand.tmp 16], argTypes := #[24, 24] }, type := 24, pos := "frame.go:22", after := #[{ on := 1, ground := Ground.data }, { on := 4, ground := Ground.data }, { on := 4, ground := Ground.chain }], guard := none },
    { dst := some 5, op := Op.alloc 24, type := 0, pos := "frame.go:22", after := #[], guard := none },
    { dst := none, op := Op.store 24 (Operand.tmp 5) (Operand.tmp 17), type := 0, pos := "frame.go:22", after := #[{ on := 6, ground := Ground.data }, { on := 5, ground := Ground.data }, { on := 5, ground := Ground.chain }, { on := 0, ground := Ground.phase }, { on := 1, ground := Ground.phase }, { on := 2, ground := Ground.phase }, { on := 3, ground := Ground.phase }, { on := 4, ground := Ground.phase }, { on := 5, ground := Ground.phase }, { on := 6, ground := Ground.phase }], guard := none }]
def fputA_slot : Nat → Nat
  | 0 => 12
  | 1 => 13
  | 2 => 14
  | 3 => 15
  | 4 => 16
  | 5 => 17
  | 6 => 5
  | j + 7 => 1033 + j
set_option maxRecDepth 100000 in
theorem fputA_inj (i j : Nat) (hi : i < 7) (hj : j < 7) (h : fputA_slot i = fputA_slot j) : i = j := by
  have key : ∀ i j : Fin 7, fputA_slot i.val = fputA_slot j.val → i = j := by decide
  exact Fin.mk.inj (key ⟨i, hi⟩ ⟨j, hj⟩ h)
def fputA_pre : Nat → Bool
  | 0 => true
  | 1 => true
  | 2 => true
  | 3 => true
  | 4 => true
  | _ => false
def putA_val (z B0 : Nat) : Bool → Nat → Value → World → Prop
  | false, 0, v, w => v = .int .i64 (z : Nat)
  | true, 0, v, w => True
  | false, 1, v, w => ∃ TA TC, v = .slice TA (0) TC ∧ w.ownsRow B0 5 1 (.slice TA (0) TC) (0) ([])
  | true, 1, v, w => True
  | false, 2, v, w => v = .int .i64 (z : Nat)
  | true, 2, v, w => True
  | false, 3, v, w => v = .int .u32 (z : Nat)
  | true, 3, v, w => True
  | false, 4, v, w => ∃ TA TC, v = .slice TA (4) TC ∧ w.ownsRow B0 5 1 (.slice TA (4) TC) (4) (lc (fixB z))
  | true, 4, v, w => True
  | false, 5, v, w => False
  | true, 5, v, w => ∃ TA TC, v = .slice TA (4) TC ∧ w.ownsRow B0 5 1 (.slice TA (4) TC) (4) (lc (fixB z))
  | false, 6, v, w => ∃ b, v = .pointer (some ⟨b, 0, none⟩) ∧ B0 ≤ b ∧ w.heap[b]? = some (.cells #[.slice none 0 0] 24 (0, 0))
  | true, 6, v, w => ∃ b, v = .pointer (some ⟨b, 0, none⟩) ∧ B0 ≤ b ∧ w.heap[b]? = some (.cells #[.slice none 0 0] 24 (0, 0))
  | _, _, _, _ => True
theorem putA_below (z B0 : Nat) (b : Bool) (w w' : World) (hb : Below w.heap.size w w') : ∀ j v, putA_val z B0 b j v w → putA_val z B0 b j v w' := by
  intro j v h
  match b, j, h with
  | false, 0, h => exact h
  | true, 0, h => exact h
  | false, 1, h => obtain ⟨TA, TC, h1, h2⟩ := h; exact ⟨TA, TC, h1, owns_thru h2 hb⟩
  | true, 1, h => exact h
  | false, 2, h => exact h
  | true, 2, h => exact h
  | false, 3, h => exact h
  | true, 3, h => exact h
  | false, 4, h => obtain ⟨TA, TC, h1, h2⟩ := h; exact ⟨TA, TC, h1, owns_thru h2 hb⟩
  | true, 4, h => exact h
  | false, 5, h => exact h
  | true, 5, h => obtain ⟨TA, TC, h1, h2⟩ := h; exact ⟨TA, TC, h1, owns_thru h2 hb⟩
  | false, 6, h => obtain ⟨b, h1, h2, h3⟩ := h; exact ⟨b, h1, h2, (hb.block _ (block_lt h3)).trans h3⟩
  | true, 6, h => obtain ⟨b, h1, h2, h3⟩ := h; exact ⟨b, h1, h2, (hb.block _ (block_lt h3)).trans h3⟩
  | false, _ + 7, h => exact h
  | true, _ + 7, h => exact h
abbrev fputA_mem (s : Nat) : Prop := s ∈ [12, 13, 14, 15, 16, 17, 5]

set_option maxRecDepth 100000 in
set_option maxHeartbeats 2000000 in
theorem putA (z B0 : Nat) (Q : Exit → Act → World → Prop) (t0 : Array Value) (df : List Deferred) (w0 : World) (ht : t0.size = 33)
    (hs4 : t0.getD 4 undef = .int .i64 (z : Nat))
    (hz : z < 4294967296) (hB0 : B0 = w0.heap.size)
    (hQ : ∀ (vs : Nat → Value) (w : World) b TA TC, Kept (fun _ => False) w0 w → vs 17 = .slice TA 4 TC → w.ownsRow B0 5 1 (.slice TA 4 TC) 4 (lc (fixB z)) → vs 5 = .pointer (some ⟨b, 0, none⟩) → B0 ≤ b → w.heap[b]? = some (.cells #[.slice none 0 0] 24 (0, 0)) → Q .normal { tmps := [12, 13, 14, 15, 16, 17, 5].foldl (fun y d => y.setIfInBounds d (vs d)) t0, defers := df } (w.setCell ⟨b, 0, none⟩ (.slice TA 4 TC))) :
    (Code.region 4 fputA_ops true).wp Try.prog Q { tmps := t0, defers := df } w0 := by
  have hsl : ∀ j, j < 7 → fputA_mem (fputA_slot j) := by
    intro j hj
    match j, hj with
    | 0, _ => exact (by decide : fputA_mem 12)
    | 1, _ => exact (by decide : fputA_mem 13)
    | 2, _ => exact (by decide : fputA_mem 14)
    | 3, _ => exact (by decide : fputA_mem 15)
    | 4, _ => exact (by decide : fputA_mem 16)
    | 5, _ => exact (by decide : fputA_mem 17)
    | 6, _ => exact (by decide : fputA_mem 5)
    | k + 7, hj => omega
  refine wp_region_pivot 7 5 (by kernel_rfl) ?_ (by decide) fputA_pre fputA_slot (putA_val z B0) (Kept (fun _ => False) w0) t0 df w0 ?_ (fputA_inj) ?_ ?_ rfl (putA_below z B0) ?_ ?_ ?_ ?_
  · refine .inr ⟨rfl, fun listed o hup ho hd => ?_⟩
    have e : o = { dst := none, op := Op.store 24 (Operand.tmp 5) (Operand.tmp 17), type := 0, pos := "frame.go:22", after := #[{ on := 6, ground := Ground.data }, { on := 5, ground := Ground.data }, { on := 5, ground := Ground.chain }, { on := 0, ground := Ground.phase }, { on := 1, ground := Ground.phase }, { on := 2, ground := Ground.phase }, { on := 3, ground := Ground.phase }, { on := 4, ground := Ground.phase }, { on := 5, ground := Ground.phase }, { on := 6, ground := Ground.phase }], guard := none } := (Option.some.inj ho).symm
    subst e
    have l6 : listed.getD 6 false = true := hd { on := 6, ground := Ground.data } (by simp) rfl
    have l5 : listed.getD 5 false = true := hd { on := 5, ground := Ground.data } (by simp) rfl
    have l0 : listed.getD 0 false = true := hd { on := 0, ground := Ground.phase } (by simp) rfl
    have l1 : listed.getD 1 false = true := hd { on := 1, ground := Ground.phase } (by simp) rfl
    have l2 : listed.getD 2 false = true := hd { on := 2, ground := Ground.phase } (by simp) rfl
    have l3 : listed.getD 3 false = true := hd { on := 3, ground := Ground.phase } (by simp) rfl
    have l4 : listed.getD 4 false = true := hd { on := 4, ground := Ground.phase } (by simp) rfl
    intro j hj
    match j, hj with
    | 0, _ => exact l0
    | 1, _ => exact l1
    | 2, _ => exact l2
    | 3, _ => exact l3
    | 4, _ => exact l4
    | 5, _ => exact l5
    | 6, _ => exact l6
    | k + 7, hj => omega
  · intro j o ho hj
    rw [ht]
    match j, ho, hj with
    | 0, ho, _ => cases ho; exact ⟨rfl, by decide⟩
    | 1, ho, _ => cases ho; exact ⟨rfl, by decide⟩
    | 2, ho, _ => cases ho; exact ⟨rfl, by decide⟩
    | 3, ho, _ => cases ho; exact ⟨rfl, by decide⟩
    | 4, ho, _ => cases ho; exact ⟨rfl, by decide⟩
    | 5, ho, _ => cases ho; exact ⟨rfl, by decide⟩
    | 6, ho, _ => cases ho; exact ⟨rfl, by decide⟩
    | k + 7, _, hj => omega
  · intro j o ho
    have hj : j < 8 := (Array.getElem?_eq_some_iff.1 ho).1
    match j, ho with
    | 0, ho => cases ho; decide
    | 1, ho => cases ho; decide
    | 2, ho => cases ho; decide
    | 3, ho => cases ho; decide
    | 4, ho => cases ho; decide
    | 5, ho => cases ho; decide
    | 6, ho => cases ho; decide
    | 7, ho => cases ho; decide
    | k + 8, _ => omega
  · intro listed o hup ho hd
    have e : o = { dst := some 17, op := Op.call { callee := Callee.builtin Builtin.append, args := #[Operand.tmp 13, Operand.tmp 16], argTypes := #[24, 24] }, type := 24, pos := "frame.go:22", after := #[{ on := 1, ground := Ground.data }, { on := 4, ground := Ground.data }, { on := 4, ground := Ground.chain }], guard := none } := (Option.some.inj ho).symm
    subst e
    have l1 : listed.getD 1 false = true := hd { on := 1, ground := Ground.data } (by simp) rfl
    have l4 : listed.getD 4 false = true := hd { on := 4, ground := Ground.data } (by simp) rfl
    have l3 : listed.getD 3 false = true := hup 4 { dst := some 16, op := Op.call { callee := Callee.value (Operand.func 14), args := #[Operand.tmp 15], argTypes := #[23] }, type := 24, pos := "frame.go:22", after := #[{ on := 3, ground := Ground.data }], guard := none } rfl l4 { on := 3, ground := Ground.data } (by simp) rfl
    have l2 : listed.getD 2 false = true := hup 3 { dst := some 15, op := Op.convert 3 23 (Operand.tmp 14), type := 23, pos := "frame.go:22", after := #[{ on := 2, ground := Ground.data }], guard := none } rfl l3 { on := 2, ground := Ground.data } (by simp) rfl
    have l0 : listed.getD 0 false = true := hup 1 { dst := some 13, op := Op.makeSlice 24 (Operand.const (Value.int IntKind.i64 0)) (Operand.tmp 12), type := 24, pos := "frame.go:22", after := #[{ on := 0, ground := Ground.data }], guard := none } rfl l1 { on := 0, ground := Ground.data } (by simp) rfl
    intro j hj hp
    match j, hj, hp with
    | 0, _, hp => exact l0
    | 1, _, hp => exact l1
    | 2, _, hp => exact l2
    | 3, _, hp => exact l3
    | 4, _, hp => exact l4
    | 5, _, hp => cases hp
    | 6, _, hp => cases hp
    | k + 7, hj, _ => omega
  · intro w w' hb hg
    exact hg.trans (Kept.of_below (F := fun _ => False) hb) (fun _ _ h => h)
  · intro b j o ho hj hjp hpre x w hB hGw hdef hsz hs hdeps
    have hs' : ∀ s, ¬ fputA_mem s → x.tmps.getD s undef = t0.getD s undef := fun s hn => hs s (fun j hj e => hn (by rw [e]; exact hsl j hj))
    have u4 := (hs' 4 (by decide)).trans hs4
    clear hs hs' hsl hsz ht hQ hs4
    simp only [Array.getD_eq_getD_getElem?] at u4
    match b, j, ho, hj, hjp, hpre with
    | false, 0, ho, _, _, _ =>
      have e : o = { dst := some 12, op := Op.move (Operand.tmp 4), type := 3, pos := "frame.go:22", after := #[], guard := none } := (Option.some.inj ho).symm
      subst e
      have hB := hB rfl
      clear hdeps
      refine wpOp_step ho (fun K hK => ?_)
      clear ho
      go_simp
      exact hK _ _ ⟨_, act_putD x hdef _ _, rfl, Below.refl _ _⟩
    | true, 0, _, _, _, hpre => exact absurd (hpre rfl) (by decide)
    | false, 1, ho, _, _, _ =>
      have e : o = { dst := some 13, op := Op.makeSlice 24 (Operand.const (Value.int IntKind.i64 0)) (Operand.tmp 12), type := 24, pos := "frame.go:22", after := #[{ on := 0, ground := Ground.data }], guard := none } := (Option.some.inj ho).symm
      subst e
      obtain q0 := hdeps { on := 0, ground := Ground.data } (by simp) rfl
      have q0 : x.tmps.getD 12 undef = .int .i64 (z : Nat) := q0
      have hB := hB rfl
      simp only [Array.getD_eq_getD_getElem?] at q0
      clear hdeps
      obtain ⟨i0, hi, hq0, hq1, hq2⟩ := info_parts info_u8
      obtain ⟨w', hmk, hmo, hg⟩ := run_make_own (P := Try.prog) w B0 24 5 i0 (.int .u8 0) 1 Try.underlying24 hi hq0 hq1 .i64 .i64 z (by rw [hq2]; omega) (by unfold maxLen; omega) (by subst hB0; exact hB.size)
      have hb := below_grown hg
      clear hi hq0 hq1 hq2
      refine wpOp_step ho (fun K hK => ?_)
      clear ho
      go_simp
      exact hK _ _ ⟨_, act_putD x hdef _ _, ⟨_, _, rfl, hmo⟩, hb⟩
    | true, 1, _, _, _, hpre => exact absurd (hpre rfl) (by decide)
    | false, 2, ho, _, _, _ =>
      have e : o = { dst := some 14, op := Op.move (Operand.tmp 4), type := 3, pos := "frame.go:22", after := #[], guard := none } := (Option.some.inj ho).symm
      subst e
      have hB := hB rfl
      clear hdeps
      refine wpOp_step ho (fun K hK => ?_)
      clear ho
      go_simp
      exact hK _ _ ⟨_, act_putD x hdef _ _, rfl, Below.refl _ _⟩
    | true, 2, _, _, _, hpre => exact absurd (hpre rfl) (by decide)
    | false, 3, ho, _, _, _ =>
      have e : o = { dst := some 15, op := Op.convert 3 23 (Operand.tmp 14), type := 23, pos := "frame.go:22", after := #[{ on := 2, ground := Ground.data }], guard := none } := (Option.some.inj ho).symm
      subst e
      obtain q2 := hdeps { on := 2, ground := Ground.data } (by simp) rfl
      have q2 : x.tmps.getD 14 undef = .int .i64 (z : Nat) := q2
      have hB := hB rfl
      simp only [Array.getD_eq_getD_getElem?] at q2
      clear hdeps
      refine wpOp_step ho (fun K hK => ?_)
      clear ho
      go_simp
      rw [show IntKind.u32.wrap (z : Int) = (z : Int) from by rw [IntKind.wrap_u32]; omega]
      exact hK _ _ ⟨_, act_putD x hdef _ _, rfl, Below.refl _ _⟩
    | true, 3, _, _, _, hpre => exact absurd (hpre rfl) (by decide)
    | false, 4, ho, _, _, _ =>
      have e : o = { dst := some 16, op := Op.call { callee := Callee.value (Operand.func 14), args := #[Operand.tmp 15], argTypes := #[23] }, type := 24, pos := "frame.go:22", after := #[{ on := 3, ground := Ground.data }], guard := none } := (Option.some.inj ho).symm
      subst e
      obtain q3 := hdeps { on := 3, ground := Ground.data } (by simp) rfl
      have q3 : x.tmps.getD 15 undef = .int .u32 (z : Nat) := q3
      have hB := hB rfl
      simp only [Array.getD_eq_getD_getElem?] at q3
      clear hdeps
      refine wpOp_step ho (fun K hK => ?_)
      clear ho
      go_simp
      refine (fbytesOf_any z w hz).mono ?_
      rintro e w' ⟨v, rfl, ho, hb⟩
      obtain ⟨TA, TC, rfl⟩ := owns_slice ho
      exact hK _ _ ⟨_, act_putD x hdef _ _, ⟨TA, TC, rfl, owns_lower ho (by subst hB0; exact hB.size)⟩, hb⟩
    | true, 4, _, _, _, hpre => exact absurd (hpre rfl) (by decide)
    | _, 5, _, _, hjp, _ => exact absurd rfl hjp
    | false, 6, ho, _, _, _ =>
      have e : o = { dst := some 5, op := Op.alloc 24, type := 0, pos := "frame.go:22", after := #[], guard := none } := (Option.some.inj ho).symm
      subst e
      have hB := hB rfl
      clear hdeps
      refine wpOp_step ho (fun K hK => ?_)
      clear ho
      go_simp
      exact hK _ _ ⟨_, act_putD x hdef _ _, ⟨_, rfl, by subst hB0; first | exact hB.size | exact hGw.size, heap_alloc_new _ _⟩, below_alloc _ _⟩
    | true, 6, ho, _, _, _ =>
      have e : o = { dst := some 5, op := Op.alloc 24, type := 0, pos := "frame.go:22", after := #[], guard := none } := (Option.some.inj ho).symm
      subst e
      have hGw := hGw rfl
      clear hdeps
      refine wpOp_step ho (fun K hK => ?_)
      clear ho
      go_simp
      exact hK _ _ ⟨_, act_putD x hdef _ _, ⟨_, rfl, by subst hB0; first | exact hB.size | exact hGw.size, heap_alloc_new _ _⟩, below_alloc _ _⟩
    | _, k + 7, _, hj, _, _ => omega
  · intro o ho x w hB hdef hsz hs hdeps
    have hs' : ∀ s, ¬ fputA_mem s → x.tmps.getD s undef = t0.getD s undef := fun s hn => hs s (fun j hj e => hn (by rw [e]; exact hsl j hj))
    have u4 := (hs' 4 (by decide)).trans hs4
    clear hs hs' hsl hsz ht hQ hs4
    simp only [Array.getD_eq_getD_getElem?] at u4
    have e : o = { dst := some 17, op := Op.call { callee := Callee.builtin Builtin.append, args := #[Operand.tmp 13, Operand.tmp 16], argTypes := #[24, 24] }, type := 24, pos := "frame.go:22", after := #[{ on := 1, ground := Ground.data }, { on := 4, ground := Ground.data }, { on := 4, ground := Ground.chain }], guard := none } := (Option.some.inj ho).symm
    subst e
    obtain ⟨TA1, TC1, q1, p1⟩ := hdeps { on := 1, ground := Ground.data } (by simp) rfl
    have q1 : x.tmps.getD 13 undef = .slice TA1 (0) TC1 := q1
    obtain ⟨TA4, TC4, q4, p4⟩ := hdeps { on := 4, ground := Ground.data } (by simp) rfl
    have q4 : x.tmps.getD 16 undef = .slice TA4 (4) TC4 := q4
    clear hdeps
    obtain ⟨i0, hi, hq0, hq1, hq2⟩ := info_parts info_u8
    refine wpOp_step ho (fun K hK => step_append_foot w rfl (.tmp 13) (.tmp 16) 24 rfl 5 i0 (.int .u8 0) 1 Try.underlying24 hi hq0 hq1 hq2 rfl B0 (.slice TA1 0 TC1) 0 [] q1 p1 TA4 4 TC4 (lc (fixB z)) q4 rfl (fun e => by subst e; exact owns_none p4) (owns_news p4 rfl) (lc_one _) (by unfold maxLen; omega) (by omega) (by subst hB0; exact hB.size) ?_)
    intro A' C' w' ho' hg
    rw [Nat.zero_add, List.nil_append] at ho'
    rw [Nat.zero_add] at hg
    refine hK _ _ ⟨_, rfl, ⟨A', C', rfl, ho'⟩, (Kept.of_below (F := fun _ => False) hB).trans (hg.kept (F := fun k => (Value.slice TA1 0 TC1).ownBlock = some k) (fun _ h => h)) (fun k hk h => by have := (owns_cells p1 k h).2.1; subst hB0; omega), ?_⟩
    intro i u h
    match i, h with
    | 0, h => exact trivial
    | 1, h => exact trivial
    | 2, h => exact trivial
    | 3, h => exact trivial
    | 4, h => exact trivial
    | 5, h => exact h.elim
    | 6, h => obtain ⟨b, h1, h2, h3⟩ := h; exact ⟨b, h1, h2, (hg.kept (F := fun k => (Value.slice TA1 0 TC1).ownBlock = some k) (fun _ h => h)).heap h3 (fun e => owns_tyne p1 h3 (by decide) e)⟩
    | k + 7, h => exact h
  · intro x w hG hdef hsz hs hv
    have hx := frame_sets x.tmps t0 hsz [12, 13, 14, 15, 16, 17, 5] (fun s hn => hs s (fun j hj e => hn (by rw [e]; exact hsl j hj)))
    refine ⟨fun e => absurd e (by decide), fun _ => ?_⟩
    obtain ⟨TA5, TC5, q5, p5⟩ := hv 5 (by decide)
    obtain ⟨b6, q6, r6, p6⟩ := hv 6 (by decide)
    have hq := hQ (fun d => x.tmps.getD d undef) w b6 TA5 TC5 hG q5 p5 q6 r6 p6
    obtain ⟨c0, f0⟩ := cells1 p6
    have q5' : x.tmps.getD 17 undef = .slice TA5 4 TC5 := q5
    have q6' : x.tmps.getD 5 undef = .pointer (some ⟨b6, 0, none⟩) := q6
    obtain ⟨T, Df⟩ := x
    dsimp only at hx hdef hq q5' q6'
    subst hdef
    refine wpOp_step (o := fputA_ops[7]) rfl (fun K hK => ?_)
    simp only [Array.getD_eq_getD_getElem?] at q5' q6'
    clear hQ hs hv q5 q6 p5 p6 hsz ht
    simp only [fputA_ops]
    rw [← hx] at hq
    clear hx
    go_simp
    exact hK _ _ hq
def fputZ_ops : Array Oper :=
  #[{ dst := some 27, op := Op.load 24 (Operand.tmp 5), type := 24, pos := "frame.go:26", after := #[], guard := none },
    { dst := some 28, op := Op.load 24 (Operand.tmp 5), type := 24, pos := "frame.go:26", after := #[], guard := none },
    { dst := some 29, op := Op.buildSlice 62 1 #[(0, Operand.tmp 28)], type := 62, pos := "frame.go:26", after := #[{ on := 1, ground := Ground.data }], guard := none },
    { dst := some 30, op := Op.call { callee := Callee.value (Operand.func 16), args := #[Operand.tmp 29], argTypes := #[62] }, type := 23, pos := "frame.go:26", after := #[{ on := 2, ground := Ground.data }], guard := none },
    { dst := some 31, op := Op.call { callee := Callee.value (Operand.func 14), args := #[Operand.tmp 30], argTypes := #[23] }, type := 24, pos := "frame.go:26", after := #[{ on := 3, ground := Ground.data }, { on := 3, ground := Ground.chain }], guard := none },
    { dst := some 32, op := Op.call { callee := Callee.builtin Builtin.append, args := #[Operand.tmp 27, Operand.tmp 31], argTypes := #[24, 24] }, type := 24, pos := "frame.go:26", after := #[{ on := 0, ground := Ground.data }, { on := 4, ground := Ground.data }, { on := 4, ground := Ground.chain }], guard := none },
    { dst := some 2, op := Op.assign (Operand.tmp 32), type := 24, pos := "frame.go:26", after := #[{ on := 5, ground := Ground.data }, { on := 5, ground := Ground.chain }, { on := 0, ground := Ground.phase }, { on := 1, ground := Ground.phase }, { on := 2, ground := Ground.phase }, { on := 3, ground := Ground.phase }, { on := 4, ground := Ground.phase }, { on := 5, ground := Ground.phase }], guard := none },
    { dst := some 3, op := Op.assign (Operand.const (Value.int IntKind.i64 0)), type := 27, pos := "frame.go:26", after := #[{ on := 6, ground := Ground.chain }, { on := 0, ground := Ground.phase }, { on := 1, ground := Ground.phase }, { on := 2, ground := Ground.phase }, { on := 3, ground := Ground.phase }, { on := 4, ground := Ground.phase }, { on := 5, ground := Ground.phase }, { on := 6, ground := Ground.phase }], guard := none }]
def fputZ_slot : Nat → Nat
  | 0 => 27
  | 1 => 28
  | 2 => 29
  | 3 => 30
  | 4 => 31
  | 5 => 32
  | 6 => 2
  | 7 => 3
  | j + 8 => 1033 + j
set_option maxRecDepth 100000 in
theorem fputZ_inj (i j : Nat) (hi : i < 8) (hj : j < 8) (h : fputZ_slot i = fputZ_slot j) : i = j := by
  have key : ∀ i j : Fin 8, fputZ_slot i.val = fputZ_slot j.val → i = j := by decide
  exact Fin.mk.inj (key ⟨i, hi⟩ ⟨j, hj⟩ h)
def fputZ_pre : Nat → Bool
  | 0 => true
  | 1 => true
  | 2 => true
  | 3 => true
  | 4 => true
  | _ => false
def putZ_val (n FC B0 Bf : Nat) (FA : Option Addr) (L : List Nat) : Bool → Nat → Value → World → Prop
  | false, 0, v, w => v = .slice FA n FC
  | true, 0, v, w => True
  | false, 1, v, w => v = .slice FA n FC
  | true, 1, v, w => True
  | false, 2, v, w => ∃ g, v = .slice (some ⟨g, 0, none⟩) 1 1 ∧ w.heap[g]? = some (.cells #[.slice FA n FC] 24 (0, 0))
  | true, 2, v, w => True
  | false, 3, v, w => v = .int .u32 (crcL L : Nat)
  | true, 3, v, w => True
  | false, 4, v, w => ∃ TA TC, v = .slice TA (4) TC ∧ w.ownsRow B0 5 1 (.slice TA (4) TC) (4) (lc (fixB (crcL L)))
  | true, 4, v, w => True
  | false, 5, v, w => False
  | true, 5, v, w => ∃ TA TC, v = .slice TA (n + 4) TC ∧ w.ownsRow Bf 5 1 (.slice TA (n + 4) TC) (n + 4) (lc L ++ lc (fixB (crcL L)))
  | false, 6, v, w => False
  | true, 6, v, w => ∃ TA TC, v = .slice TA (n + 4) TC ∧ w.ownsRow Bf 5 1 (.slice TA (n + 4) TC) (n + 4) (lc L ++ lc (fixB (crcL L)))
  | false, 7, v, w => False
  | true, 7, v, w => v = .int .i64 0
  | _, _, _, _ => True
theorem putZ_below (n FC B0 Bf : Nat) (FA : Option Addr) (L : List Nat) (b : Bool) (w w' : World) (hb : Below w.heap.size w w') : ∀ j v, putZ_val n FC B0 Bf FA L b j v w → putZ_val n FC B0 Bf FA L b j v w' := by
  intro j v h
  match b, j, h with
  | false, 0, h => exact h
  | true, 0, h => exact h
  | false, 1, h => exact h
  | true, 1, h => exact h
  | false, 2, h => obtain ⟨g, h1, h2⟩ := h; exact ⟨g, h1, (hb.block _ (block_lt h2)).trans h2⟩
  | true, 2, h => exact h
  | false, 3, h => exact h
  | true, 3, h => exact h
  | false, 4, h => obtain ⟨TA, TC, h1, h2⟩ := h; exact ⟨TA, TC, h1, owns_thru h2 hb⟩
  | true, 4, h => exact h
  | false, 5, h => exact h
  | true, 5, h => obtain ⟨TA, TC, h1, h2⟩ := h; exact ⟨TA, TC, h1, owns_thru h2 hb⟩
  | false, 6, h => exact h
  | true, 6, h => obtain ⟨TA, TC, h1, h2⟩ := h; exact ⟨TA, TC, h1, owns_thru h2 hb⟩
  | false, 7, h => exact h
  | true, 7, h => exact h
  | false, _ + 8, h => exact h
  | true, _ + 8, h => exact h
abbrev fputZ_mem (s : Nat) : Prop := s ∈ [27, 28, 29, 30, 31, 32, 2, 3]

set_option maxRecDepth 100000 in
set_option maxHeartbeats 2000000 in
theorem putZ (n FC B0 Bf : Nat) (FA : Option Addr) (L : List Nat) (bx : Nat) (Q : Exit → Act → World → Prop) (t0 : Array Value) (df : List Deferred) (w0 : World) (ht : t0.size = 33)
    (hs5 : t0.getD 5 undef = .pointer (some ⟨bx, 0, none⟩))
    (hbx : w0.heap[bx]? = some (.cells #[.slice FA n FC] 24 (0, 0))) (hL : L.length = n) (hn : n ≤ 1000000) (hlt : ∀ b ∈ L, b < 256) (hown : w0.ownsRow Bf 5 1 (.slice FA n FC) n (lc L)) (hBf : Bf ≤ w0.heap.size) (hB0 : B0 = w0.heap.size)
    (hQ : ∀ (vs : Nat → Value) (w : World) TA TC, Kept (fun k => (Value.slice FA n FC).ownBlock = some k) w0 w → vs 2 = .slice TA (n + 4) TC → w.ownsRow Bf 5 1 (.slice TA (n + 4) TC) (n + 4) (lc L ++ lc (fixB (crcL L))) → vs 3 = .int .i64 0 → Q .normal { tmps := [27, 28, 29, 30, 31, 32, 2, 3].foldl (fun y d => y.setIfInBounds d (vs d)) t0, defers := df } w) :
    (Code.region 9 fputZ_ops true).wp Try.prog Q { tmps := t0, defers := df } w0 := by
  have hsl : ∀ j, j < 8 → fputZ_mem (fputZ_slot j) := by
    intro j hj
    match j, hj with
    | 0, _ => exact (by decide : fputZ_mem 27)
    | 1, _ => exact (by decide : fputZ_mem 28)
    | 2, _ => exact (by decide : fputZ_mem 29)
    | 3, _ => exact (by decide : fputZ_mem 30)
    | 4, _ => exact (by decide : fputZ_mem 31)
    | 5, _ => exact (by decide : fputZ_mem 32)
    | 6, _ => exact (by decide : fputZ_mem 2)
    | 7, _ => exact (by decide : fputZ_mem 3)
    | k + 8, hj => omega
  refine wp_region_pivot 8 5 (by kernel_rfl) ?_ (by decide) fputZ_pre fputZ_slot (putZ_val n FC B0 Bf FA L) (Kept (fun k => (Value.slice FA n FC).ownBlock = some k) w0) t0 df w0 ?_ (fputZ_inj) ?_ ?_ rfl (putZ_below n FC B0 Bf FA L) ?_ ?_ ?_ ?_
  · exact .inl rfl
  · intro j o ho hj
    rw [ht]
    match j, ho, hj with
    | 0, ho, _ => cases ho; exact ⟨rfl, by decide⟩
    | 1, ho, _ => cases ho; exact ⟨rfl, by decide⟩
    | 2, ho, _ => cases ho; exact ⟨rfl, by decide⟩
    | 3, ho, _ => cases ho; exact ⟨rfl, by decide⟩
    | 4, ho, _ => cases ho; exact ⟨rfl, by decide⟩
    | 5, ho, _ => cases ho; exact ⟨rfl, by decide⟩
    | 6, ho, _ => cases ho; exact ⟨rfl, by decide⟩
    | 7, ho, _ => cases ho; exact ⟨rfl, by decide⟩
    | k + 8, _, hj => omega
  · intro j o ho
    have hj : j < 8 := (Array.getElem?_eq_some_iff.1 ho).1
    match j, ho with
    | 0, ho => cases ho; decide
    | 1, ho => cases ho; decide
    | 2, ho => cases ho; decide
    | 3, ho => cases ho; decide
    | 4, ho => cases ho; decide
    | 5, ho => cases ho; decide
    | 6, ho => cases ho; decide
    | 7, ho => cases ho; decide
    | k + 8, _ => omega
  · intro listed o hup ho hd
    have e : o = { dst := some 32, op := Op.call { callee := Callee.builtin Builtin.append, args := #[Operand.tmp 27, Operand.tmp 31], argTypes := #[24, 24] }, type := 24, pos := "frame.go:26", after := #[{ on := 0, ground := Ground.data }, { on := 4, ground := Ground.data }, { on := 4, ground := Ground.chain }], guard := none } := (Option.some.inj ho).symm
    subst e
    have l0 : listed.getD 0 false = true := hd { on := 0, ground := Ground.data } (by simp) rfl
    have l4 : listed.getD 4 false = true := hd { on := 4, ground := Ground.data } (by simp) rfl
    have l3 : listed.getD 3 false = true := hup 4 { dst := some 31, op := Op.call { callee := Callee.value (Operand.func 14), args := #[Operand.tmp 30], argTypes := #[23] }, type := 24, pos := "frame.go:26", after := #[{ on := 3, ground := Ground.data }, { on := 3, ground := Ground.chain }], guard := none } rfl l4 { on := 3, ground := Ground.data } (by simp) rfl
    have l2 : listed.getD 2 false = true := hup 3 { dst := some 30, op := Op.call { callee := Callee.value (Operand.func 16), args := #[Operand.tmp 29], argTypes := #[62] }, type := 23, pos := "frame.go:26", after := #[{ on := 2, ground := Ground.data }], guard := none } rfl l3 { on := 2, ground := Ground.data } (by simp) rfl
    have l1 : listed.getD 1 false = true := hup 2 { dst := some 29, op := Op.buildSlice 62 1 #[(0, Operand.tmp 28)], type := 62, pos := "frame.go:26", after := #[{ on := 1, ground := Ground.data }], guard := none } rfl l2 { on := 1, ground := Ground.data } (by simp) rfl
    intro j hj hp
    match j, hj, hp with
    | 0, _, hp => exact l0
    | 1, _, hp => exact l1
    | 2, _, hp => exact l2
    | 3, _, hp => exact l3
    | 4, _, hp => exact l4
    | 5, _, hp => cases hp
    | 6, _, hp => cases hp
    | 7, _, hp => cases hp
    | k + 8, hj, _ => omega
  · intro w w' hb hg
    exact hg.trans (Kept.of_below (F := fun _ => False) hb) (fun _ _ h => h.elim)
  · intro b j o ho hj hjp hpre x w hB hGw hdef hsz hs hdeps
    have hs' : ∀ s, ¬ fputZ_mem s → x.tmps.getD s undef = t0.getD s undef := fun s hn => hs s (fun j hj e => hn (by rw [e]; exact hsl j hj))
    have u5 := (hs' 5 (by decide)).trans hs5
    clear hs hs' hsl hsz ht hQ hs5
    simp only [Array.getD_eq_getD_getElem?] at u5
    match b, j, ho, hj, hjp, hpre with
    | false, 0, ho, _, _, _ =>
      have e : o = { dst := some 27, op := Op.load 24 (Operand.tmp 5), type := 24, pos := "frame.go:26", after := #[], guard := none } := (Option.some.inj ho).symm
      subst e
      have hB := hB rfl
      clear hdeps
      have c0 : w.cell? ⟨bx, 0, none⟩ = some (.slice FA n FC) := cell_of_row _ bx 0 _ _ _ ((hB.block _ (block_lt hbx)).trans hbx)
      refine wpOp_step ho (fun K hK => ?_)
      clear ho
      go_simp
      exact hK _ _ ⟨_, act_putD x hdef _ _, rfl, Below.refl _ _⟩
    | true, 0, _, _, _, hpre => exact absurd (hpre rfl) (by decide)
    | false, 1, ho, _, _, _ =>
      have e : o = { dst := some 28, op := Op.load 24 (Operand.tmp 5), type := 24, pos := "frame.go:26", after := #[], guard := none } := (Option.some.inj ho).symm
      subst e
      have hB := hB rfl
      clear hdeps
      have c0 : w.cell? ⟨bx, 0, none⟩ = some (.slice FA n FC) := cell_of_row _ bx 0 _ _ _ ((hB.block _ (block_lt hbx)).trans hbx)
      refine wpOp_step ho (fun K hK => ?_)
      clear ho
      go_simp
      exact hK _ _ ⟨_, act_putD x hdef _ _, rfl, Below.refl _ _⟩
    | true, 1, _, _, _, hpre => exact absurd (hpre rfl) (by decide)
    | false, 2, ho, _, _, _ =>
      have e : o = { dst := some 29, op := Op.buildSlice 62 1 #[(0, Operand.tmp 28)], type := 62, pos := "frame.go:26", after := #[{ on := 1, ground := Ground.data }], guard := none } := (Option.some.inj ho).symm
      subst e
      obtain q1 := hdeps { on := 1, ground := Ground.data } (by simp) rfl
      have q1 : x.tmps.getD 28 undef = .slice FA n FC := q1
      have hB := hB rfl
      simp only [Array.getD_eq_getD_getElem?] at q1
      clear hdeps
      refine wpOp_step ho (fun K hK => ?_)
      clear ho
      go_simp
      exact hK _ _ ⟨_, act_putD x hdef _ _, ⟨_, rfl, heap_alloc_new _ _⟩, below_alloc _ _⟩
    | true, 2, _, _, _, hpre => exact absurd (hpre rfl) (by decide)
    | false, 3, ho, _, _, _ =>
      have e : o = { dst := some 30, op := Op.call { callee := Callee.value (Operand.func 16), args := #[Operand.tmp 29], argTypes := #[62] }, type := 23, pos := "frame.go:26", after := #[{ on := 2, ground := Ground.data }], guard := none } := (Option.some.inj ho).symm
      subst e
      obtain ⟨g2, q2, p2⟩ := hdeps { on := 2, ground := Ground.data } (by simp) rfl
      have q2 : x.tmps.getD 29 undef = .slice (some ⟨g2, 0, none⟩) 1 1 := q2
      have hB := hB rfl
      simp only [Array.getD_eq_getD_getElem?] at q2
      clear hdeps
      obtain ⟨_, A1, C1, hvs, hAC, hCm, _, _, hbl, _⟩ := owns_bl hown hlt
      cases hvs
      have hsm := sum_one g2 FA n FC (fun i => L.getD i 0) w (by omega) hCm (cell_of_row _ g2 0 _ _ _ p2) (by have := hbl.below hB; unfold BL at this; rw [hL] at this; exact this)
      rw [show sumN (fun i => L.getD i 0) n = crcL L from by unfold crcL; rw [hL]] at hsm
      clear hbl
      refine wpOp_step ho (fun K hK => ?_)
      clear ho
      go_simp
      refine hsm.mono ?_
      rintro e w' ⟨rfl, hb⟩
      exact hK _ _ ⟨_, act_putD x hdef _ _, rfl, hb⟩
    | true, 3, _, _, _, hpre => exact absurd (hpre rfl) (by decide)
    | false, 4, ho, _, _, _ =>
      have e : o = { dst := some 31, op := Op.call { callee := Callee.value (Operand.func 14), args := #[Operand.tmp 30], argTypes := #[23] }, type := 24, pos := "frame.go:26", after := #[{ on := 3, ground := Ground.data }, { on := 3, ground := Ground.chain }], guard := none } := (Option.some.inj ho).symm
      subst e
      obtain q3 := hdeps { on := 3, ground := Ground.data } (by simp) rfl
      have q3 : x.tmps.getD 30 undef = .int .u32 (crcL L : Nat) := q3
      have hB := hB rfl
      simp only [Array.getD_eq_getD_getElem?] at q3
      clear hdeps
      refine wpOp_step ho (fun K hK => ?_)
      clear ho
      go_simp
      refine (fbytesOf_any (crcL L) w (crcL_lt L)).mono ?_
      rintro e w' ⟨v, rfl, ho, hb⟩
      obtain ⟨TA, TC, rfl⟩ := owns_slice ho
      exact hK _ _ ⟨_, act_putD x hdef _ _, ⟨TA, TC, rfl, owns_lower ho (by subst hB0; exact hB.size)⟩, hb⟩
    | true, 4, _, _, _, hpre => exact absurd (hpre rfl) (by decide)
    | _, 5, _, _, hjp, _ => exact absurd rfl hjp
    | false, 6, ho, _, _, _ =>
      have e : o = { dst := some 2, op := Op.assign (Operand.tmp 32), type := 24, pos := "frame.go:26", after := #[{ on := 5, ground := Ground.data }, { on := 5, ground := Ground.chain }, { on := 0, ground := Ground.phase }, { on := 1, ground := Ground.phase }, { on := 2, ground := Ground.phase }, { on := 3, ground := Ground.phase }, { on := 4, ground := Ground.phase }, { on := 5, ground := Ground.phase }], guard := none } := (Option.some.inj ho).symm
      subst e
      exact (hdeps { on := 5, ground := Ground.data } (by simp) rfl : False).elim
    | true, 6, ho, _, _, _ =>
      have e : o = { dst := some 2, op := Op.assign (Operand.tmp 32), type := 24, pos := "frame.go:26", after := #[{ on := 5, ground := Ground.data }, { on := 5, ground := Ground.chain }, { on := 0, ground := Ground.phase }, { on := 1, ground := Ground.phase }, { on := 2, ground := Ground.phase }, { on := 3, ground := Ground.phase }, { on := 4, ground := Ground.phase }, { on := 5, ground := Ground.phase }], guard := none } := (Option.some.inj ho).symm
      subst e
      obtain ⟨TA5, TC5, q5, p5⟩ := hdeps { on := 5, ground := Ground.data } (by simp) rfl
      have q5 : x.tmps.getD 32 undef = .slice TA5 (n + 4) TC5 := q5
      have hGw := hGw rfl
      simp only [Array.getD_eq_getD_getElem?] at q5
      clear hdeps
      refine wpOp_step ho (fun K hK => ?_)
      clear ho
      go_simp
      exact hK _ _ ⟨_, act_putD x hdef _ _, ⟨_, _, rfl, p5⟩, Below.refl _ _⟩
    | false, 7, ho, _, _, _ =>
      have e : o = { dst := some 3, op := Op.assign (Operand.const (Value.int IntKind.i64 0)), type := 27, pos := "frame.go:26", after := #[{ on := 6, ground := Ground.chain }, { on := 0, ground := Ground.phase }, { on := 1, ground := Ground.phase }, { on := 2, ground := Ground.phase }, { on := 3, ground := Ground.phase }, { on := 4, ground := Ground.phase }, { on := 5, ground := Ground.phase }, { on := 6, ground := Ground.phase }], guard := none } := (Option.some.inj ho).symm
      subst e
      exact (hdeps { on := 6, ground := Ground.chain } (by simp) rfl : False).elim
    | true, 7, ho, _, _, _ =>
      have e : o = { dst := some 3, op := Op.assign (Operand.const (Value.int IntKind.i64 0)), type := 27, pos := "frame.go:26", after := #[{ on := 6, ground := Ground.chain }, { on := 0, ground := Ground.phase }, { on := 1, ground := Ground.phase }, { on := 2, ground := Ground.phase }, { on := 3, ground := Ground.phase }, { on := 4, ground := Ground.phase }, { on := 5, ground := Ground.phase }, { on := 6, ground := Ground.phase }], guard := none } := (Option.some.inj ho).symm
      subst e
      have hGw := hGw rfl
      clear hdeps
      refine wpOp_step ho (fun K hK => ?_)
      clear ho
      go_simp
      exact hK _ _ ⟨_, act_putD x hdef _ _, rfl, Below.refl _ _⟩
    | _, k + 8, _, hj, _, _ => omega
  · intro o ho x w hB hdef hsz hs hdeps
    have hs' : ∀ s, ¬ fputZ_mem s → x.tmps.getD s undef = t0.getD s undef := fun s hn => hs s (fun j hj e => hn (by rw [e]; exact hsl j hj))
    have u5 := (hs' 5 (by decide)).trans hs5
    clear hs hs' hsl hsz ht hQ hs5
    simp only [Array.getD_eq_getD_getElem?] at u5
    have e : o = { dst := some 32, op := Op.call { callee := Callee.builtin Builtin.append, args := #[Operand.tmp 27, Operand.tmp 31], argTypes := #[24, 24] }, type := 24, pos := "frame.go:26", after := #[{ on := 0, ground := Ground.data }, { on := 4, ground := Ground.data }, { on := 4, ground := Ground.chain }], guard := none } := (Option.some.inj ho).symm
    subst e
    obtain q0 := hdeps { on := 0, ground := Ground.data } (by simp) rfl
    have q0 : x.tmps.getD 27 undef = .slice FA n FC := q0
    obtain ⟨TA4, TC4, q4, p4⟩ := hdeps { on := 4, ground := Ground.data } (by simp) rfl
    have q4 : x.tmps.getD 31 undef = .slice TA4 (4) TC4 := q4
    clear hdeps
    obtain ⟨i0, hi, hq0, hq1, hq2⟩ := info_parts info_u8
    refine wpOp_step ho (fun K hK => step_append_foot w rfl (.tmp 27) (.tmp 31) 24 rfl 5 i0 (.int .u8 0) 1 Try.underlying24 hi hq0 hq1 hq2 rfl Bf (.slice FA n FC) n (lc L) q0 (owns_thru hown hB) TA4 4 TC4 (lc (fixB (crcL L))) q4 rfl (fun e => by subst e; exact owns_none p4) (owns_news p4 rfl) (lc_one _) (by unfold maxLen; omega) (by omega) (Nat.le_trans hBf hB.size) ?_)
    intro A' C' w' ho' hg
    refine hK _ _ ⟨_, rfl, ⟨A', C', rfl, ho'⟩, (Kept.of_below (F := fun k => (Value.slice FA n FC).ownBlock = some k) hB).trans (hg.kept (F := fun k => (Value.slice FA n FC).ownBlock = some k) (fun _ h => h)) (fun k hk h => h), ?_⟩
    intro i u h
    match i, h with
    | 0, h => exact trivial
    | 1, h => exact trivial
    | 2, h => exact trivial
    | 3, h => exact trivial
    | 4, h => exact trivial
    | 5, h => exact h.elim
    | 6, h => exact h.elim
    | 7, h => exact h.elim
    | k + 8, h => exact h
  · intro x w hG hdef hsz hs hv
    have hx := frame_sets x.tmps t0 hsz [27, 28, 29, 30, 31, 32, 2, 3] (fun s hn => hs s (fun j hj e => hn (by rw [e]; exact hsl j hj)))
    refine ⟨fun _ => ?_, fun e => absurd e (by decide)⟩
    obtain ⟨TA6, TC6, q6, p6⟩ := hv 6 (by decide)
    have q7 := hv 7 (by decide)
    have hq := hQ (fun d => x.tmps.getD d undef) w TA6 TC6 hG q6 p6 q7
    obtain ⟨T, Df⟩ := x
    dsimp only at hx hdef hq
    subst hdef
    rw [← hx] at hq
    exact hq
end Go.Proofs.Ytlmjplpledilhaa
