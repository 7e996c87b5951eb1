/-
  The kit's questions whether two parts, two rows of parts, are the same (written by tools/gen-sameparts.py).
-/
import Derived.Test.YtppdbinppibjhaaGreatDoorPrt
import Derived.Test.YtppdbinppibjhaaGreatDoorRegionsA
namespace Go.Proofs.YtppdbinppibjhaaGreatDoor
open Go.RowKit
set_option linter.unusedVariables false
set_option linter.unusedSimpArgs false

set_option maxRecDepth 100000 in
set_option maxHeartbeats 400000 in
theorem samePart_any (T l : Nat) (L : List Nat) (pa pb : Option Addr) (ca cb : Nat) (w : World) (hl : L.length = l) (hL : l ≤ 9223372036854775807) (ha : BL w pa L) (hb : BL w pb L) :
    Calls Tryz.prog 152 #[.agg #[.int .u8 (T : Nat), .slice pa l ca], .agg #[.int .u8 (T : Nat), .slice pb l cb]] w fun e w' => e = .returned (.bool true) ∧ Below w.heap.size w w' := by
  have hs := fun (W : World) (hW : Below w.heap.size w W) => sameBytes_any pa pb l ca cb L W hl hL (ha.below hW) (hb.below hW)
  obtain ⟨W1, hW1⟩ : ∃ W1, w.alloc (.cells #[.int .u8 (T : Nat), .slice pa l ca] 40) = W1 := ⟨_, rfl⟩
  have hB1 : Below w.heap.size w W1 := by rw [← hW1]; exact below_alloc _ _
  have hs1 : W1.heap.size = w.heap.size + 1 := by rw [← hW1]; simp
  have h1 : W1.heap[w.heap.size]? = some (.cells #[.int .u8 (T : Nat), .slice pa l ca] 40 (0, 0)) := by rw [← hW1]; exact heap_alloc_new _ _
  obtain ⟨W2, hW2⟩ : ∃ W2, W1.alloc (.cells #[.int .u8 (T : Nat), .slice pb l cb] 40) = W2 := ⟨_, rfl⟩
  have hB2 : Below W1.heap.size W1 W2 := by rw [← hW2]; exact below_alloc _ _
  have h2 : W2.heap[W1.heap.size]? = some (.cells #[.int .u8 (T : Nat), .slice pb l cb] 40 (0, 0)) := by rw [← hW2]; exact heap_alloc_new _ _
  have h12 := (hB2.block _ (block_lt h1)).trans h1
  have e0 : W2.cell? ⟨w.heap.size, 0, none⟩ = some (.int .u8 (T : Nat)) := cell_of_row _ _ 0 _ _ _ h12
  have e1 : W2.cell? ⟨w.heap.size, 1, none⟩ = some (.slice pa l ca) := cell_of_row _ _ 1 _ _ _ h12
  have e2 : W2.cell? ⟨W1.heap.size, 0, none⟩ = some (.int .u8 (T : Nat)) := cell_of_row _ _ 0 _ _ _ h2
  have e3 : W2.cell? ⟨W1.heap.size, 1, none⟩ = some (.slice pb l cb) := cell_of_row _ _ 1 _ _ _ h2
  have hB : Below w.heap.size w W2 := hB1.trans (hB2.mono hB1.size)
  have hs2 := hs W2 hB
  have HS1 := hide hs1
  clear ha hb hs h1 h2 h12 hs1 hL
  go_enter Tryz.func152, Tryz.ntmps152
  go_wp2_with fail
  refine hs2.mono ?_
  rintro e w' ⟨rfl, hb⟩
  go_wp2_with fail
  go_ret
  exact ⟨rfl, hB.trans (hb.mono hB.size)⟩

abbrev sameP_mem (s : Nat) : Prop := s ∈ [17, 18, 19, 20, 21, 22, 23, 24, 25, 26]
theorem sameP_list (s : Nat) (h : sameP_mem s) : s ∈ [17, 18, 19, 20, 21, 22, 23, 24, 25, 26] := h
def sameP_ops : Array Oper :=
  #[{ dst := some 17, op := Op.move (Operand.tmp 0), type := 41, pos := "same.go:478", after := #[], guard := none },
    { dst := some 18, op := Op.move (Operand.tmp 5), type := 3, pos := "same.go:478", after := #[], guard := none },
    { dst := some 19, op := Op.indexAddr 41 (Operand.tmp 17) (Operand.tmp 18), type := 0, pos := "same.go:478", after := #[{ on := 0, ground := Ground.data }, { on := 1, ground := Ground.data }], guard := none },
    { dst := some 20, op := Op.load 40 (Operand.tmp 19), type := 40, pos := "same.go:478", after := #[{ on := 2, ground := Ground.data }], guard := none },
    { dst := some 21, op := Op.move (Operand.tmp 1), type := 41, pos := "same.go:478", after := #[], guard := none },
    { dst := some 22, op := Op.move (Operand.tmp 5), type := 3, pos := "same.go:478", after := #[], guard := none },
    { dst := some 23, op := Op.indexAddr 41 (Operand.tmp 21) (Operand.tmp 22), type := 0, pos := "same.go:478", after := #[{ on := 4, ground := Ground.data }, { on := 5, ground := Ground.data }], guard := none },
    { dst := some 24, op := Op.load 40 (Operand.tmp 23), type := 40, pos := "same.go:478", after := #[{ on := 6, ground := Ground.data }], guard := none },
    { dst := some 25, op := Op.call { callee := Callee.value (Operand.func 152), args := #[Operand.tmp 20, Operand.tmp 24], argTypes := #[40, 40] }, type := 4, pos := "same.go:478", after := #[{ on := 3, ground := Ground.data }, { on := 7, ground := Ground.data }], guard := none },
    { dst := some 26, op := Op.unOp UnOp.not 4 (Operand.tmp 25), type := 4, pos := "same.go:478", after := #[{ on := 8, ground := Ground.data }], guard := none }]
def sameP_slot : Nat → Nat
  | 0 => 17
  | 1 => 18
  | 2 => 19
  | 3 => 20
  | 4 => 21
  | 5 => 22
  | 6 => 23
  | 7 => 24
  | 8 => 25
  | 9 => 26
  | j + 10 => 1027 + j

set_option maxRecDepth 100000 in
theorem sameP_inj (i j : Nat) (hi : i < 10) (hj : j < 10) (h : sameP_slot i = sameP_slot j) : i = j := by
  have key : ∀ i j : Fin 10, sameP_slot i.val = sameP_slot j.val → i = j := by decide
  exact Fin.mk.inj (key ⟨i, hi⟩ ⟨j, hj⟩ h)
def samePR_val (n k ca cb T l ga oa gb ob c1 c2 : Nat) (p1 p2 : Option Addr) : Nat → Value → World → Prop
  | 0, v, w => v = .slice (some ⟨ga, oa, none⟩) n ca
  | 1, v, w => v = .int .i64 (k : Nat)
  | 2, v, w => v = .pointer (some ⟨ga, oa + k * 2, none⟩)
  | 3, v, w => v = .agg #[.int .u8 (T : Nat), .slice p1 l c1]
  | 4, v, w => v = .slice (some ⟨gb, ob, none⟩) n cb
  | 5, v, w => v = .int .i64 (k : Nat)
  | 6, v, w => v = .pointer (some ⟨gb, ob + k * 2, none⟩)
  | 7, v, w => v = .agg #[.int .u8 (T : Nat), .slice p2 l c2]
  | 8, v, w => v = .bool true
  | 9, v, w => v = .bool false
  | _, _, _ => True
theorem samePR_below (n k ca cb T l ga oa gb ob c1 c2 : Nat) (p1 p2 : Option Addr) (w w' : World) (hb : Below w.heap.size w w') : ∀ j v, samePR_val n k ca cb T l ga oa gb ob c1 c2 p1 p2 j v w → samePR_val n k ca cb T l ga oa gb ob c1 c2 p1 p2 j v w' := by
  intro j v h
  match j, h with
  | 0, h => exact h
  | 1, h => exact h
  | 2, h => exact h
  | 3, h => exact h
  | 4, h => exact h
  | 5, h => exact h
  | 6, h => exact h
  | 7, h => exact h
  | 8, h => exact h
  | 9, h => exact h
  | _ + 10, h => exact h

set_option maxRecDepth 100000 in
set_option maxHeartbeats 2000000 in
theorem samePR (n k ca cb T l ga oa gb ob c1 c2 : Nat) (p1 p2 : Option Addr) (Q : Exit → Act → World → Prop) (t0 : Array Value) (w0 : World) (ht : t0.size = 27)
    (hs0 : t0.getD 0 undef = .slice (some ⟨ga, oa, none⟩) n ca) (hs1 : t0.getD 1 undef = .slice (some ⟨gb, ob, none⟩) n cb) (hs5 : t0.getD 5 undef = .int .i64 (k : Nat))
    (hkn : k < n) (ha0 : w0.cell? ⟨ga, oa + k * 2, none⟩ = some (.int .u8 (T : Nat))) (ha1 : w0.cell? ⟨ga, oa + k * 2 + 1, none⟩ = some (.slice p1 l c1)) (hb0 : w0.cell? ⟨gb, ob + k * 2, none⟩ = some (.int .u8 (T : Nat))) (hb1 : w0.cell? ⟨gb, ob + k * 2 + 1, none⟩ = some (.slice p2 l c2))
    (cs : ∀ W, Below w0.heap.size w0 W → Calls Tryz.prog 152 #[.agg #[.int .u8 (T : Nat), .slice p1 l c1], .agg #[.int .u8 (T : Nat), .slice p2 l c2]] W fun e w' => e = .returned (.bool true) ∧ Below W.heap.size W w')
    (hQ : ∀ (vs : Nat → Value) (w : World), Below w0.heap.size w0 w → (vs 26 = .bool false) → Q .normal { tmps := [17, 18, 19, 20, 21, 22, 23, 24, 25, 26].foldl (fun y d => y.setIfInBounds d (vs d)) t0, defers := [] } w) :
    (Code.region 6 sameP_ops true).wp Tryz.prog Q { tmps := t0, defers := [] } w0 := by
  have hsl : ∀ j, j < 10 → sameP_mem (sameP_slot j) := by
    intro j hj
    match j, hj with
    | 0, _ => exact (by decide : sameP_mem 17)
    | 1, _ => exact (by decide : sameP_mem 18)
    | 2, _ => exact (by decide : sameP_mem 19)
    | 3, _ => exact (by decide : sameP_mem 20)
    | 4, _ => exact (by decide : sameP_mem 21)
    | 5, _ => exact (by decide : sameP_mem 22)
    | 6, _ => exact (by decide : sameP_mem 23)
    | 7, _ => exact (by decide : sameP_mem 24)
    | 8, _ => exact (by decide : sameP_mem 25)
    | 9, _ => exact (by decide : sameP_mem 26)
    | k + 10, hj => omega
  refine wp_region_inv (by kernel_rfl) sameP_slot (samePR_val n k ca cb T l ga oa gb ob c1 c2 p1 p2) t0 w0 ?_ ?_ ?_ (samePR_below n k ca cb T l ga oa gb ob c1 c2 p1 p2) ?_ ?_
  · intro j o ho
    have hj : j < 10 := (Array.getElem?_eq_some_iff.1 ho).1
    rw [ht]
    match j, ho with
    | 0, ho => cases ho; exact ⟨rfl, by decide⟩
    | 1, ho => cases ho; exact ⟨rfl, by decide⟩
    | 2, ho => cases ho; exact ⟨rfl, by decide⟩
    | 3, ho => cases ho; exact ⟨rfl, by decide⟩
    | 4, ho => cases ho; exact ⟨rfl, by decide⟩
    | 5, ho => cases ho; exact ⟨rfl, by decide⟩
    | 6, ho => cases ho; exact ⟨rfl, by decide⟩
    | 7, ho => cases ho; exact ⟨rfl, by decide⟩
    | 8, ho => cases ho; exact ⟨rfl, by decide⟩
    | 9, ho => cases ho; exact ⟨rfl, by decide⟩
    | k + 10, _ => omega
  · intro i j hi hj h
    exact sameP_inj i j hi hj h
  · intro j o ho
    have hj : j < 10 := (Array.getElem?_eq_some_iff.1 ho).1
    match j, ho with
    | 0, ho => cases ho; decide
    | 1, ho => cases ho; decide
    | 2, ho => cases ho; decide
    | 3, ho => cases ho; decide
    | 4, ho => cases ho; decide
    | 5, ho => cases ho; decide
    | 6, ho => cases ho; decide
    | 7, ho => cases ho; decide
    | 8, ho => cases ho; decide
    | 9, ho => cases ho; decide
    | k + 10, _ => omega
  · intro j o ho x w hB hdef hsz hs hdeps
    have hs' : ∀ s, ¬ sameP_mem s → x.tmps.getD s undef = t0.getD s undef := fun s hn => hs s (fun j hj e => hn (by rw [e]; exact hsl j hj))
    have u0 := (hs' 0 (by decide)).trans hs0
    have u1 := (hs' 1 (by decide)).trans hs1
    have u5 := (hs' 5 (by decide)).trans hs5
    have hj : j < 10 := (Array.getElem?_eq_some_iff.1 ho).1
    clear hs hs' hsl hsz ht hQ hs0 hs1 hs5
    simp only [Array.getD_eq_getD_getElem?] at u0 u1 u5
    match j, ho with
    | 0, ho =>
      have e : o = { dst := some 17, op := Op.move (Operand.tmp 0), type := 41, pos := "same.go:478", after := #[], guard := none } := (Option.some.inj ho).symm
      subst e
      clear hdeps
      refine wpOp_step ho (fun K hK => ?_)
      clear ho
      go_simp
      exact hK _ _ ⟨_, act_putD x hdef _ _, rfl, Below.refl _ _⟩
    | 1, ho =>
      have e : o = { dst := some 18, op := Op.move (Operand.tmp 5), type := 3, pos := "same.go:478", after := #[], guard := none } := (Option.some.inj ho).symm
      subst e
      clear hdeps
      refine wpOp_step ho (fun K hK => ?_)
      clear ho
      go_simp
      exact hK _ _ ⟨_, act_putD x hdef _ _, rfl, Below.refl _ _⟩
    | 2, ho =>
      have e : o = { dst := some 19, op := Op.indexAddr 41 (Operand.tmp 17) (Operand.tmp 18), type := 0, pos := "same.go:478", after := #[{ on := 0, ground := Ground.data }, { on := 1, ground := Ground.data }], guard := none } := (Option.some.inj ho).symm
      subst e
      have q0 : x.tmps.getD 17 undef = .slice (some ⟨ga, oa, none⟩) n ca := hdeps { on := 0, ground := Ground.data } (by simp) rfl
      have q1 : x.tmps.getD 18 undef = .int .i64 (k : Nat) := hdeps { on := 1, ground := Ground.data } (by simp) rfl
      simp only [Array.getD_eq_getD_getElem?] at q0 q1
      clear hdeps
      have kz : (k : Int) < (n : Int) := by omega
      have kz0 : (0 : Int) ≤ (k : Int) := by omega
      refine wpOp_step ho (fun K hK => ?_)
      clear ho
      go_simp
      exact hK _ _ ⟨_, act_putD x hdef _ _, rfl, Below.refl _ _⟩
    | 3, ho =>
      have e : o = { dst := some 20, op := Op.load 40 (Operand.tmp 19), type := 40, pos := "same.go:478", after := #[{ on := 2, ground := Ground.data }], guard := none } := (Option.some.inj ho).symm
      subst e
      have q2 : x.tmps.getD 19 undef = .pointer (some ⟨ga, oa + k * 2, none⟩) := hdeps { on := 2, ground := Ground.data } (by simp) rfl
      simp only [Array.getD_eq_getD_getElem?] at q2
      clear hdeps
      have c0 := cell_thru ha0 hB
      have c1' := cell_thru ha1 hB
      refine wpOp_step ho (fun K hK => ?_)
      clear ho
      go_simp
      exact hK _ _ ⟨_, act_putD x hdef _ _, rfl, Below.refl _ _⟩
    | 4, ho =>
      have e : o = { dst := some 21, op := Op.move (Operand.tmp 1), type := 41, pos := "same.go:478", after := #[], guard := none } := (Option.some.inj ho).symm
      subst e
      clear hdeps
      refine wpOp_step ho (fun K hK => ?_)
      clear ho
      go_simp
      exact hK _ _ ⟨_, act_putD x hdef _ _, rfl, Below.refl _ _⟩
    | 5, ho =>
      have e : o = { dst := some 22, op := Op.move (Operand.tmp 5), type := 3, pos := "same.go:478", after := #[], guard := none } := (Option.some.inj ho).symm
      subst e
      clear hdeps
      refine wpOp_step ho (fun K hK => ?_)
      clear ho
      go_simp
      exact hK _ _ ⟨_, act_putD x hdef _ _, rfl, Below.refl _ _⟩
    | 6, ho =>
      have e : o = { dst := some 23, op := Op.indexAddr 41 (Operand.tmp 21) (Operand.tmp 22), type := 0, pos := "same.go:478", after := #[{ on := 4, ground := Ground.data }, { on := 5, ground := Ground.data }], guard := none } := (Option.some.inj ho).symm
      subst e
      have q4 : x.tmps.getD 21 undef = .slice (some ⟨gb, ob, none⟩) n cb := hdeps { on := 4, ground := Ground.data } (by simp) rfl
      have q5 : x.tmps.getD 22 undef = .int .i64 (k : Nat) := hdeps { on := 5, ground := Ground.data } (by simp) rfl
      simp only [Array.getD_eq_getD_getElem?] at q4 q5
      clear hdeps
      have kz : (k : Int) < (n : Int) := by omega
      have kz0 : (0 : Int) ≤ (k : Int) := by omega
      refine wpOp_step ho (fun K hK => ?_)
      clear ho
      go_simp
      exact hK _ _ ⟨_, act_putD x hdef _ _, rfl, Below.refl _ _⟩
    | 7, ho =>
      have e : o = { dst := some 24, op := Op.load 40 (Operand.tmp 23), type := 40, pos := "same.go:478", after := #[{ on := 6, ground := Ground.data }], guard := none } := (Option.some.inj ho).symm
      subst e
      have q6 : x.tmps.getD 23 undef = .pointer (some ⟨gb, ob + k * 2, none⟩) := hdeps { on := 6, ground := Ground.data } (by simp) rfl
      simp only [Array.getD_eq_getD_getElem?] at q6
      clear hdeps
      have c0 := cell_thru hb0 hB
      have c1' := cell_thru hb1 hB
      refine wpOp_step ho (fun K hK => ?_)
      clear ho
      go_simp
      exact hK _ _ ⟨_, act_putD x hdef _ _, rfl, Below.refl _ _⟩
    | 8, ho =>
      have e : o = { dst := some 25, op := Op.call { callee := Callee.value (Operand.func 152), args := #[Operand.tmp 20, Operand.tmp 24], argTypes := #[40, 40] }, type := 4, pos := "same.go:478", after := #[{ on := 3, ground := Ground.data }, { on := 7, ground := Ground.data }], guard := none } := (Option.some.inj ho).symm
      subst e
      have q3 : x.tmps.getD 20 undef = .agg #[.int .u8 (T : Nat), .slice p1 l c1] := hdeps { on := 3, ground := Ground.data } (by simp) rfl
      have q7 : x.tmps.getD 24 undef = .agg #[.int .u8 (T : Nat), .slice p2 l c2] := hdeps { on := 7, ground := Ground.data } (by simp) rfl
      simp only [Array.getD_eq_getD_getElem?] at q3 q7
      clear hdeps
      refine wpOp_step ho (fun K hK => ?_)
      clear ho
      go_simp
      refine (cs w hB).mono ?_
      rintro e w' ⟨rfl, hb⟩
      exact hK _ _ ⟨_, act_putD x hdef _ _, rfl, hb⟩
    | 9, ho =>
      have e : o = { dst := some 26, op := Op.unOp UnOp.not 4 (Operand.tmp 25), type := 4, pos := "same.go:478", after := #[{ on := 8, ground := Ground.data }], guard := none } := (Option.some.inj ho).symm
      subst e
      have q8 : x.tmps.getD 25 undef = .bool true := hdeps { on := 8, ground := Ground.data } (by simp) rfl
      simp only [Array.getD_eq_getD_getElem?] at q8
      clear hdeps
      refine wpOp_step ho (fun K hK => ?_)
      clear ho
      go_simp
      exact hK _ _ ⟨_, act_putD x hdef _ _, rfl, Below.refl _ _⟩
    | k + 10, _ => omega
  · intro x w hB hdef hsz hs hv
    have hx := frame_sets x.tmps t0 hsz [17, 18, 19, 20, 21, 22, 23, 24, 25, 26] (fun s hn => hs s (fun j hj e => hn (sameP_list s (by rw [e]; exact hsl j hj))))
    have hq := hQ (fun d => x.tmps.getD d undef) w hB (hv 9 (by decide))
    obtain ⟨T, Df⟩ := x
    dsimp only at hx hdef hq
    subst hdef
    rw [← hx] at hq
    exact hq


/-- How much parts are. -/
def cntP (P : Nat → Prt) : Nat → Nat
  | 0 => 0
  | k + 1 => cntP P k + 1 + (P k).B.length
end Go.Proofs.YtppdbinppibjhaaGreatDoor
