/-
  'out = Union(out, Of(b))' in a round of set.Meet, set.Fold: the regions that draw their order (written by tools/gen-sput.py).
-/
import Derived.Test.YtmnjicpgdhnimaaDoorSRange
import Derived.Test.YtmnjicpgdhnimaaDoorSCollect
import Derived.Test.YtmnjicpgdhnimaaDoorRegionsA
namespace Go.Proofs.YtmnjicpgdhnimaaDoor
open Go.RowKit Go.Shelf
set_option linter.unusedVariables false
set_option linter.unusedSimpArgs false

theorem act_put (x : Act) (h : x.defers = []) (d : Nat) (v : Value) : ({ tmps := x.tmps.setIfInBounds d v, defers := [] } : Act) = x.put (some d) v := by
  cases x; cases h; rfl
def sputM_ops : Array Oper :=
  #[{ dst := some 22, op := Op.load 24 (Operand.tmp 3), type := 24, pos := "set.go:57", after := #[], guard := none },
    { dst := some 23, op := Op.move (Operand.tmp 4), type := 5, pos := "set.go:57", after := #[], guard := none },
    { dst := some 24, op := Op.buildSlice 25 1 #[(0, Operand.tmp 23)], type := 25, pos := "set.go:57", after := #[{ on := 1, ground := Ground.data }], guard := none },
    { dst := some 25, op := Op.call { callee := Callee.value (Operand.func 13), args := #[Operand.tmp 24], argTypes := #[25] }, type := 24, pos := "set.go:57", after := #[{ on := 2, ground := Ground.data }], guard := none },
    { dst := some 26, op := Op.buildSlice 31 2 #[(0, Operand.tmp 22), (1, Operand.tmp 25)], type := 31, pos := "set.go:57", after := #[{ on := 0, ground := Ground.data }, { on := 3, ground := Ground.data }], guard := none },
    { dst := some 27, op := Op.call { callee := Callee.value (Operand.func 17), args := #[Operand.tmp 26], argTypes := #[31] }, type := 24, pos := "set.go:57", after := #[{ on := 4, ground := Ground.data }, { on := 3, ground := Ground.chain }], guard := none },
    { dst := none, op := Op.store 24 (Operand.tmp 3) (Operand.tmp 27), type := 0, pos := "set.go:57", after := #[{ on := 5, ground := Ground.data }, { on := 5, ground := Ground.chain }, { on := 0, ground := Ground.phase }, { on := 1, ground := Ground.phase }, { on := 2, ground := Ground.phase }, { on := 3, ground := Ground.phase }, { on := 4, ground := Ground.phase }, { on := 5, ground := Ground.phase }], guard := none }]
def sputM_slot : Nat → Nat
  | 0 => 22
  | 1 => 23
  | 2 => 24
  | 3 => 25
  | 4 => 26
  | 5 => 27
  | 6 => 9006
  | j + 7 => 1029 + j
set_option maxRecDepth 100000 in
theorem sputM_inj (i j : Nat) (hi : i < 5) (hj : j < 5) (h : sputM_slot i = sputM_slot j) : i = j := by
  have key : ∀ i j : Fin 5, sputM_slot i.val = sputM_slot j.val → i = j := by decide
  exact Fin.mk.inj (key ⟨i, hi⟩ ⟨j, hj⟩ h)
def sputM_val (l c bx : Nat) (G : Nat → Bool) : Nat → Value → World → Prop
  | 0, v, w => v = .agg #[.int .u64 (wd G 0 : Nat), .int .u64 (wd G 1 : Nat), .int .u64 (wd G 2 : Nat), .int .u64 (wd G 3 : Nat)]
  | 1, v, w => v = .int .u8 (c : Nat)
  | 2, v, w => ∃ g, v = .slice (some ⟨g, 0, none⟩) 1 1 ∧ Byt w (some ⟨g, 0, none⟩) 1 (fun _ => c)
  | 3, v, w => v = .agg #[.int .u64 (wd (inz (fun _ => c) 1) 0 : Nat), .int .u64 (wd (inz (fun _ => c) 1) 1 : Nat), .int .u64 (wd (inz (fun _ => c) 1) 2 : Nat), .int .u64 (wd (inz (fun _ => c) 1) 3 : Nat)]
  | 4, v, w => ∃ g, v = .slice (some ⟨g, 0, none⟩) 2 2 ∧ Sets w (some ⟨g, 0, none⟩) 2 (two G (inz (fun _ => c) 1))
  | _, _, _ => True
theorem sputM_below (l c bx : Nat) (G : Nat → Bool) (w w' : World) (hb : Below w.heap.size w w') : ∀ j v, sputM_val l c bx G j v w → sputM_val l c bx G j v w' := by
  intro j v h
  match j, h with
  | 0, h => exact h
  | 1, h => exact h
  | 2, h => obtain ⟨g, h1, h2⟩ := h; exact ⟨g, h1, h2.below hb⟩
  | 3, h => exact h
  | 4, h => obtain ⟨g, h1, h2⟩ := h; exact ⟨g, h1, h2.below hb⟩
  | _ + 5, h => exact h
abbrev sputM_mem (s : Nat) : Prop := s ∈ [22, 23, 24, 25, 26]

set_option maxRecDepth 100000 in
set_option maxHeartbeats 2000000 in
theorem sputM (l c bx : Nat) (G : Nat → Bool) (N : Nat) (Q : Exit → Act → World → Prop) (t0 : Array Value) (w0 : World) (ht : t0.size = 29)
    (hs3 : t0.getD 3 undef = .pointer (some ⟨bx, 0, none⟩)) (hs4 : t0.getD 4 undef = .int .u8 (c : Nat))
    (hG : SBox w0 bx G) (hc : c < 256)
    (hQ : ∀ (vs : Nat → Value) (w : World), Below w0.heap.size w0 w → (∃ g, (vs 26) = .slice (some ⟨g, 0, none⟩) 2 2 ∧ Sets w (some ⟨g, 0, none⟩) 2 (two G (inz (fun _ => c) 1))) → wpOpIn (Fence.wide.inRound l) N Tryd.prog sputM_ops Q 5 (fun a' w' => wpOpIn (Fence.wide.inRound l) N Tryd.prog sputM_ops Q 6 (Q .normal) a' w') { tmps := [22, 23, 24, 25, 26].foldl (fun y d => y.setIfInBounds d (vs d)) t0, defers := [] } w) :
    (Code.region 9 sputM_ops true).wpIn (Fence.wide.inRound l) N Tryd.prog Q { tmps := t0, defers := [] } w0 := by
  have hsl : ∀ j, j < 5 → sputM_mem (sputM_slot j) := by
    intro j hj
    match j, hj with
    | 0, _ => exact (by decide : sputM_mem 22)
    | 1, _ => exact (by decide : sputM_mem 23)
    | 2, _ => exact (by decide : sputM_mem 24)
    | 3, _ => exact (by decide : sputM_mem 25)
    | 4, _ => exact (by decide : sputM_mem 26)
    | k + 5, hj => omega
  refine wpIn_region_last2 5 rfl (by kernel_rfl) sputM_slot (sputM_val l c bx G) t0 w0 ?_ (sputM_inj) ?_ ?_ ?_ (sputM_below l c bx G) ?_ ?_
  · intro j o ho hj
    rw [ht]
    match j, ho, hj with
    | 0, ho, _ => cases ho; exact ⟨rfl, by decide⟩
    | 1, ho, _ => cases ho; exact ⟨rfl, by decide⟩
    | 2, ho, _ => cases ho; exact ⟨rfl, by decide⟩
    | 3, ho, _ => cases ho; exact ⟨rfl, by decide⟩
    | 4, ho, _ => cases ho; exact ⟨rfl, by decide⟩
    | k + 5, _, hj => omega
  · intro j o ho
    have hj : j < 7 := (Array.getElem?_eq_some_iff.1 ho).1
    match j, ho with
    | 0, ho => cases ho; decide
    | 1, ho => cases ho; decide
    | 2, ho => cases ho; decide
    | 3, ho => cases ho; decide
    | 4, ho => cases ho; decide
    | 5, ho => cases ho; decide
    | 6, ho => cases ho; decide
    | k + 7, _ => omega
  · intro listed o hup ho hd
    have e : o = { dst := some 27, op := Op.call { callee := Callee.value (Operand.func 17), args := #[Operand.tmp 26], argTypes := #[31] }, type := 24, pos := "set.go:57", after := #[{ on := 4, ground := Ground.data }, { on := 3, ground := Ground.chain }], guard := none } := (Option.some.inj ho).symm
    subst e
    have l4 : listed.getD 4 false = true := hd { on := 4, ground := Ground.data } (by simp) rfl
    have l0 : listed.getD 0 false = true := hup 4 { dst := some 26, op := Op.buildSlice 31 2 #[(0, Operand.tmp 22), (1, Operand.tmp 25)], type := 31, pos := "set.go:57", after := #[{ on := 0, ground := Ground.data }, { on := 3, ground := Ground.data }], guard := none } rfl l4 { on := 0, ground := Ground.data } (by simp) rfl
    have l3 : listed.getD 3 false = true := hup 4 { dst := some 26, op := Op.buildSlice 31 2 #[(0, Operand.tmp 22), (1, Operand.tmp 25)], type := 31, pos := "set.go:57", after := #[{ on := 0, ground := Ground.data }, { on := 3, ground := Ground.data }], guard := none } rfl l4 { on := 3, ground := Ground.data } (by simp) rfl
    have l2 : listed.getD 2 false = true := hup 3 { dst := some 25, op := Op.call { callee := Callee.value (Operand.func 13), args := #[Operand.tmp 24], argTypes := #[25] }, type := 24, pos := "set.go:57", after := #[{ on := 2, ground := Ground.data }], guard := none } rfl l3 { on := 2, ground := Ground.data } (by simp) rfl
    have l1 : listed.getD 1 false = true := hup 2 { dst := some 24, op := Op.buildSlice 25 1 #[(0, Operand.tmp 23)], type := 25, pos := "set.go:57", after := #[{ on := 1, ground := Ground.data }], guard := none } rfl l2 { on := 1, ground := Ground.data } (by simp) rfl
    intro j hj
    match j, hj with
    | 0, _ => exact l0
    | 1, _ => exact l1
    | 2, _ => exact l2
    | 3, _ => exact l3
    | 4, _ => exact l4
    | k + 5, hj => omega
  · intro o ho
    have e : o = { dst := none, op := Op.store 24 (Operand.tmp 3) (Operand.tmp 27), type := 0, pos := "set.go:57", after := #[{ on := 5, ground := Ground.data }, { on := 5, ground := Ground.chain }, { on := 0, ground := Ground.phase }, { on := 1, ground := Ground.phase }, { on := 2, ground := Ground.phase }, { on := 3, ground := Ground.phase }, { on := 4, ground := Ground.phase }, { on := 5, ground := Ground.phase }], guard := none } := (Option.some.inj ho).symm
    subst e
    exact ⟨{ on := 5, ground := Ground.data }, by simp, rfl, rfl⟩
  · intro j o ho hj x w hB hdef hsz hs hdeps
    have hs' : ∀ s, ¬ sputM_mem s → x.tmps.getD s undef = t0.getD s undef := fun s hn => hs s (fun j hj e => hn (by rw [e]; exact hsl j hj))
    have u3 := (hs' 3 (by decide)).trans hs3
    have u4 := (hs' 4 (by decide)).trans hs4
    clear hs hs' hsl hsz ht hQ hs3 hs4
    simp only [Array.getD_eq_getD_getElem?] at u3 u4
    match j, ho, hj with
    | 0, ho, _ =>
      have e : o = { dst := some 22, op := Op.load 24 (Operand.tmp 3), type := 24, pos := "set.go:57", after := #[], guard := none } := (Option.some.inj ho).symm
      subst e
      clear hdeps
      have hsb := hG.below hB hG.lt
      have c0 := hsb.cell 0 (by omega)
      have c1 := hsb.cell 1 (by omega)
      have c2 := hsb.cell 2 (by omega)
      have c3 := hsb.cell 3 (by omega)
      refine wpOpIn_plain ho rfl (oper_inK (fun _ => trivial) (fun K hK => ?_))
      clear ho
      rw [Oper.semAt_plain (Fence.wide.inRound l) _ _ (by intro c h; cases h)]
      go_simp
      exact hK _ _ ⟨_, act_put x hdef _ _, rfl, Below.refl _ _⟩
    | 1, ho, _ =>
      have e : o = { dst := some 23, op := Op.move (Operand.tmp 4), type := 5, pos := "set.go:57", after := #[], guard := none } := (Option.some.inj ho).symm
      subst e
      clear hdeps
      refine wpOpIn_plain ho rfl (oper_inK (fun _ => trivial) (fun K hK => ?_))
      clear ho
      rw [Oper.semAt_plain (Fence.wide.inRound l) _ _ (by intro c h; cases h)]
      go_simp
      exact hK _ _ ⟨_, act_put x hdef _ _, rfl, Below.refl _ _⟩
    | 2, ho, _ =>
      have e : o = { dst := some 24, op := Op.buildSlice 25 1 #[(0, Operand.tmp 23)], type := 25, pos := "set.go:57", after := #[{ on := 1, ground := Ground.data }], guard := none } := (Option.some.inj ho).symm
      subst e
      have q1 : x.tmps.getD 23 undef = .int .u8 (c : Nat) := hdeps { on := 1, ground := Ground.data } (by simp) rfl
      simp only [Array.getD_eq_getD_getElem?] at q1
      clear hdeps
      refine wpOpIn_plain ho rfl (oper_inK (fun _ => trivial) (fun K hK => ?_))
      clear ho
      rw [Oper.semAt_plain (Fence.wide.inRound l) _ _ (by intro c h; cases h)]
      go_simp
      exact hK _ _ ⟨_, act_put x hdef _ _, ⟨_, rfl, one_byt w c hc _⟩, below_alloc _ _⟩
    | 3, ho, _ =>
      have e : o = { dst := some 25, op := Op.call { callee := Callee.value (Operand.func 13), args := #[Operand.tmp 24], argTypes := #[25] }, type := 24, pos := "set.go:57", after := #[{ on := 2, ground := Ground.data }], guard := none } := (Option.some.inj ho).symm
      subst e
      obtain ⟨g2, q2, p2⟩ := hdeps { on := 2, ground := Ground.data } (by simp) rfl
      have q2 : x.tmps.getD 24 undef = .slice (some ⟨g2, 0, none⟩) 1 1 := q2
      simp only [Array.getD_eq_getD_getElem?] at q2
      clear hdeps
      refine wpOpIn_plain ho rfl (oper_inK (fun _ => trivial) (fun K hK => ?_))
      clear ho
      rw [Oper.semAt_plain (Fence.wide.inRound l) _ _ (by intro c h; cases h)]
      go_simp
      refine ⟨wide_deep, (CallsIn.inRound l (callsIn_wide.2 (of_any _ 1 1 (fun _ => c) _ (by omega) p2))).mono ?_⟩
      rintro e w' ⟨rfl, hb⟩
      exact hK _ _ ⟨_, act_put x hdef _ _, rfl, hb⟩
    | 4, ho, _ =>
      have e : o = { dst := some 26, op := Op.buildSlice 31 2 #[(0, Operand.tmp 22), (1, Operand.tmp 25)], type := 31, pos := "set.go:57", after := #[{ on := 0, ground := Ground.data }, { on := 3, ground := Ground.data }], guard := none } := (Option.some.inj ho).symm
      subst e
      have q0 : x.tmps.getD 22 undef = .agg #[.int .u64 (wd G 0 : Nat), .int .u64 (wd G 1 : Nat), .int .u64 (wd G 2 : Nat), .int .u64 (wd G 3 : Nat)] := hdeps { on := 0, ground := Ground.data } (by simp) rfl
      have q3 : x.tmps.getD 25 undef = .agg #[.int .u64 (wd (inz (fun _ => c) 1) 0 : Nat), .int .u64 (wd (inz (fun _ => c) 1) 1 : Nat), .int .u64 (wd (inz (fun _ => c) 1) 2 : Nat), .int .u64 (wd (inz (fun _ => c) 1) 3 : Nat)] := hdeps { on := 3, ground := Ground.data } (by simp) rfl
      simp only [Array.getD_eq_getD_getElem?] at q0 q3
      clear hdeps
      refine wpOpIn_plain ho rfl (oper_inK (fun _ => trivial) (fun K hK => ?_))
      clear ho
      rw [Oper.semAt_plain (Fence.wide.inRound l) _ _ (by intro c h; cases h)]
      go_simp
      exact hK _ _ ⟨_, act_put x hdef _ _, ⟨_, rfl, two_sets w w.heap.size rfl G _ _⟩, below_alloc _ _⟩
    | k + 5, _, hj => omega
  · intro x w hB hdef hsz hs hv
    have hx := frame_sets x.tmps t0 hsz [22, 23, 24, 25, 26] (fun s hn => hs s (fun j hj e => hn (by rw [e]; exact hsl j hj)))
    have hq := hQ (fun d => x.tmps.getD d undef) w hB (hv 4 (by decide))
    obtain ⟨T, Df⟩ := x
    dsimp only at hx hdef hq
    subst hdef
    rw [← hx] at hq
    exact hq
def sputF_ops : Array Oper :=
  #[{ dst := some 17, op := Op.load 24 (Operand.tmp 4), type := 24, pos := "set.go:75", after := #[], guard := none },
    { dst := some 18, op := Op.move (Operand.tmp 5), type := 5, pos := "set.go:75", after := #[], guard := none },
    { dst := some 19, op := Op.binOp BinOp.xor 5 (Operand.tmp 18) (Operand.const (Value.int IntKind.u8 32)) 5, type := 5, pos := "set.go:75", after := #[{ on := 1, ground := Ground.data }], guard := none },
    { dst := some 20, op := Op.buildSlice 25 1 #[(0, Operand.tmp 19)], type := 25, pos := "set.go:75", after := #[{ on := 2, ground := Ground.data }], guard := none },
    { dst := some 21, op := Op.call { callee := Callee.value (Operand.func 13), args := #[Operand.tmp 20], argTypes := #[25] }, type := 24, pos := "set.go:75", after := #[{ on := 3, ground := Ground.data }], guard := none },
    { dst := some 22, op := Op.buildSlice 31 2 #[(0, Operand.tmp 17), (1, Operand.tmp 21)], type := 31, pos := "set.go:75", after := #[{ on := 0, ground := Ground.data }, { on := 4, ground := Ground.data }], guard := none },
    { dst := some 23, op := Op.call { callee := Callee.value (Operand.func 17), args := #[Operand.tmp 22], argTypes := #[31] }, type := 24, pos := "set.go:75", after := #[{ on := 5, ground := Ground.data }, { on := 4, ground := Ground.chain }], guard := none },
    { dst := none, op := Op.store 24 (Operand.tmp 4) (Operand.tmp 23), type := 0, pos := "set.go:75", after := #[{ on := 6, ground := Ground.data }, { on := 6, ground := Ground.chain }, { on := 0, ground := Ground.phase }, { on := 1, ground := Ground.phase }, { on := 2, ground := Ground.phase }, { on := 3, ground := Ground.phase }, { on := 4, ground := Ground.phase }, { on := 5, ground := Ground.phase }, { on := 6, ground := Ground.phase }], guard := none }]
def sputF_slot : Nat → Nat
  | 0 => 17
  | 1 => 18
  | 2 => 19
  | 3 => 20
  | 4 => 21
  | 5 => 22
  | 6 => 23
  | 7 => 9007
  | j + 8 => 1025 + j
set_option maxRecDepth 100000 in
theorem sputF_inj (i j : Nat) (hi : i < 6) (hj : j < 6) (h : sputF_slot i = sputF_slot j) : i = j := by
  have key : ∀ i j : Fin 6, sputF_slot i.val = sputF_slot j.val → i = j := by decide
  exact Fin.mk.inj (key ⟨i, hi⟩ ⟨j, hj⟩ h)
def sputF_val (l b c bx : Nat) (G : Nat → Bool) : Nat → Value → World → Prop
  | 0, v, w => v = .agg #[.int .u64 (wd G 0 : Nat), .int .u64 (wd G 1 : Nat), .int .u64 (wd G 2 : Nat), .int .u64 (wd G 3 : Nat)]
  | 1, v, w => v = .int .u8 (b : Nat)
  | 2, v, w => v = .int .u8 (c : Nat)
  | 3, v, w => ∃ g, v = .slice (some ⟨g, 0, none⟩) 1 1 ∧ Byt w (some ⟨g, 0, none⟩) 1 (fun _ => c)
  | 4, v, w => v = .agg #[.int .u64 (wd (inz (fun _ => c) 1) 0 : Nat), .int .u64 (wd (inz (fun _ => c) 1) 1 : Nat), .int .u64 (wd (inz (fun _ => c) 1) 2 : Nat), .int .u64 (wd (inz (fun _ => c) 1) 3 : Nat)]
  | 5, v, w => ∃ g, v = .slice (some ⟨g, 0, none⟩) 2 2 ∧ Sets w (some ⟨g, 0, none⟩) 2 (two G (inz (fun _ => c) 1))
  | _, _, _ => True
theorem sputF_below (l b c bx : Nat) (G : Nat → Bool) (w w' : World) (hb : Below w.heap.size w w') : ∀ j v, sputF_val l b c bx G j v w → sputF_val l b c bx G j v w' := by
  intro j v h
  match j, h with
  | 0, h => exact h
  | 1, h => exact h
  | 2, h => exact h
  | 3, h => obtain ⟨g, h1, h2⟩ := h; exact ⟨g, h1, h2.below hb⟩
  | 4, h => exact h
  | 5, h => obtain ⟨g, h1, h2⟩ := h; exact ⟨g, h1, h2.below hb⟩
  | _ + 6, h => exact h
abbrev sputF_mem (s : Nat) : Prop := s ∈ [17, 18, 19, 20, 21, 22]

set_option maxRecDepth 100000 in
set_option maxHeartbeats 2000000 in
theorem sputF (l b c bx : Nat) (G : Nat → Bool) (N : Nat) (Q : Exit → Act → World → Prop) (t0 : Array Value) (w0 : World) (ht : t0.size = 25)
    (hs4 : t0.getD 4 undef = .pointer (some ⟨bx, 0, none⟩)) (hs5 : t0.getD 5 undef = .int .u8 (b : Nat))
    (hG : SBox w0 bx G) (hc : c < 256)
    (hxor : Hid (bits .xor .u8 (b : Int) 32 = (c : Int)))
    (hQ : ∀ (vs : Nat → Value) (w : World), Below w0.heap.size w0 w → (∃ g, (vs 22) = .slice (some ⟨g, 0, none⟩) 2 2 ∧ Sets w (some ⟨g, 0, none⟩) 2 (two G (inz (fun _ => c) 1))) → wpOpIn (Fence.wide.inRound l) N Tryd.prog sputF_ops Q 6 (fun a' w' => wpOpIn (Fence.wide.inRound l) N Tryd.prog sputF_ops Q 7 (Q .normal) a' w') { tmps := [17, 18, 19, 20, 21, 22].foldl (fun y d => y.setIfInBounds d (vs d)) t0, defers := [] } w) :
    (Code.region 5 sputF_ops true).wpIn (Fence.wide.inRound l) N Tryd.prog Q { tmps := t0, defers := [] } w0 := by
  have hsl : ∀ j, j < 6 → sputF_mem (sputF_slot j) := by
    intro j hj
    match j, hj with
    | 0, _ => exact (by decide : sputF_mem 17)
    | 1, _ => exact (by decide : sputF_mem 18)
    | 2, _ => exact (by decide : sputF_mem 19)
    | 3, _ => exact (by decide : sputF_mem 20)
    | 4, _ => exact (by decide : sputF_mem 21)
    | 5, _ => exact (by decide : sputF_mem 22)
    | k + 6, hj => omega
  refine wpIn_region_last2 6 rfl (by kernel_rfl) sputF_slot (sputF_val l b c bx G) t0 w0 ?_ (sputF_inj) ?_ ?_ ?_ (sputF_below l b c bx G) ?_ ?_
  · intro j o ho hj
    rw [ht]
    match j, ho, hj with
    | 0, ho, _ => cases ho; exact ⟨rfl, by decide⟩
    | 1, ho, _ => cases ho; exact ⟨rfl, by decide⟩
    | 2, ho, _ => cases ho; exact ⟨rfl, by decide⟩
    | 3, ho, _ => cases ho; exact ⟨rfl, by decide⟩
    | 4, ho, _ => cases ho; exact ⟨rfl, by decide⟩
    | 5, ho, _ => cases ho; exact ⟨rfl, by decide⟩
    | k + 6, _, hj => omega
  · intro j o ho
    have hj : j < 8 := (Array.getElem?_eq_some_iff.1 ho).1
    match j, ho with
    | 0, ho => cases ho; decide
    | 1, ho => cases ho; decide
    | 2, ho => cases ho; decide
    | 3, ho => cases ho; decide
    | 4, ho => cases ho; decide
    | 5, ho => cases ho; decide
    | 6, ho => cases ho; decide
    | 7, ho => cases ho; decide
    | k + 8, _ => omega
  · intro listed o hup ho hd
    have e : o = { dst := some 23, op := Op.call { callee := Callee.value (Operand.func 17), args := #[Operand.tmp 22], argTypes := #[31] }, type := 24, pos := "set.go:75", after := #[{ on := 5, ground := Ground.data }, { on := 4, ground := Ground.chain }], guard := none } := (Option.some.inj ho).symm
    subst e
    have l5 : listed.getD 5 false = true := hd { on := 5, ground := Ground.data } (by simp) rfl
    have l0 : listed.getD 0 false = true := hup 5 { dst := some 22, op := Op.buildSlice 31 2 #[(0, Operand.tmp 17), (1, Operand.tmp 21)], type := 31, pos := "set.go:75", after := #[{ on := 0, ground := Ground.data }, { on := 4, ground := Ground.data }], guard := none } rfl l5 { on := 0, ground := Ground.data } (by simp) rfl
    have l4 : listed.getD 4 false = true := hup 5 { dst := some 22, op := Op.buildSlice 31 2 #[(0, Operand.tmp 17), (1, Operand.tmp 21)], type := 31, pos := "set.go:75", after := #[{ on := 0, ground := Ground.data }, { on := 4, ground := Ground.data }], guard := none } rfl l5 { on := 4, ground := Ground.data } (by simp) rfl
    have l3 : listed.getD 3 false = true := hup 4 { dst := some 21, op := Op.call { callee := Callee.value (Operand.func 13), args := #[Operand.tmp 20], argTypes := #[25] }, type := 24, pos := "set.go:75", after := #[{ on := 3, ground := Ground.data }], guard := none } rfl l4 { on := 3, ground := Ground.data } (by simp) rfl
    have l2 : listed.getD 2 false = true := hup 3 { dst := some 20, op := Op.buildSlice 25 1 #[(0, Operand.tmp 19)], type := 25, pos := "set.go:75", after := #[{ on := 2, ground := Ground.data }], guard := none } rfl l3 { on := 2, ground := Ground.data } (by simp) rfl
    have l1 : listed.getD 1 false = true := hup 2 { dst := some 19, op := Op.binOp BinOp.xor 5 (Operand.tmp 18) (Operand.const (Value.int IntKind.u8 32)) 5, type := 5, pos := "set.go:75", after := #[{ on := 1, ground := Ground.data }], guard := none } rfl l2 { on := 1, ground := Ground.data } (by simp) rfl
    intro j hj
    match j, hj with
    | 0, _ => exact l0
    | 1, _ => exact l1
    | 2, _ => exact l2
    | 3, _ => exact l3
    | 4, _ => exact l4
    | 5, _ => exact l5
    | k + 6, hj => omega
  · intro o ho
    have e : o = { dst := none, op := Op.store 24 (Operand.tmp 4) (Operand.tmp 23), type := 0, pos := "set.go:75", after := #[{ on := 6, ground := Ground.data }, { on := 6, ground := Ground.chain }, { on := 0, ground := Ground.phase }, { on := 1, ground := Ground.phase }, { on := 2, ground := Ground.phase }, { on := 3, ground := Ground.phase }, { on := 4, ground := Ground.phase }, { on := 5, ground := Ground.phase }, { on := 6, ground := Ground.phase }], guard := none } := (Option.some.inj ho).symm
    subst e
    exact ⟨{ on := 6, ground := Ground.data }, by simp, rfl, rfl⟩
  · intro j o ho hj x w hB hdef hsz hs hdeps
    have hs' : ∀ s, ¬ sputF_mem s → x.tmps.getD s undef = t0.getD s undef := fun s hn => hs s (fun j hj e => hn (by rw [e]; exact hsl j hj))
    have u4 := (hs' 4 (by decide)).trans hs4
    have u5 := (hs' 5 (by decide)).trans hs5
    clear hs hs' hsl hsz ht hQ hs4 hs5
    simp only [Array.getD_eq_getD_getElem?] at u4 u5
    match j, ho, hj with
    | 0, ho, _ =>
      have e : o = { dst := some 17, op := Op.load 24 (Operand.tmp 4), type := 24, pos := "set.go:75", after := #[], guard := none } := (Option.some.inj ho).symm
      subst e
      clear hdeps
      have hsb := hG.below hB hG.lt
      have c0 := hsb.cell 0 (by omega)
      have c1 := hsb.cell 1 (by omega)
      have c2 := hsb.cell 2 (by omega)
      have c3 := hsb.cell 3 (by omega)
      refine wpOpIn_plain ho rfl (oper_inK (fun _ => trivial) (fun K hK => ?_))
      clear ho
      rw [Oper.semAt_plain (Fence.wide.inRound l) _ _ (by intro c h; cases h)]
      go_simp
      exact hK _ _ ⟨_, act_put x hdef _ _, rfl, Below.refl _ _⟩
    | 1, ho, _ =>
      have e : o = { dst := some 18, op := Op.move (Operand.tmp 5), type := 5, pos := "set.go:75", after := #[], guard := none } := (Option.some.inj ho).symm
      subst e
      clear hdeps
      refine wpOpIn_plain ho rfl (oper_inK (fun _ => trivial) (fun K hK => ?_))
      clear ho
      rw [Oper.semAt_plain (Fence.wide.inRound l) _ _ (by intro c h; cases h)]
      go_simp
      exact hK _ _ ⟨_, act_put x hdef _ _, rfl, Below.refl _ _⟩
    | 2, ho, _ =>
      have e : o = { dst := some 19, op := Op.binOp BinOp.xor 5 (Operand.tmp 18) (Operand.const (Value.int IntKind.u8 32)) 5, type := 5, pos := "set.go:75", after := #[{ on := 1, ground := Ground.data }], guard := none } := (Option.some.inj ho).symm
      subst e
      have q1 : x.tmps.getD 18 undef = .int .u8 (b : Nat) := hdeps { on := 1, ground := Ground.data } (by simp) rfl
      simp only [Array.getD_eq_getD_getElem?] at q1
      clear hdeps
      have hx := hxor.out
      refine wpOpIn_plain ho rfl (oper_inK (fun _ => trivial) (fun K hK => ?_))
      clear ho
      rw [Oper.semAt_plain (Fence.wide.inRound l) _ _ (by intro c h; cases h)]
      go_simp
      exact hK _ _ ⟨_, act_put x hdef _ _, rfl, Below.refl _ _⟩
    | 3, ho, _ =>
      have e : o = { dst := some 20, op := Op.buildSlice 25 1 #[(0, Operand.tmp 19)], type := 25, pos := "set.go:75", after := #[{ on := 2, ground := Ground.data }], guard := none } := (Option.some.inj ho).symm
      subst e
      have q2 : x.tmps.getD 19 undef = .int .u8 (c : Nat) := hdeps { on := 2, ground := Ground.data } (by simp) rfl
      simp only [Array.getD_eq_getD_getElem?] at q2
      clear hdeps
      refine wpOpIn_plain ho rfl (oper_inK (fun _ => trivial) (fun K hK => ?_))
      clear ho
      rw [Oper.semAt_plain (Fence.wide.inRound l) _ _ (by intro c h; cases h)]
      go_simp
      exact hK _ _ ⟨_, act_put x hdef _ _, ⟨_, rfl, one_byt w c hc _⟩, below_alloc _ _⟩
    | 4, ho, _ =>
      have e : o = { dst := some 21, op := Op.call { callee := Callee.value (Operand.func 13), args := #[Operand.tmp 20], argTypes := #[25] }, type := 24, pos := "set.go:75", after := #[{ on := 3, ground := Ground.data }], guard := none } := (Option.some.inj ho).symm
      subst e
      obtain ⟨g3, q3, p3⟩ := hdeps { on := 3, ground := Ground.data } (by simp) rfl
      have q3 : x.tmps.getD 20 undef = .slice (some ⟨g3, 0, none⟩) 1 1 := q3
      simp only [Array.getD_eq_getD_getElem?] at q3
      clear hdeps
      refine wpOpIn_plain ho rfl (oper_inK (fun _ => trivial) (fun K hK => ?_))
      clear ho
      rw [Oper.semAt_plain (Fence.wide.inRound l) _ _ (by intro c h; cases h)]
      go_simp
      refine ⟨wide_deep, (CallsIn.inRound l (callsIn_wide.2 (of_any _ 1 1 (fun _ => c) _ (by omega) p3))).mono ?_⟩
      rintro e w' ⟨rfl, hb⟩
      exact hK _ _ ⟨_, act_put x hdef _ _, rfl, hb⟩
    | 5, ho, _ =>
      have e : o = { dst := some 22, op := Op.buildSlice 31 2 #[(0, Operand.tmp 17), (1, Operand.tmp 21)], type := 31, pos := "set.go:75", after := #[{ on := 0, ground := Ground.data }, { on := 4, ground := Ground.data }], guard := none } := (Option.some.inj ho).symm
      subst e
      have q0 : x.tmps.getD 17 undef = .agg #[.int .u64 (wd G 0 : Nat), .int .u64 (wd G 1 : Nat), .int .u64 (wd G 2 : Nat), .int .u64 (wd G 3 : Nat)] := hdeps { on := 0, ground := Ground.data } (by simp) rfl
      have q4 : x.tmps.getD 21 undef = .agg #[.int .u64 (wd (inz (fun _ => c) 1) 0 : Nat), .int .u64 (wd (inz (fun _ => c) 1) 1 : Nat), .int .u64 (wd (inz (fun _ => c) 1) 2 : Nat), .int .u64 (wd (inz (fun _ => c) 1) 3 : Nat)] := hdeps { on := 4, ground := Ground.data } (by simp) rfl
      simp only [Array.getD_eq_getD_getElem?] at q0 q4
      clear hdeps
      refine wpOpIn_plain ho rfl (oper_inK (fun _ => trivial) (fun K hK => ?_))
      clear ho
      rw [Oper.semAt_plain (Fence.wide.inRound l) _ _ (by intro c h; cases h)]
      go_simp
      exact hK _ _ ⟨_, act_put x hdef _ _, ⟨_, rfl, two_sets w w.heap.size rfl G _ _⟩, below_alloc _ _⟩
    | k + 6, _, hj => omega
  · intro x w hB hdef hsz hs hv
    have hx := frame_sets x.tmps t0 hsz [17, 18, 19, 20, 21, 22] (fun s hn => hs s (fun j hj e => hn (by rw [e]; exact hsl j hj)))
    have hq := hQ (fun d => x.tmps.getD d undef) w hB (hv 5 (by decide))
    obtain ⟨T, Df⟩ := x
    dsimp only at hx hdef hq
    subst hdef
    rw [← hx] at hq
    exact hq
end Go.Proofs.YtmnjicpgdhnimaaDoor
