/-
  The drawn regions of gram.Run and gram.Places (written by tools/gen-gruns.py).
-/
import Derived.Test.YtpdlapnliiengaaGreatGAt
import Derived.Test.YtpdlapnliiengaaGreatRegT
namespace Go.Proofs.YtpdlapnliiengaaGreat
open Go.RowKit Go.Shelf
set_option linter.unusedVariables false
set_option linter.unusedSimpArgs false

abbrev grunR_o0 : Oper := { dst := some 11, op := Op.load 29 (Operand.tmp 3), type := 29, pos := "gram.go:54", after := #[], guard := none }
abbrev grunR_o1 : Oper := { dst := some 12, op := Op.load 51 (Operand.tmp 5), type := 51, pos := "gram.go:54", after := #[], guard := none }
abbrev grunR_o2 : Oper := { dst := some 13, op := Op.call { callee := Callee.value (Operand.func 23), args := #[Operand.tmp 12], argTypes := #[51] }, type := 9, pos := "gram.go:54", after := #[{ on := 1, ground := Ground.data }], guard := none }
abbrev grunR_o3 : Oper := { dst := some 14, op := Op.buildSlice 29 1 #[(0, Operand.tmp 13)], type := 29, pos := "gram.go:54", after := #[{ on := 2, ground := Ground.data }], guard := none }
abbrev grunR_o4 : Oper := { dst := some 15, op := Op.call { callee := Callee.builtin Builtin.append, args := #[Operand.tmp 11, Operand.tmp 14], argTypes := #[29, 29] }, type := 29, pos := "gram.go:54", after := #[{ on := 0, ground := Ground.data }, { on := 3, ground := Ground.data }, { on := 2, ground := Ground.chain }], guard := none }
abbrev grunR_o5 : Oper := { dst := none, op := Op.store 29 (Operand.tmp 3) (Operand.tmp 15), type := 0, pos := "gram.go:54", after := #[{ on := 4, ground := Ground.data }, { on := 4, ground := Ground.chain }, { on := 0, ground := Ground.phase }, { on := 1, ground := Ground.phase }, { on := 2, ground := Ground.phase }, { on := 3, ground := Ground.phase }, { on := 4, ground := Ground.phase }], guard := none }
def grunR_ops : Array Oper := #[grunR_o0, grunR_o1, grunR_o2, grunR_o3, grunR_o4, grunR_o5]
abbrev grunR_mem (s : Nat) : Prop := s ∈ [11, 12, 13, 14]
set_option maxRecDepth 100000 in
theorem grunR_slots : ∀ j, j < 4 → grunR_mem (slotOf grunR_ops j) := by
  intro j hj
  match j, hj with
  | 0, _ => exact (by decide : grunR_mem 11)
  | 1, _ => exact (by decide : grunR_mem 12)
  | 2, _ => exact (by decide : grunR_mem 13)
  | 3, _ => exact (by decide : grunR_mem 14)
  | k + 4, hj => omega
def grunR_val (b3 p d0 d1 d2 : Nat) (v0 : Value) (T : ByteArray) : Nat → Value → World → Prop
  | 0, v, w => v = v0
  | 1, v, w => v = .agg #[.int .u8 (d0 : Nat), .int .u8 (d1 : Nat), .int .u8 (d2 : Nat)]
  | 2, v, w => v = .string T
  | 3, v, w => ∃ g, v = .slice (some ⟨g, 0, none⟩) 1 1 ∧ w.cell? ⟨g, 0, none⟩ = some (.string T)
  | _, _, _ => True
theorem grunR_below (b3 p d0 d1 d2 : Nat) (v0 : Value) (T : ByteArray) (w w' : World) (hb : Below w.heap.size w w') : ∀ j v, grunR_val b3 p d0 d1 d2 v0 T j v w → grunR_val b3 p d0 d1 d2 v0 T j v w' := by
  intro j v h
  match j, h with
  | 0, h => exact h
  | 1, h => exact h
  | 2, h => exact h
  | 3, h => obtain ⟨g, h1, h2⟩ := h; exact ⟨g, h1, cell_thru h2 hb⟩
  | _ + 4, h => exact h
set_option maxRecDepth 100000 in
set_option maxHeartbeats 2000000 in
theorem grunR_s0 {Fc : Fence} (hF : Wide Fc) {nC : Nat} (b3 p d0 d1 d2 : Nat) (v0 : Value) (T : ByteArray) (Q : Exit → Act → World → Prop) (df : List Deferred) (w0 : World)
    (h3 : w0.cell? ⟨b3, 0, none⟩ = some v0) (h0 : w0.cell? ⟨p, 0, none⟩ = some (.int .u8 (d0 : Nat))) (h1 : w0.cell? ⟨p, 1, none⟩ = some (.int .u8 (d1 : Nat))) (h2 : w0.cell? ⟨p, 2, none⟩ = some (.int .u8 (d2 : Nat))) (hT : ∀ W, Calls Tryz.prog 23 #[.agg #[.int .u8 (d0 : Nat), .int .u8 (d1 : Nat), .int .u8 (d2 : Nat)]] W fun e w' => e = .returned (.string T) ∧ w' = W.alloc (.cells #[.int .u8 (d0 : Nat), .int .u8 (d1 : Nat), .int .u8 (d2 : Nat)] 51))
    (x : Act) (w : World) (hB : Below w0.heap.size w0 w) (hdef : x.defers = df) (u3 : x.tmps.getD 3 undef = .pointer (some ⟨b3, 0, none⟩)) (u5 : x.tmps.getD 5 undef = .pointer (some ⟨p, 0, none⟩))
    : wpOpIn Fc nC Tryz.prog grunR_ops Q 0 (fun a' w' => ∃ v, a' = x.put (some 11) v ∧ (v = v0) ∧ Below w.heap.size w w') x w := by
  have ho : grunR_ops[0]? = some grunR_o0 := rfl
  simp only [Array.getD_eq_getD_getElem?] at u3 u5
  have c3 := cell_thru h3 hB
  refine wpOpIn_plain ho rfl (oper_inK hF.fn (fun K hK => ?_))
  clear ho
  rw [Oper.semAt_plain Fc _ _ (by intro c h; cases h)]
  simp only [grunR_o0]
  go_simp
  exact hK _ _ ⟨_, act_putD x hdef _ _, rfl, Below.refl _ _⟩
set_option maxRecDepth 100000 in
set_option maxHeartbeats 2000000 in
theorem grunR_s1 {Fc : Fence} (hF : Wide Fc) {nC : Nat} (b3 p d0 d1 d2 : Nat) (v0 : Value) (T : ByteArray) (Q : Exit → Act → World → Prop) (df : List Deferred) (w0 : World)
    (h3 : w0.cell? ⟨b3, 0, none⟩ = some v0) (h0 : w0.cell? ⟨p, 0, none⟩ = some (.int .u8 (d0 : Nat))) (h1 : w0.cell? ⟨p, 1, none⟩ = some (.int .u8 (d1 : Nat))) (h2 : w0.cell? ⟨p, 2, none⟩ = some (.int .u8 (d2 : Nat))) (hT : ∀ W, Calls Tryz.prog 23 #[.agg #[.int .u8 (d0 : Nat), .int .u8 (d1 : Nat), .int .u8 (d2 : Nat)]] W fun e w' => e = .returned (.string T) ∧ w' = W.alloc (.cells #[.int .u8 (d0 : Nat), .int .u8 (d1 : Nat), .int .u8 (d2 : Nat)] 51))
    (x : Act) (w : World) (hB : Below w0.heap.size w0 w) (hdef : x.defers = df) (u3 : x.tmps.getD 3 undef = .pointer (some ⟨b3, 0, none⟩)) (u5 : x.tmps.getD 5 undef = .pointer (some ⟨p, 0, none⟩))
    : wpOpIn Fc nC Tryz.prog grunR_ops Q 1 (fun a' w' => ∃ v, a' = x.put (some 12) v ∧ (v = .agg #[.int .u8 (d0 : Nat), .int .u8 (d1 : Nat), .int .u8 (d2 : Nat)]) ∧ Below w.heap.size w w') x w := by
  have ho : grunR_ops[1]? = some grunR_o1 := rfl
  simp only [Array.getD_eq_getD_getElem?] at u3 u5
  have c0 := cell_thru h0 hB
  have c1 := cell_thru h1 hB
  have c2 := cell_thru h2 hB
  refine wpOpIn_plain ho rfl (oper_inK hF.fn (fun K hK => ?_))
  clear ho
  rw [Oper.semAt_plain Fc _ _ (by intro c h; cases h)]
  simp only [grunR_o1]
  go_simp
  exact hK _ _ ⟨_, act_putD x hdef _ _, rfl, Below.refl _ _⟩
set_option maxRecDepth 100000 in
set_option maxHeartbeats 2000000 in
theorem grunR_s2 {Fc : Fence} (hF : Wide Fc) {nC : Nat} (b3 p d0 d1 d2 : Nat) (v0 : Value) (T : ByteArray) (Q : Exit → Act → World → Prop) (df : List Deferred) (w0 : World)
    (h3 : w0.cell? ⟨b3, 0, none⟩ = some v0) (h0 : w0.cell? ⟨p, 0, none⟩ = some (.int .u8 (d0 : Nat))) (h1 : w0.cell? ⟨p, 1, none⟩ = some (.int .u8 (d1 : Nat))) (h2 : w0.cell? ⟨p, 2, none⟩ = some (.int .u8 (d2 : Nat))) (hT : ∀ W, Calls Tryz.prog 23 #[.agg #[.int .u8 (d0 : Nat), .int .u8 (d1 : Nat), .int .u8 (d2 : Nat)]] W fun e w' => e = .returned (.string T) ∧ w' = W.alloc (.cells #[.int .u8 (d0 : Nat), .int .u8 (d1 : Nat), .int .u8 (d2 : Nat)] 51))
    (x : Act) (w : World) (hB : Below w0.heap.size w0 w) (hdef : x.defers = df) (u3 : x.tmps.getD 3 undef = .pointer (some ⟨b3, 0, none⟩)) (u5 : x.tmps.getD 5 undef = .pointer (some ⟨p, 0, none⟩))
    (p1 : grunR_val b3 p d0 d1 d2 v0 T 1 (x.tmps.getD 12 undef) w)
    : wpOpIn Fc nC Tryz.prog grunR_ops Q 2 (fun a' w' => ∃ v, a' = x.put (some 13) v ∧ (v = .string T) ∧ Below w.heap.size w w') x w := by
  have ho : grunR_ops[2]? = some grunR_o2 := rfl
  simp only [Array.getD_eq_getD_getElem?] at u3 u5
  have q1 : x.tmps.getD 12 undef = .agg #[.int .u8 (d0 : Nat), .int .u8 (d1 : Nat), .int .u8 (d2 : Nat)] := p1
  simp only [Array.getD_eq_getD_getElem?] at q1
  refine wpOpIn_plain ho rfl (oper_inK hF.fn (fun K hK => ?_))
  clear ho
  rw [Oper.semAt_plain Fc _ _ (by intro c h; cases h)]
  simp only [grunR_o2]
  go_simp
  refine ⟨hF.deep, (hF.call (hT w)).mono ?_⟩
  rintro e w' ⟨rfl, rfl⟩
  exact hK _ _ ⟨_, act_putD x hdef _ _, rfl, below_alloc _ _⟩
set_option maxRecDepth 100000 in
set_option maxHeartbeats 2000000 in
theorem grunR_s3 {Fc : Fence} (hF : Wide Fc) {nC : Nat} (b3 p d0 d1 d2 : Nat) (v0 : Value) (T : ByteArray) (Q : Exit → Act → World → Prop) (df : List Deferred) (w0 : World)
    (h3 : w0.cell? ⟨b3, 0, none⟩ = some v0) (h0 : w0.cell? ⟨p, 0, none⟩ = some (.int .u8 (d0 : Nat))) (h1 : w0.cell? ⟨p, 1, none⟩ = some (.int .u8 (d1 : Nat))) (h2 : w0.cell? ⟨p, 2, none⟩ = some (.int .u8 (d2 : Nat))) (hT : ∀ W, Calls Tryz.prog 23 #[.agg #[.int .u8 (d0 : Nat), .int .u8 (d1 : Nat), .int .u8 (d2 : Nat)]] W fun e w' => e = .returned (.string T) ∧ w' = W.alloc (.cells #[.int .u8 (d0 : Nat), .int .u8 (d1 : Nat), .int .u8 (d2 : Nat)] 51))
    (x : Act) (w : World) (hB : Below w0.heap.size w0 w) (hdef : x.defers = df) (u3 : x.tmps.getD 3 undef = .pointer (some ⟨b3, 0, none⟩)) (u5 : x.tmps.getD 5 undef = .pointer (some ⟨p, 0, none⟩))
    (p2 : grunR_val b3 p d0 d1 d2 v0 T 2 (x.tmps.getD 13 undef) w)
    : wpOpIn Fc nC Tryz.prog grunR_ops Q 3 (fun a' w' => ∃ v, a' = x.put (some 14) v ∧ (∃ g, v = .slice (some ⟨g, 0, none⟩) 1 1 ∧ w'.cell? ⟨g, 0, none⟩ = some (.string T)) ∧ Below w.heap.size w w') x w := by
  have ho : grunR_ops[3]? = some grunR_o3 := rfl
  simp only [Array.getD_eq_getD_getElem?] at u3 u5
  have q2 : x.tmps.getD 13 undef = .string T := p2
  simp only [Array.getD_eq_getD_getElem?] at q2
  refine wpOpIn_plain ho rfl (oper_inK hF.fn (fun K hK => ?_))
  clear ho
  rw [Oper.semAt_plain Fc _ _ (by intro c h; cases h)]
  simp only [grunR_o3]
  go_simp
  exact hK _ _ ⟨_, act_putD x hdef _ _, ⟨w.heap.size, rfl, (cell_new_l _ _ _).1⟩, below_alloc _ _⟩

set_option maxRecDepth 100000 in
set_option maxHeartbeats 4000000 in
theorem grunR {Fc : Fence} (hF : Wide Fc) {nC : Nat} (b3 p d0 d1 d2 : Nat) (v0 : Value) (T : ByteArray) (Q : Exit → Act → World → Prop) (t0 : Array Value) (df : List Deferred) (w0 : World) (ht : t0.size = 17)
    (hs3 : t0.getD 3 undef = .pointer (some ⟨b3, 0, none⟩)) (hs5 : t0.getD 5 undef = .pointer (some ⟨p, 0, none⟩))
    (h3 : w0.cell? ⟨b3, 0, none⟩ = some v0) (h0 : w0.cell? ⟨p, 0, none⟩ = some (.int .u8 (d0 : Nat))) (h1 : w0.cell? ⟨p, 1, none⟩ = some (.int .u8 (d1 : Nat))) (h2 : w0.cell? ⟨p, 2, none⟩ = some (.int .u8 (d2 : Nat))) (hT : ∀ W, Calls Tryz.prog 23 #[.agg #[.int .u8 (d0 : Nat), .int .u8 (d1 : Nat), .int .u8 (d2 : Nat)]] W fun e w' => e = .returned (.string T) ∧ w' = W.alloc (.cells #[.int .u8 (d0 : Nat), .int .u8 (d1 : Nat), .int .u8 (d2 : Nat)] 51))
    (hQ : ∀ (vs : Nat → Value) (w : World), Below w0.heap.size w0 w → (vs 11 = v0) → (∃ g, (vs 14) = .slice (some ⟨g, 0, none⟩) 1 1 ∧ w.cell? ⟨g, 0, none⟩ = some (.string T)) → wpOpIn Fc nC Tryz.prog grunR_ops Q 4 (fun a' w' => wpOpIn Fc nC Tryz.prog grunR_ops Q 5 (Q .normal) a' w') { tmps := [11, 12, 13, 14].foldl (fun y d => y.setIfInBounds d (vs d)) t0, defers := df } w) :
    (Code.region 4 grunR_ops true).wpIn Fc nC Tryz.prog Q { tmps := t0, defers := df } w0 := by
  refine wpIn_region_tail 4 (by decide) (by kernel_rfl) (fun a b => Below a.heap.size a b) (grunR_val b3 p d0 d1 d2 v0 T) t0 df w0 (by rw [ht]; kernel_rfl) (by kernel_rfl) (by kernel_rfl) (by kernel_rfl) ((Below.refl _ _).drew) (fun _ _ _ h k => h.trans (k.mono h.size)) (grunR_below b3 p d0 d1 d2 v0 T) ?_ ?_
  · intro j o ho hj x w hB hdef hsz hs hdeps
    have hs' : ∀ s, ¬ grunR_mem s → x.tmps.getD s undef = t0.getD s undef := fun s hn => hs s (fun j hj e => hn (by rw [e]; exact grunR_slots j hj))
    have u3 := (hs' 3 (by decide)).trans hs3
    have u5 := (hs' 5 (by decide)).trans hs5
    match j, ho, hj with
    | 0, ho, _ =>
      have e : o = grunR_o0 := (Option.some.inj ho).symm
      subst e
      exact grunR_s0 hF b3 p d0 d1 d2 v0 T Q df w0 h3 h0 h1 h2 hT x w hB hdef u3 u5 
    | 1, ho, _ =>
      have e : o = grunR_o1 := (Option.some.inj ho).symm
      subst e
      exact grunR_s1 hF b3 p d0 d1 d2 v0 T Q df w0 h3 h0 h1 h2 hT x w hB hdef u3 u5 
    | 2, ho, _ =>
      have e : o = grunR_o2 := (Option.some.inj ho).symm
      subst e
      exact grunR_s2 hF b3 p d0 d1 d2 v0 T Q df w0 h3 h0 h1 h2 hT x w hB hdef u3 u5 (hdeps { on := 1, ground := Ground.data } (by simp) rfl)
    | 3, ho, _ =>
      have e : o = grunR_o3 := (Option.some.inj ho).symm
      subst e
      exact grunR_s3 hF b3 p d0 d1 d2 v0 T Q df w0 h3 h0 h1 h2 hT x w hB hdef u3 u5 (hdeps { on := 2, ground := Ground.data } (by simp) rfl)
    | k + 4, _, hj => omega
  · intro x w hB hdef hsz hs hv
    have hx := frame_sets x.tmps t0 hsz [11, 12, 13, 14] (fun s hn => hs s (fun j hj e => hn (by rw [e]; exact grunR_slots j hj)))
    have hq := hQ (fun d => x.tmps.getD d undef) w hB (hv 0 (by decide)) (hv 3 (by decide))
    obtain ⟨T, Df⟩ := x
    dsimp only at hx hdef hq
    subst hdef
    rw [← hx] at hq
    exact hq

abbrev gplR_o0 : Oper := { dst := some 30, op := Op.move (Operand.tmp 6), type := 27, pos := "gram.go:45", after := #[], guard := none }
abbrev gplR_o1 : Oper := { dst := some 31, op := Op.load 51 (Operand.tmp 8), type := 51, pos := "gram.go:45", after := #[], guard := none }
abbrev gplR_o2 : Oper := { dst := some 32, op := Op.call { callee := Callee.value (Operand.func 23), args := #[Operand.tmp 31], argTypes := #[51] }, type := 9, pos := "gram.go:45", after := #[{ on := 1, ground := Ground.data }], guard := none }
abbrev gplR_o3 : Oper := { dst := some 33, op := Op.load 46 (Operand.tmp 3), type := 46, pos := "gram.go:45", after := #[], guard := none }
abbrev gplR_o4 : Oper := { dst := some 34, op := Op.load 51 (Operand.tmp 8), type := 51, pos := "gram.go:45", after := #[], guard := none }
abbrev gplR_o5 : Oper := { dst := some 35, op := Op.lookup 46 (Operand.tmp 33) (Operand.tmp 34) false, type := 40, pos := "gram.go:45", after := #[{ on := 3, ground := Ground.data }, { on := 4, ground := Ground.data }], guard := none }
abbrev gplR_o6 : Oper := { dst := some 36, op := Op.build 42 #[(0, Operand.tmp 32), (1, Operand.tmp 35)], type := 42, pos := "gram.go:45", after := #[{ on := 2, ground := Ground.data }, { on := 5, ground := Ground.data }], guard := none }
abbrev gplR_o7 : Oper := { dst := some 37, op := Op.buildSlice 27 1 #[(0, Operand.tmp 36)], type := 27, pos := "gram.go:45", after := #[{ on := 6, ground := Ground.data }], guard := none }
abbrev gplR_o8 : Oper := { dst := some 38, op := Op.call { callee := Callee.builtin Builtin.append, args := #[Operand.tmp 30, Operand.tmp 37], argTypes := #[27, 27] }, type := 27, pos := "gram.go:45", after := #[{ on := 0, ground := Ground.data }, { on := 7, ground := Ground.data }, { on := 2, ground := Ground.chain }], guard := none }
abbrev gplR_o9 : Oper := { dst := some 6, op := Op.assign (Operand.tmp 38), type := 27, pos := "gram.go:45", after := #[{ on := 8, ground := Ground.data }, { on := 8, ground := Ground.chain }, { on := 0, ground := Ground.phase }, { on := 1, ground := Ground.phase }, { on := 2, ground := Ground.phase }, { on := 3, ground := Ground.phase }, { on := 4, ground := Ground.phase }, { on := 5, ground := Ground.phase }, { on := 6, ground := Ground.phase }, { on := 7, ground := Ground.phase }, { on := 8, ground := Ground.phase }], guard := none }
def gplR_ops : Array Oper := #[gplR_o0, gplR_o1, gplR_o2, gplR_o3, gplR_o4, gplR_o5, gplR_o6, gplR_o7, gplR_o8, gplR_o9]
abbrev gplR_mem (s : Nat) : Prop := s ∈ [30, 31, 32, 33, 34, 35, 36, 37]
set_option maxRecDepth 100000 in
theorem gplR_slots : ∀ j, j < 8 → gplR_mem (slotOf gplR_ops j) := by
  intro j hj
  match j, hj with
  | 0, _ => exact (by decide : gplR_mem 30)
  | 1, _ => exact (by decide : gplR_mem 31)
  | 2, _ => exact (by decide : gplR_mem 32)
  | 3, _ => exact (by decide : gplR_mem 33)
  | 4, _ => exact (by decide : gplR_mem 34)
  | 5, _ => exact (by decide : gplR_mem 35)
  | 6, _ => exact (by decide : gplR_mem 36)
  | 7, _ => exact (by decide : gplR_mem 37)
  | k + 8, hj => omega
def gplR_val (b3 p d0 d1 d2 m : Nat) (v6 : Value) (aV : Option Addr) (nV cV : Nat) (T : ByteArray) : Nat → Value → World → Prop
  | 0, v, w => v = v6
  | 1, v, w => v = .agg #[.int .u8 (d0 : Nat), .int .u8 (d1 : Nat), .int .u8 (d2 : Nat)]
  | 2, v, w => v = .string T
  | 3, v, w => v = .map (some m)
  | 4, v, w => v = .agg #[.int .u8 (d0 : Nat), .int .u8 (d1 : Nat), .int .u8 (d2 : Nat)]
  | 5, v, w => v = .slice aV nV cV
  | 6, v, w => v = .agg #[.string T, .slice aV nV cV]
  | 7, v, w => ∃ g, v = .slice (some ⟨g, 0, none⟩) 1 1 ∧ w.cell? ⟨g, 0, none⟩ = some (.string T) ∧ w.cell? ⟨g, 1, none⟩ = some (.slice aV nV cV)
  | _, _, _ => True
theorem gplR_below (b3 p d0 d1 d2 m : Nat) (v6 : Value) (aV : Option Addr) (nV cV : Nat) (T : ByteArray) (w w' : World) (hb : Below w.heap.size w w') : ∀ j v, gplR_val b3 p d0 d1 d2 m v6 aV nV cV T j v w → gplR_val b3 p d0 d1 d2 m v6 aV nV cV T j v w' := by
  intro j v h
  match j, h with
  | 0, h => exact h
  | 1, h => exact h
  | 2, h => exact h
  | 3, h => exact h
  | 4, h => exact h
  | 5, h => exact h
  | 6, h => exact h
  | 7, h => obtain ⟨g, h1, h2, h3⟩ := h; exact ⟨g, h1, cell_thru h2 hb, cell_thru h3 hb⟩
  | _ + 8, h => exact h
set_option maxRecDepth 100000 in
set_option maxHeartbeats 2000000 in
theorem gplR_s0 {Fc : Fence} (hF : Wide Fc) {nC : Nat} (b3 p d0 d1 d2 m : Nat) (v6 : Value) (aV : Option Addr) (nV cV : Nat) (T : ByteArray) (Q : Exit → Act → World → Prop) (df : List Deferred) (w0 : World)
    (h3 : w0.cell? ⟨b3, 0, none⟩ = some (.map (some m))) (hL : ∀ W, Below w0.heap.size w0 W → (Instr.lookup 46 (.map (some m)) (.agg #[.int .u8 (d0 : Nat), .int .u8 (d1 : Nat), .int .u8 (d2 : Nat)]) false).run Tryz.prog W = .ok (.slice aV nV cV) W) (h0 : w0.cell? ⟨p, 0, none⟩ = some (.int .u8 (d0 : Nat))) (h1 : w0.cell? ⟨p, 1, none⟩ = some (.int .u8 (d1 : Nat))) (h2 : w0.cell? ⟨p, 2, none⟩ = some (.int .u8 (d2 : Nat))) (hT : ∀ W, Calls Tryz.prog 23 #[.agg #[.int .u8 (d0 : Nat), .int .u8 (d1 : Nat), .int .u8 (d2 : Nat)]] W fun e w' => e = .returned (.string T) ∧ w' = W.alloc (.cells #[.int .u8 (d0 : Nat), .int .u8 (d1 : Nat), .int .u8 (d2 : Nat)] 51))
    (x : Act) (w : World) (hB : Below w0.heap.size w0 w) (hdef : x.defers = df) (u3 : x.tmps.getD 3 undef = .pointer (some ⟨b3, 0, none⟩)) (u6 : x.tmps.getD 6 undef = v6) (u8 : x.tmps.getD 8 undef = .pointer (some ⟨p, 0, none⟩))
    : wpOpIn Fc nC Tryz.prog gplR_ops Q 0 (fun a' w' => ∃ v, a' = x.put (some 30) v ∧ (v = v6) ∧ Below w.heap.size w w') x w := by
  have ho : gplR_ops[0]? = some gplR_o0 := rfl
  simp only [Array.getD_eq_getD_getElem?] at u3 u6 u8
  refine wpOpIn_plain ho rfl (oper_inK hF.fn (fun K hK => ?_))
  clear ho
  rw [Oper.semAt_plain Fc _ _ (by intro c h; cases h)]
  simp only [gplR_o0]
  go_simp
  exact hK _ _ ⟨_, act_putD x hdef _ _, rfl, Below.refl _ _⟩
set_option maxRecDepth 100000 in
set_option maxHeartbeats 2000000 in
theorem gplR_s1 {Fc : Fence} (hF : Wide Fc) {nC : Nat} (b3 p d0 d1 d2 m : Nat) (v6 : Value) (aV : Option Addr) (nV cV : Nat) (T : ByteArray) (Q : Exit → Act → World → Prop) (df : List Deferred) (w0 : World)
    (h3 : w0.cell? ⟨b3, 0, none⟩ = some (.map (some m))) (hL : ∀ W, Below w0.heap.size w0 W → (Instr.lookup 46 (.map (some m)) (.agg #[.int .u8 (d0 : Nat), .int .u8 (d1 : Nat), .int .u8 (d2 : Nat)]) false).run Tryz.prog W = .ok (.slice aV nV cV) W) (h0 : w0.cell? ⟨p, 0, none⟩ = some (.int .u8 (d0 : Nat))) (h1 : w0.cell? ⟨p, 1, none⟩ = some (.int .u8 (d1 : Nat))) (h2 : w0.cell? ⟨p, 2, none⟩ = some (.int .u8 (d2 : Nat))) (hT : ∀ W, Calls Tryz.prog 23 #[.agg #[.int .u8 (d0 : Nat), .int .u8 (d1 : Nat), .int .u8 (d2 : Nat)]] W fun e w' => e = .returned (.string T) ∧ w' = W.alloc (.cells #[.int .u8 (d0 : Nat), .int .u8 (d1 : Nat), .int .u8 (d2 : Nat)] 51))
    (x : Act) (w : World) (hB : Below w0.heap.size w0 w) (hdef : x.defers = df) (u3 : x.tmps.getD 3 undef = .pointer (some ⟨b3, 0, none⟩)) (u6 : x.tmps.getD 6 undef = v6) (u8 : x.tmps.getD 8 undef = .pointer (some ⟨p, 0, none⟩))
    : wpOpIn Fc nC Tryz.prog gplR_ops Q 1 (fun a' w' => ∃ v, a' = x.put (some 31) v ∧ (v = .agg #[.int .u8 (d0 : Nat), .int .u8 (d1 : Nat), .int .u8 (d2 : Nat)]) ∧ Below w.heap.size w w') x w := by
  have ho : gplR_ops[1]? = some gplR_o1 := rfl
  simp only [Array.getD_eq_getD_getElem?] at u3 u6 u8
  have c0 := cell_thru h0 hB
  have c1 := cell_thru h1 hB
  have c2 := cell_thru h2 hB
  refine wpOpIn_plain ho rfl (oper_inK hF.fn (fun K hK => ?_))
  clear ho
  rw [Oper.semAt_plain Fc _ _ (by intro c h; cases h)]
  simp only [gplR_o1]
  go_simp
  exact hK _ _ ⟨_, act_putD x hdef _ _, rfl, Below.refl _ _⟩
set_option maxRecDepth 100000 in
set_option maxHeartbeats 2000000 in
theorem gplR_s2 {Fc : Fence} (hF : Wide Fc) {nC : Nat} (b3 p d0 d1 d2 m : Nat) (v6 : Value) (aV : Option Addr) (nV cV : Nat) (T : ByteArray) (Q : Exit → Act → World → Prop) (df : List Deferred) (w0 : World)
    (h3 : w0.cell? ⟨b3, 0, none⟩ = some (.map (some m))) (hL : ∀ W, Below w0.heap.size w0 W → (Instr.lookup 46 (.map (some m)) (.agg #[.int .u8 (d0 : Nat), .int .u8 (d1 : Nat), .int .u8 (d2 : Nat)]) false).run Tryz.prog W = .ok (.slice aV nV cV) W) (h0 : w0.cell? ⟨p, 0, none⟩ = some (.int .u8 (d0 : Nat))) (h1 : w0.cell? ⟨p, 1, none⟩ = some (.int .u8 (d1 : Nat))) (h2 : w0.cell? ⟨p, 2, none⟩ = some (.int .u8 (d2 : Nat))) (hT : ∀ W, Calls Tryz.prog 23 #[.agg #[.int .u8 (d0 : Nat), .int .u8 (d1 : Nat), .int .u8 (d2 : Nat)]] W fun e w' => e = .returned (.string T) ∧ w' = W.alloc (.cells #[.int .u8 (d0 : Nat), .int .u8 (d1 : Nat), .int .u8 (d2 : Nat)] 51))
    (x : Act) (w : World) (hB : Below w0.heap.size w0 w) (hdef : x.defers = df) (u3 : x.tmps.getD 3 undef = .pointer (some ⟨b3, 0, none⟩)) (u6 : x.tmps.getD 6 undef = v6) (u8 : x.tmps.getD 8 undef = .pointer (some ⟨p, 0, none⟩))
    (p1 : gplR_val b3 p d0 d1 d2 m v6 aV nV cV T 1 (x.tmps.getD 31 undef) w)
    : wpOpIn Fc nC Tryz.prog gplR_ops Q 2 (fun a' w' => ∃ v, a' = x.put (some 32) v ∧ (v = .string T) ∧ Below w.heap.size w w') x w := by
  have ho : gplR_ops[2]? = some gplR_o2 := rfl
  simp only [Array.getD_eq_getD_getElem?] at u3 u6 u8
  have q1 : x.tmps.getD 31 undef = .agg #[.int .u8 (d0 : Nat), .int .u8 (d1 : Nat), .int .u8 (d2 : Nat)] := p1
  simp only [Array.getD_eq_getD_getElem?] at q1
  refine wpOpIn_plain ho rfl (oper_inK hF.fn (fun K hK => ?_))
  clear ho
  rw [Oper.semAt_plain Fc _ _ (by intro c h; cases h)]
  simp only [gplR_o2]
  go_simp
  refine ⟨hF.deep, (hF.call (hT w)).mono ?_⟩
  rintro e w' ⟨rfl, rfl⟩
  exact hK _ _ ⟨_, act_putD x hdef _ _, rfl, below_alloc _ _⟩
set_option maxRecDepth 100000 in
set_option maxHeartbeats 2000000 in
theorem gplR_s3 {Fc : Fence} (hF : Wide Fc) {nC : Nat} (b3 p d0 d1 d2 m : Nat) (v6 : Value) (aV : Option Addr) (nV cV : Nat) (T : ByteArray) (Q : Exit → Act → World → Prop) (df : List Deferred) (w0 : World)
    (h3 : w0.cell? ⟨b3, 0, none⟩ = some (.map (some m))) (hL : ∀ W, Below w0.heap.size w0 W → (Instr.lookup 46 (.map (some m)) (.agg #[.int .u8 (d0 : Nat), .int .u8 (d1 : Nat), .int .u8 (d2 : Nat)]) false).run Tryz.prog W = .ok (.slice aV nV cV) W) (h0 : w0.cell? ⟨p, 0, none⟩ = some (.int .u8 (d0 : Nat))) (h1 : w0.cell? ⟨p, 1, none⟩ = some (.int .u8 (d1 : Nat))) (h2 : w0.cell? ⟨p, 2, none⟩ = some (.int .u8 (d2 : Nat))) (hT : ∀ W, Calls Tryz.prog 23 #[.agg #[.int .u8 (d0 : Nat), .int .u8 (d1 : Nat), .int .u8 (d2 : Nat)]] W fun e w' => e = .returned (.string T) ∧ w' = W.alloc (.cells #[.int .u8 (d0 : Nat), .int .u8 (d1 : Nat), .int .u8 (d2 : Nat)] 51))
    (x : Act) (w : World) (hB : Below w0.heap.size w0 w) (hdef : x.defers = df) (u3 : x.tmps.getD 3 undef = .pointer (some ⟨b3, 0, none⟩)) (u6 : x.tmps.getD 6 undef = v6) (u8 : x.tmps.getD 8 undef = .pointer (some ⟨p, 0, none⟩))
    : wpOpIn Fc nC Tryz.prog gplR_ops Q 3 (fun a' w' => ∃ v, a' = x.put (some 33) v ∧ (v = .map (some m)) ∧ Below w.heap.size w w') x w := by
  have ho : gplR_ops[3]? = some gplR_o3 := rfl
  simp only [Array.getD_eq_getD_getElem?] at u3 u6 u8
  have c3 := cell_thru h3 hB
  refine wpOpIn_plain ho rfl (oper_inK hF.fn (fun K hK => ?_))
  clear ho
  rw [Oper.semAt_plain Fc _ _ (by intro c h; cases h)]
  simp only [gplR_o3]
  go_simp
  exact hK _ _ ⟨_, act_putD x hdef _ _, rfl, Below.refl _ _⟩
set_option maxRecDepth 100000 in
set_option maxHeartbeats 2000000 in
theorem gplR_s4 {Fc : Fence} (hF : Wide Fc) {nC : Nat} (b3 p d0 d1 d2 m : Nat) (v6 : Value) (aV : Option Addr) (nV cV : Nat) (T : ByteArray) (Q : Exit → Act → World → Prop) (df : List Deferred) (w0 : World)
    (h3 : w0.cell? ⟨b3, 0, none⟩ = some (.map (some m))) (hL : ∀ W, Below w0.heap.size w0 W → (Instr.lookup 46 (.map (some m)) (.agg #[.int .u8 (d0 : Nat), .int .u8 (d1 : Nat), .int .u8 (d2 : Nat)]) false).run Tryz.prog W = .ok (.slice aV nV cV) W) (h0 : w0.cell? ⟨p, 0, none⟩ = some (.int .u8 (d0 : Nat))) (h1 : w0.cell? ⟨p, 1, none⟩ = some (.int .u8 (d1 : Nat))) (h2 : w0.cell? ⟨p, 2, none⟩ = some (.int .u8 (d2 : Nat))) (hT : ∀ W, Calls Tryz.prog 23 #[.agg #[.int .u8 (d0 : Nat), .int .u8 (d1 : Nat), .int .u8 (d2 : Nat)]] W fun e w' => e = .returned (.string T) ∧ w' = W.alloc (.cells #[.int .u8 (d0 : Nat), .int .u8 (d1 : Nat), .int .u8 (d2 : Nat)] 51))
    (x : Act) (w : World) (hB : Below w0.heap.size w0 w) (hdef : x.defers = df) (u3 : x.tmps.getD 3 undef = .pointer (some ⟨b3, 0, none⟩)) (u6 : x.tmps.getD 6 undef = v6) (u8 : x.tmps.getD 8 undef = .pointer (some ⟨p, 0, none⟩))
    : wpOpIn Fc nC Tryz.prog gplR_ops Q 4 (fun a' w' => ∃ v, a' = x.put (some 34) v ∧ (v = .agg #[.int .u8 (d0 : Nat), .int .u8 (d1 : Nat), .int .u8 (d2 : Nat)]) ∧ Below w.heap.size w w') x w := by
  have ho : gplR_ops[4]? = some gplR_o4 := rfl
  simp only [Array.getD_eq_getD_getElem?] at u3 u6 u8
  have c0 := cell_thru h0 hB
  have c1 := cell_thru h1 hB
  have c2 := cell_thru h2 hB
  refine wpOpIn_plain ho rfl (oper_inK hF.fn (fun K hK => ?_))
  clear ho
  rw [Oper.semAt_plain Fc _ _ (by intro c h; cases h)]
  simp only [gplR_o4]
  go_simp
  exact hK _ _ ⟨_, act_putD x hdef _ _, rfl, Below.refl _ _⟩
set_option maxRecDepth 100000 in
set_option maxHeartbeats 2000000 in
theorem gplR_s5 {Fc : Fence} (hF : Wide Fc) {nC : Nat} (b3 p d0 d1 d2 m : Nat) (v6 : Value) (aV : Option Addr) (nV cV : Nat) (T : ByteArray) (Q : Exit → Act → World → Prop) (df : List Deferred) (w0 : World)
    (h3 : w0.cell? ⟨b3, 0, none⟩ = some (.map (some m))) (hL : ∀ W, Below w0.heap.size w0 W → (Instr.lookup 46 (.map (some m)) (.agg #[.int .u8 (d0 : Nat), .int .u8 (d1 : Nat), .int .u8 (d2 : Nat)]) false).run Tryz.prog W = .ok (.slice aV nV cV) W) (h0 : w0.cell? ⟨p, 0, none⟩ = some (.int .u8 (d0 : Nat))) (h1 : w0.cell? ⟨p, 1, none⟩ = some (.int .u8 (d1 : Nat))) (h2 : w0.cell? ⟨p, 2, none⟩ = some (.int .u8 (d2 : Nat))) (hT : ∀ W, Calls Tryz.prog 23 #[.agg #[.int .u8 (d0 : Nat), .int .u8 (d1 : Nat), .int .u8 (d2 : Nat)]] W fun e w' => e = .returned (.string T) ∧ w' = W.alloc (.cells #[.int .u8 (d0 : Nat), .int .u8 (d1 : Nat), .int .u8 (d2 : Nat)] 51))
    (x : Act) (w : World) (hB : Below w0.heap.size w0 w) (hdef : x.defers = df) (u3 : x.tmps.getD 3 undef = .pointer (some ⟨b3, 0, none⟩)) (u6 : x.tmps.getD 6 undef = v6) (u8 : x.tmps.getD 8 undef = .pointer (some ⟨p, 0, none⟩))
    (p3 : gplR_val b3 p d0 d1 d2 m v6 aV nV cV T 3 (x.tmps.getD 33 undef) w)
    (p4 : gplR_val b3 p d0 d1 d2 m v6 aV nV cV T 4 (x.tmps.getD 34 undef) w)
    : wpOpIn Fc nC Tryz.prog gplR_ops Q 5 (fun a' w' => ∃ v, a' = x.put (some 35) v ∧ (v = .slice aV nV cV) ∧ Below w.heap.size w w') x w := by
  have ho : gplR_ops[5]? = some gplR_o5 := rfl
  simp only [Array.getD_eq_getD_getElem?] at u3 u6 u8
  have q3 : x.tmps.getD 33 undef = .map (some m) := p3
  have q4 : x.tmps.getD 34 undef = .agg #[.int .u8 (d0 : Nat), .int .u8 (d1 : Nat), .int .u8 (d2 : Nat)] := p4
  simp only [Array.getD_eq_getD_getElem?] at q3 q4
  have hlk := hL w hB
  refine wpOpIn_plain ho rfl (oper_inK hF.fn (fun K hK => ?_))
  clear ho
  rw [Oper.semAt_plain Fc _ _ (by intro c h; cases h)]
  simp only [gplR_o5]
  go_simp
  exact hK _ _ ⟨_, act_putD x hdef _ _, rfl, Below.refl _ _⟩
set_option maxRecDepth 100000 in
set_option maxHeartbeats 2000000 in
theorem gplR_s6 {Fc : Fence} (hF : Wide Fc) {nC : Nat} (b3 p d0 d1 d2 m : Nat) (v6 : Value) (aV : Option Addr) (nV cV : Nat) (T : ByteArray) (Q : Exit → Act → World → Prop) (df : List Deferred) (w0 : World)
    (h3 : w0.cell? ⟨b3, 0, none⟩ = some (.map (some m))) (hL : ∀ W, Below w0.heap.size w0 W → (Instr.lookup 46 (.map (some m)) (.agg #[.int .u8 (d0 : Nat), .int .u8 (d1 : Nat), .int .u8 (d2 : Nat)]) false).run Tryz.prog W = .ok (.slice aV nV cV) W) (h0 : w0.cell? ⟨p, 0, none⟩ = some (.int .u8 (d0 : Nat))) (h1 : w0.cell? ⟨p, 1, none⟩ = some (.int .u8 (d1 : Nat))) (h2 : w0.cell? ⟨p, 2, none⟩ = some (.int .u8 (d2 : Nat))) (hT : ∀ W, Calls Tryz.prog 23 #[.agg #[.int .u8 (d0 : Nat), .int .u8 (d1 : Nat), .int .u8 (d2 : Nat)]] W fun e w' => e = .returned (.string T) ∧ w' = W.alloc (.cells #[.int .u8 (d0 : Nat), .int .u8 (d1 : Nat), .int .u8 (d2 : Nat)] 51))
    (x : Act) (w : World) (hB : Below w0.heap.size w0 w) (hdef : x.defers = df) (u3 : x.tmps.getD 3 undef = .pointer (some ⟨b3, 0, none⟩)) (u6 : x.tmps.getD 6 undef = v6) (u8 : x.tmps.getD 8 undef = .pointer (some ⟨p, 0, none⟩))
    (p2 : gplR_val b3 p d0 d1 d2 m v6 aV nV cV T 2 (x.tmps.getD 32 undef) w)
    (p5 : gplR_val b3 p d0 d1 d2 m v6 aV nV cV T 5 (x.tmps.getD 35 undef) w)
    : wpOpIn Fc nC Tryz.prog gplR_ops Q 6 (fun a' w' => ∃ v, a' = x.put (some 36) v ∧ (v = .agg #[.string T, .slice aV nV cV]) ∧ Below w.heap.size w w') x w := by
  have ho : gplR_ops[6]? = some gplR_o6 := rfl
  simp only [Array.getD_eq_getD_getElem?] at u3 u6 u8
  have q2 : x.tmps.getD 32 undef = .string T := p2
  have q5 : x.tmps.getD 35 undef = .slice aV nV cV := p5
  simp only [Array.getD_eq_getD_getElem?] at q2 q5
  refine wpOpIn_plain ho rfl (oper_inK hF.fn (fun K hK => ?_))
  clear ho
  rw [Oper.semAt_plain Fc _ _ (by intro c h; cases h)]
  simp only [gplR_o6]
  go_simp
  exact hK _ _ ⟨_, act_putD x hdef _ _, rfl, Below.refl _ _⟩
set_option maxRecDepth 100000 in
set_option maxHeartbeats 2000000 in
theorem gplR_s7 {Fc : Fence} (hF : Wide Fc) {nC : Nat} (b3 p d0 d1 d2 m : Nat) (v6 : Value) (aV : Option Addr) (nV cV : Nat) (T : ByteArray) (Q : Exit → Act → World → Prop) (df : List Deferred) (w0 : World)
    (h3 : w0.cell? ⟨b3, 0, none⟩ = some (.map (some m))) (hL : ∀ W, Below w0.heap.size w0 W → (Instr.lookup 46 (.map (some m)) (.agg #[.int .u8 (d0 : Nat), .int .u8 (d1 : Nat), .int .u8 (d2 : Nat)]) false).run Tryz.prog W = .ok (.slice aV nV cV) W) (h0 : w0.cell? ⟨p, 0, none⟩ = some (.int .u8 (d0 : Nat))) (h1 : w0.cell? ⟨p, 1, none⟩ = some (.int .u8 (d1 : Nat))) (h2 : w0.cell? ⟨p, 2, none⟩ = some (.int .u8 (d2 : Nat))) (hT : ∀ W, Calls Tryz.prog 23 #[.agg #[.int .u8 (d0 : Nat), .int .u8 (d1 : Nat), .int .u8 (d2 : Nat)]] W fun e w' => e = .returned (.string T) ∧ w' = W.alloc (.cells #[.int .u8 (d0 : Nat), .int .u8 (d1 : Nat), .int .u8 (d2 : Nat)] 51))
    (x : Act) (w : World) (hB : Below w0.heap.size w0 w) (hdef : x.defers = df) (u3 : x.tmps.getD 3 undef = .pointer (some ⟨b3, 0, none⟩)) (u6 : x.tmps.getD 6 undef = v6) (u8 : x.tmps.getD 8 undef = .pointer (some ⟨p, 0, none⟩))
    (p6 : gplR_val b3 p d0 d1 d2 m v6 aV nV cV T 6 (x.tmps.getD 36 undef) w)
    : wpOpIn Fc nC Tryz.prog gplR_ops Q 7 (fun a' w' => ∃ v, a' = x.put (some 37) v ∧ (∃ g, v = .slice (some ⟨g, 0, none⟩) 1 1 ∧ w'.cell? ⟨g, 0, none⟩ = some (.string T) ∧ w'.cell? ⟨g, 1, none⟩ = some (.slice aV nV cV)) ∧ Below w.heap.size w w') x w := by
  have ho : gplR_ops[7]? = some gplR_o7 := rfl
  simp only [Array.getD_eq_getD_getElem?] at u3 u6 u8
  have q6 : x.tmps.getD 36 undef = .agg #[.string T, .slice aV nV cV] := p6
  simp only [Array.getD_eq_getD_getElem?] at q6
  refine wpOpIn_plain ho rfl (oper_inK hF.fn (fun K hK => ?_))
  clear ho
  rw [Oper.semAt_plain Fc _ _ (by intro c h; cases h)]
  simp only [gplR_o7]
  go_simp
  exact hK _ _ ⟨_, act_putD x hdef _ _, ⟨w.heap.size, rfl, by simp, by simp⟩, below_alloc _ _⟩

set_option maxRecDepth 100000 in
set_option maxHeartbeats 4000000 in
theorem gplR {Fc : Fence} (hF : Wide Fc) {nC : Nat} (b3 p d0 d1 d2 m : Nat) (v6 : Value) (aV : Option Addr) (nV cV : Nat) (T : ByteArray) (Q : Exit → Act → World → Prop) (t0 : Array Value) (df : List Deferred) (w0 : World) (ht : t0.size = 41)
    (hs3 : t0.getD 3 undef = .pointer (some ⟨b3, 0, none⟩)) (hs6 : t0.getD 6 undef = v6) (hs8 : t0.getD 8 undef = .pointer (some ⟨p, 0, none⟩))
    (h3 : w0.cell? ⟨b3, 0, none⟩ = some (.map (some m))) (hL : ∀ W, Below w0.heap.size w0 W → (Instr.lookup 46 (.map (some m)) (.agg #[.int .u8 (d0 : Nat), .int .u8 (d1 : Nat), .int .u8 (d2 : Nat)]) false).run Tryz.prog W = .ok (.slice aV nV cV) W) (h0 : w0.cell? ⟨p, 0, none⟩ = some (.int .u8 (d0 : Nat))) (h1 : w0.cell? ⟨p, 1, none⟩ = some (.int .u8 (d1 : Nat))) (h2 : w0.cell? ⟨p, 2, none⟩ = some (.int .u8 (d2 : Nat))) (hT : ∀ W, Calls Tryz.prog 23 #[.agg #[.int .u8 (d0 : Nat), .int .u8 (d1 : Nat), .int .u8 (d2 : Nat)]] W fun e w' => e = .returned (.string T) ∧ w' = W.alloc (.cells #[.int .u8 (d0 : Nat), .int .u8 (d1 : Nat), .int .u8 (d2 : Nat)] 51))
    (hQ : ∀ (vs : Nat → Value) (w : World), Below w0.heap.size w0 w → (vs 30 = v6) → (∃ g, (vs 37) = .slice (some ⟨g, 0, none⟩) 1 1 ∧ w.cell? ⟨g, 0, none⟩ = some (.string T) ∧ w.cell? ⟨g, 1, none⟩ = some (.slice aV nV cV)) → wpOpIn Fc nC Tryz.prog gplR_ops Q 8 (fun a' w' => wpOpIn Fc nC Tryz.prog gplR_ops Q 9 (Q .normal) a' w') { tmps := [30, 31, 32, 33, 34, 35, 36, 37].foldl (fun y d => y.setIfInBounds d (vs d)) t0, defers := df } w) :
    (Code.region 10 gplR_ops true).wpIn Fc nC Tryz.prog Q { tmps := t0, defers := df } w0 := by
  refine wpIn_region_tail 8 (by decide) (by kernel_rfl) (fun a b => Below a.heap.size a b) (gplR_val b3 p d0 d1 d2 m v6 aV nV cV T) t0 df w0 (by rw [ht]; kernel_rfl) (by kernel_rfl) (by kernel_rfl) (by kernel_rfl) ((Below.refl _ _).drew) (fun _ _ _ h k => h.trans (k.mono h.size)) (gplR_below b3 p d0 d1 d2 m v6 aV nV cV T) ?_ ?_
  · intro j o ho hj x w hB hdef hsz hs hdeps
    have hs' : ∀ s, ¬ gplR_mem s → x.tmps.getD s undef = t0.getD s undef := fun s hn => hs s (fun j hj e => hn (by rw [e]; exact gplR_slots j hj))
    have u3 := (hs' 3 (by decide)).trans hs3
    have u6 := (hs' 6 (by decide)).trans hs6
    have u8 := (hs' 8 (by decide)).trans hs8
    match j, ho, hj with
    | 0, ho, _ =>
      have e : o = gplR_o0 := (Option.some.inj ho).symm
      subst e
      exact gplR_s0 hF b3 p d0 d1 d2 m v6 aV nV cV T Q df w0 h3 hL h0 h1 h2 hT x w hB hdef u3 u6 u8 
    | 1, ho, _ =>
      have e : o = gplR_o1 := (Option.some.inj ho).symm
      subst e
      exact gplR_s1 hF b3 p d0 d1 d2 m v6 aV nV cV T Q df w0 h3 hL h0 h1 h2 hT x w hB hdef u3 u6 u8 
    | 2, ho, _ =>
      have e : o = gplR_o2 := (Option.some.inj ho).symm
      subst e
      exact gplR_s2 hF b3 p d0 d1 d2 m v6 aV nV cV T Q df w0 h3 hL h0 h1 h2 hT x w hB hdef u3 u6 u8 (hdeps { on := 1, ground := Ground.data } (by simp) rfl)
    | 3, ho, _ =>
      have e : o = gplR_o3 := (Option.some.inj ho).symm
      subst e
      exact gplR_s3 hF b3 p d0 d1 d2 m v6 aV nV cV T Q df w0 h3 hL h0 h1 h2 hT x w hB hdef u3 u6 u8 
    | 4, ho, _ =>
      have e : o = gplR_o4 := (Option.some.inj ho).symm
      subst e
      exact gplR_s4 hF b3 p d0 d1 d2 m v6 aV nV cV T Q df w0 h3 hL h0 h1 h2 hT x w hB hdef u3 u6 u8 
    | 5, ho, _ =>
      have e : o = gplR_o5 := (Option.some.inj ho).symm
      subst e
      exact gplR_s5 hF b3 p d0 d1 d2 m v6 aV nV cV T Q df w0 h3 hL h0 h1 h2 hT x w hB hdef u3 u6 u8 (hdeps { on := 3, ground := Ground.data } (by simp) rfl) (hdeps { on := 4, ground := Ground.data } (by simp) rfl)
    | 6, ho, _ =>
      have e : o = gplR_o6 := (Option.some.inj ho).symm
      subst e
      exact gplR_s6 hF b3 p d0 d1 d2 m v6 aV nV cV T Q df w0 h3 hL h0 h1 h2 hT x w hB hdef u3 u6 u8 (hdeps { on := 2, ground := Ground.data } (by simp) rfl) (hdeps { on := 5, ground := Ground.data } (by simp) rfl)
    | 7, ho, _ =>
      have e : o = gplR_o7 := (Option.some.inj ho).symm
      subst e
      exact gplR_s7 hF b3 p d0 d1 d2 m v6 aV nV cV T Q df w0 h3 hL h0 h1 h2 hT x w hB hdef u3 u6 u8 (hdeps { on := 6, ground := Ground.data } (by simp) rfl)
    | k + 8, _, hj => omega
  · intro x w hB hdef hsz hs hv
    have hx := frame_sets x.tmps t0 hsz [30, 31, 32, 33, 34, 35, 36, 37] (fun s hn => hs s (fun j hj e => hn (by rw [e]; exact gplR_slots j hj)))
    have hq := hQ (fun d => x.tmps.getD d undef) w hB (hv 0 (by decide)) (hv 7 (by decide))
    obtain ⟨T, Df⟩ := x
    dsimp only at hx hdef hq
    subst hdef
    rw [← hx] at hq
    exact hq
end Go.Proofs.YtpdlapnliiengaaGreat
