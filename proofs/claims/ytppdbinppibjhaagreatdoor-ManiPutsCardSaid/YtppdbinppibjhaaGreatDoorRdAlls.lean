/-
  The program's reader: what it holds in memory; Read, OK, Left, fail, take.
-/
import Derived.Test.YtppdbinppibjhaaGreatDoorWrRef
import Derived.Shelf.Abstract
import Derived.Shelf.RegionOpen
import Derived.TacticsInMore
import Derived.LoopNIn
import Derived.LoopIn
import Derived.LoopN
set_option maxHeartbeats 4000000
set_option maxRecDepth 100000
set_option linter.unusedVariables false
set_option linter.unusedSimpArgs false
namespace Go.Proofs.YtppdbinppibjhaaGreatDoor
open Go.RowKit
def Rd (w : World) (p : Nat) (F : Nat → Prop) (S : Option (List Nat)) : Prop :=
 F p ∧ match S with
 | none => w.heap[p]? = some (.cells #[.slice none 0 0, .bool false] 174 (0, 0))
 | some L => ∃ A C, w.heap[p]? = some (.cells #[.slice A L.length C, .bool true] 174 (0, 0)) ∧ L.length ≤ C ∧ C ≤ 9223372036854775807 ∧ (A = none → C = 0) ∧ (C = 0 ∨ ∃ b off, A = some ⟨b, off, none⟩) ∧ BL w A L ∧ ∀ g off s, A = some ⟨g, off, s⟩ → F g ∧ g ≠ p
theorem Rd.mono {w : World} {p : Nat} {F G : Nat → Prop} {S : Option (List Nat)} (h : Rd w p F S) (hFG : ∀ k, F k → G k) : Rd w p G S := by
 cases S with
 | none => exact ⟨hFG _ h.1, h.2⟩
 | some L =>
   obtain ⟨hp, A, C, h1, h2, h3, h4, h5, h6, h7⟩ := h
   exact ⟨hFG _ hp, A, C, h1, h2, h3, h4, h5, h6, fun g o s e => ⟨hFG _ (h7 g o s e).1, (h7 g o s e).2⟩⟩
theorem Rd.kept {w w' : World} {p : Nat} {F G : Nat → Prop} {S : Option (List Nat)} (h : Rd w p F S) (hk : Kept G w w') (hd : ∀ k, F k → ¬ G k) : Rd w' p F S := by
 cases S with
 | none => exact ⟨h.1, hk.heap h.2 (hd _ h.1)⟩
 | some L =>
   obtain ⟨hp, A, C, h1, h2, h3, h4, h5, h6, h7⟩ := h
   exact ⟨hp, A, C, hk.heap h1 (hd _ hp), h2, h3, h4, h5, h6.kept hk (fun g o s e => hd _ (h7 g o s e).1), h7⟩
theorem BL.cells {w w' : World} {a : Option Addr} {L : List Nat} (h : BL w a L) (hk : CellsKept w w') : BL w' a L := by
 obtain ⟨hz, h | ⟨b, off, h, hc⟩⟩ := h
 ·exact ⟨hz, .inl h⟩
 ·exact ⟨hz, .inr ⟨b, off, h, fun i hi => hk.cell (hc i hi)⟩⟩
theorem Rd.cells {w w' : World} {p : Nat} {F : Nat → Prop} {S : Option (List Nat)} (h : Rd w p F S) (hk : CellsKept w w') : Rd w' p F S := by
 cases S with
 | none => exact ⟨h.1, hk _ _ _ _ h.2⟩
 | some L =>
   obtain ⟨hp, A, C, h1, h2, h3, h4, h5, h6, h7⟩ := h
   exact ⟨hp, A, C, hk _ _ _ _ h1, h2, h3, h4, h5, h6.cells hk, h7⟩
def RP (w : World) (pv : Value) (F : Nat → Prop) (S : Option (List Nat)) : Prop := (pv = .pointer none ∧ S = none) ∨ ∃ p, pv = .pointer (some ⟨p, 0, none⟩) ∧ Rd w p F S
theorem RP.mono {w : World} {pv : Value} {F G : Nat → Prop} {S : Option (List Nat)} (h : RP w pv F S) (hFG : ∀ k, F k → G k) : RP w pv G S := by
 rcases h with h | ⟨p, h1, h2⟩
 ·exact .inl h
 ·exact .inr ⟨p, h1, h2.mono hFG⟩
theorem RP.kept {w w' : World} {pv : Value} {F G : Nat → Prop} {S : Option (List Nat)} (h : RP w pv F S) (hk : Kept G w w') (hd : ∀ k, F k → ¬ G k) : RP w' pv F S := by
 rcases h with h | ⟨p, h1, h2⟩
 ·exact .inl h
 ·exact .inr ⟨p, h1, h2.kept hk hd⟩
theorem ok_any (pv : Value) (F : Nat → Prop) (S : Option (List Nat)) (w : World) (h : RP w pv F S) :
  Calls Tryz.prog 60 #[pv] w fun e w' => e = .returned (.bool S.isSome) ∧ w = w' := by
 rcases h with ⟨rfl, rfl⟩ | ⟨p, rfl, hp, h⟩
 ·go_enter Tryz.func60, Tryz.ntmps60
  go_wp2
  go_ret
  exact ⟨rfl, rfl⟩
 ·cases S with
  | none =>
    obtain ⟨c0, c1, f0, f1⟩ := cells2 h
    clear h
    go_enter Tryz.func60, Tryz.ntmps60
    go_wp2
    go_ret
    exact ⟨rfl, rfl⟩
  | some L =>
    obtain ⟨A, C, h1, _⟩ := h
    obtain ⟨c0, c1, f0, f1⟩ := cells2 h1
    clear h1
    go_enter Tryz.func60, Tryz.ntmps60
    go_wp2
    go_ret
    exact ⟨rfl, rfl⟩
theorem left_any (pv : Value) (F : Nat → Prop) (S : Option (List Nat)) (w : World) (h : RP w pv F S) :
  Calls Tryz.prog 61 #[pv] w fun e w' => e = .returned (.int .i64 (szO S : Nat)) ∧ w = w' := by
 rcases h with ⟨rfl, rfl⟩ | ⟨p, rfl, hp, h⟩
 ·go_enter Tryz.func61, Tryz.ntmps61
  go_wp2
  go_ret
  exact ⟨rfl, rfl⟩
 ·cases S with
  | none =>
    obtain ⟨c0, c1, f0, f1⟩ := cells2 h
    clear h
    go_enter Tryz.func61, Tryz.ntmps61
    go_wp2
    go_ret
    exact ⟨rfl, rfl⟩
  | some L =>
    obtain ⟨A, C, h1, _⟩ := h
    obtain ⟨c0, c1, f0, f1⟩ := cells2 h1
    clear h1
    go_enter Tryz.func61, Tryz.ntmps61
    go_wp2
    go_ret
    exact ⟨rfl, rfl⟩
theorem Rd.block {w : World} {p : Nat} {F : Nat → Prop} {S : Option (List Nat)} (h : Rd w p F S) : ∃ a b, w.heap[p]? = some (.cells #[a, b] 174 (0, 0)) := by
 cases S with
 | none => exact ⟨_, _, h.2⟩
 | some L => obtain ⟨hp, A, C, h1, _⟩ := h; exact ⟨_, _, h1⟩
theorem rdFail_any (p : Nat) (F : Nat → Prop) (S : Option (List Nat)) (w : World) (h : Rd w p F S) :
  Calls Tryz.prog 111 #[.pointer (some ⟨p, 0, none⟩)] w fun e w' => e = .returned (.tuple #[]) ∧ Rd w' p F none ∧ Kept (fun k => k = p) w w' := by
 obtain ⟨a, b, h0⟩ := h.block
 have hp := h.1
 obtain ⟨c0, c1, f0, f1⟩ := cells2 h0
 have H := hide h0
 clear h h0
 go_enter Tryz.func111, Tryz.ntmps111
 go_wp2
 go_end0
 refine ⟨rfl, ⟨hp, ?_⟩, ((Kept.refl (fun k => k = p) w).setCell (.inl rfl) _).setCell (.inl rfl) _⟩
 exact heap_setCell_same _ p 1 _ _ _ (heap_setCell_same _ p 0 _ _ _ H.out)
theorem slices_bl (a : Option Addr) (h cap : Nat) (L : List Nat) (w : World) (hk : h ≤ L.length) (hc : L.length ≤ cap) (ha : cap = 0 ∨ ∃ b off, a = some ⟨b, off, none⟩) (hn : a = none → cap = 0) (hz : BL w a L) :
  ∃ A1 A2 : Option Addr, (∀ wx, (Instr.slice 28 (.slice a L.length cap) none (some (.int .i64 (h : Int))) none).run Tryz.prog wx = .ok (.slice A1 h cap) wx) ∧
    (∀ wx, (Instr.slice 28 (.slice a L.length cap) (some (.int .i64 (h : Int))) none none).run Tryz.prog wx = .ok (.slice A2 (L.length - h) (cap - h)) wx) ∧ BL w A1 (L.take h) ∧ BL w A2 (L.drop h) ∧
    (A1 = none → cap = 0) ∧ (A2 = none → cap - h = 0) ∧ (cap - h = 0 ∨ ∃ b off, A2 = some ⟨b, off, none⟩) ∧ (∀ g off s, A1 = some ⟨g, off, s⟩ → ∃ off s, a = some ⟨g, off, s⟩) ∧ (∀ g off s, A2 = some ⟨g, off, s⟩ → ∃ off s, a = some ⟨g, off, s⟩) := by
 have ht : Tryz.prog.underlying 28 = some (.slice (Tryz.prog.elem 28)) := by kernel_rfl
 have hs : ∀ wx, (sizeOf (Tryz.prog.elem 28)).run Tryz.prog wx = .ok 1 wx := fun wx => by kernel_rfl
 refine ⟨if cap = 0 then a else a.map (·.add (0 * 1)), if cap = h then a else a.map (·.add (h * 1)), fun wx => ?_, fun wx => ?_, ?_⟩
 ·rw [run_slice_h wx _ a L.length cap ht .i64 (h : Int) (by omega) (by omega), hs]
  simp [Result.andThen, sliced]
 ·rw [run_slice_l wx _ a L.length cap ht .i64 (h : Int) (by omega) (by omega), hs]
  simp [Result.andThen, sliced]
 ·rcases ha with h0 | ⟨b, off, rfl⟩
  ·have hL0 : L = [] := List.eq_nil_of_length_eq_zero (by omega)
   have hh : h = 0 := by omega
   subst hL0 hh h0
   exact ⟨hz, hz, fun _ => rfl, fun _ => rfl, .inl rfl, fun g off s e => ⟨off, s, e⟩, fun g off s e => ⟨off, s, e⟩⟩
  ·have e1 : (if cap = 0 then some (⟨b, off, none⟩ : Addr) else (some ⟨b, off, none⟩ : Option Addr).map (·.add (0 * 1))) = some ⟨b, off, none⟩ := by
    split
    ·rfl
    ·simp [Addr.add]
   rw [e1]
   refine ⟨hz.take h, ?_, fun e => (by cases e), ?_, ?_, fun g off s e => ⟨off, s, e⟩, ?_⟩
   ·by_cases hck : cap = h
    ·rw [if_pos hck]
     have hd : L.drop h = [] := List.drop_eq_nil_iff.2 (by omega)
     rw [hd]
     exact BL.mk (by simp) (.inl rfl)
    ·rw [if_neg hck]
     have e : (some (⟨b, off, none⟩ : Addr)).map (·.add (h * 1)) = some ⟨b, off + h, none⟩ := by
      simp only [Option.map_some, Nat.mul_one]
      unfold Addr.add
      split
      ·rename_i e; rw [e, Nat.add_zero]
      ·rfl
     rw [e]
     exact hz.drop h hk
   ·intro e
    split at e
    ·omega
    ·cases e
   ·by_cases hck : cap = h
    ·exact .inl (by omega)
    ·right
     rw [if_neg hck]
     refine ⟨b, off + h, ?_⟩
     simp only [Option.map_some, Nat.mul_one]
     unfold Addr.add
     split
     ·rename_i e; rw [e, Nat.add_zero]
     ·rfl
   ·intro g o s e
    split at e
    ·exact ⟨o, s, e⟩
    ·simp only [Option.map_some, Option.some.injEq] at e
     have : g = b := by
      unfold Addr.add at e
      split at e <;> (cases e; rfl)
     subst this
     exact ⟨off, none, rfl⟩
theorem take_some (p : Nat) (F : Nat → Prop) (L : List Nat) (m : Nat) (w : World) (h : Rd w p F (some L)) (hm : m ≤ L.length) :
  Calls Tryz.prog 112 #[.pointer (some ⟨p, 0, none⟩), .int .i64 m] w fun e w' => ∃ A C, e = .returned (.slice A m C) ∧ m ≤ C ∧ C ≤ 9223372036854775807 ∧ (A = none → C = 0) ∧ BL w' A (L.take m) ∧ (∀ g off s, A = some ⟨g, off, s⟩ → F g ∧ g ≠ p) ∧ Rd w' p F (some (L.drop m)) ∧ Kept (fun k => k = p) w w' := by
 obtain ⟨hp, A, C, h1, h2, h3, h4, h5, h6, h7⟩ := h
 obtain ⟨A1, A2, s1, s2, b1, b2, n1, n2, q2, g1, g2⟩ := slices_bl A m C L w hm h2 h5 h4 h6
 obtain ⟨c0, c1, f0, f1⟩ := cells2 h1
 have H1 := hide h1
 have hmi : (m : Int) ≤ (L.length : Int) := by omega
 have hm0 : (0 : Int) ≤ (m : Int) := by omega
 have hK : Kept (fun k => k = p) w (w.setCell ⟨p, 0, none⟩ (.slice A2 (L.length - m) (C - m))) := (Kept.refl (fun k => k = p) w).setCell (.inl rfl) _
 have g1' : ∀ g off s, A1 = some ⟨g, off, s⟩ → F g ∧ g ≠ p := fun g o s e => by obtain ⟨o', s', e'⟩ := g1 g o s e; exact h7 g o' s' e'
 have g2' : ∀ g off s, A2 = some ⟨g, off, s⟩ → F g ∧ g ≠ p := fun g o s e => by obtain ⟨o', s', e'⟩ := g2 g o s e; exact h7 g o' s' e'
 have hR1 : BL (w.setCell ⟨p, 0, none⟩ (.slice A2 (L.length - m) (C - m))) A1 (L.take m) := b1.kept hK (fun g o s e => (g1' g o s e).2)
 have hR2 : Rd (w.setCell ⟨p, 0, none⟩ (.slice A2 (L.length - m) (C - m))) p F (some (L.drop m)) := by
  refine ⟨hp, A2, C - m, ?_, by rw [List.length_drop]; omega, by omega, n2, q2, b2.kept hK (fun g o s e => (g2' g o s e).2), g2'⟩
  rw [List.length_drop]
  exact heap_setCell_same _ p 0 _ _ _ h1
 have HR := hide (And.intro hR1 (And.intro g1' (And.intro hR2 hK)))
 have hCm : m ≤ C := by omega
 clear h1 h4 h5 h6 h7 b1 b2 n2 q2 g1 g2 g1' g2' hR1 hR2 hK
 generalize L.length - m = d at *
 generalize hl : L.length = l at *
 clear hl
 go_enter Tryz.func112, Tryz.ntmps112
 go_wp2
 go_ret
 exact ⟨A1, C, rfl, hCm, h3, n1, HR.out⟩
theorem take_none (p : Nat) (F : Nat → Prop) (L : List Nat) (m : Nat) (w : World) (h : Rd w p F (some L)) (hm : L.length < m) :
  Calls Tryz.prog 112 #[.pointer (some ⟨p, 0, none⟩), .int .i64 m] w fun e w' => e = .returned (.slice none 0 0) ∧ Rd w' p F none ∧ Kept (fun k => k = p) w w' := by
 have hf := rdFail_any p F _ w h
 obtain ⟨hp, A, C, h1, _⟩ := h
 obtain ⟨c0, c1, f0, f1⟩ := cells2 h1
 have hmi : (L.length : Int) < (m : Int) := by omega
 clear h1
 go_enter Tryz.func112, Tryz.ntmps112
 go_wp2_with fail
 refine hf.mono ?_
 rintro e w1 ⟨rfl, hR, hK⟩
 go_wp2_with fail
 go_ret
 exact ⟨rfl, hR, hK⟩
theorem read_any (a : Option Addr) (len cap : Nat) (L : List Nat) (w : World) (hL : L.length = len) (hl : len ≤ 140737488355328) (hlc : len ≤ cap) (hn : a = none → cap = 0) (h : BL w a L) :
  Calls Tryz.prog 57 #[.slice a len cap] w fun e w' => ∃ p, e = .returned (.pointer (some ⟨p, 0, none⟩)) ∧ Rd w' p (fun k => w.heap.size ≤ k ∧ k < w'.heap.size) (some L) ∧ Below w.heap.size w w' := by
 have hb := h.lt
 have hc := cloneBytes_any a len cap L w hL hl hlc hn h
 clear h hn
 go_enter Tryz.func57, Tryz.ntmps57
 go_wp2_with fail
 refine hc.mono ?_
 rintro e w1 ⟨v, rfl, ho, hB⟩
 obtain ⟨_, A, C, rfl, hAC, hCm, hAn, hA0, hbl, hfr⟩ := owns_bl ho hb
 clear hc ho
 have HX : Hid (Rd (w1.alloc (.cells #[.slice A len C, .bool true] 174)) w1.heap.size (fun k => w.heap.size ≤ k ∧ k < w1.heap.size + 1) (some L)) := by
  refine ⟨⟨hB.size, by omega⟩, A, C, ?_, by omega, hCm, hAn, ?_, hbl.below (below_alloc _ _), fun g o s e => ?_⟩
  ·rw [hL]; exact heap_alloc_new _ _
  ·rcases hA0 with h | ⟨b, h⟩
   ·exact .inl h
   ·exact .inr ⟨b, 0, h⟩
  ·have := hfr g o s e
   exact ⟨⟨this.2.2.1, by omega⟩, by omega⟩
 have HB := hide hB
 have HL := hide hL
 clear hfr hbl hA0 hAn hb hL hB hl hlc
 go_wp2_with fail
 go_ret
 refine ⟨_, rfl, ?_, HB.out.alloc HB.out.size _⟩
 have hx := HX.out
 rw [← HL.out] at hx
 exact hx.mono (fun k hk => ⟨hk.1, by rw [World.size_alloc]; exact hk.2⟩)
open Go.RowKit Go.Shelf
attribute [local go_sem] Oper.semAt_some
abbrev IB := Fin 6 × Fin 256
def pvs (l : List IB) : List (Nat × Nat) := l.map fun x => (x.1.val, x.2.val)
theorem pvs_snoc (l : List IB) (x : IB) : pvs (l ++ [x]) = pvs l ++ [(x.1.val, x.2.val)] := by simp [pvs]
def sq (L : List Nat) (k : Nat) : List (Nat × Nat) := (List.range k).map fun i => (i, L.getD i 0)
theorem sq_succ (L : List Nat) (k : Nat) : sq L (k + 1) = sq L k ++ [(k, L.getD k 0)] := by simp [sq, List.range_succ]
def Goes (L : List Nat) (k : Nat) : Prop := (∀ i, i < k → 128 ≤ L.getD i 0) ∧ k ≤ 6 ∧ k ≤ L.length
theorem Goes.le {L : List Nat} {k : Nat} (h : Goes L k) : k ≤ yl 6 L := by
 cases k with
 | zero => omega
 | succ k => exact yl_step 6 L k (by have := h.2.1; omega) (by have := h.2.2; omega) (fun i hi => h.1 i (by omega))
theorem Goes.full {L : List Nat} {k : Nat} (h : Goes L k) (e : k = 6 ∨ k = L.length) : yl 6 L = k := by
 have := h.le
 have := yl_le 6 L
 omega
theorem Goes.last {L : List Nat} {k : Nat} (h : Goes L k) (h6 : k < 6) (hl : k < L.length) (hb : L.getD k 0 < 128) : yl 6 L = k + 1 := by
 have h1 := yl_step 6 L k h6 hl h.1
 rcases Nat.lt_or_ge (k + 1) (yl 6 L) with h2 | h2
 ·have := yl_more 6 L k h2; omega
 ·omega
theorem Goes.next {L : List Nat} {k : Nat} (h : Goes L k) (h6 : k < 6) (hl : k < L.length) (hb : 128 ≤ L.getD k 0) : Goes L (k + 1) :=
 ⟨fun i hi => by
  by_cases e : i = k
  ·subst e; exact hb
  ·exact h.1 i (by omega), by omega, by omega⟩
def keepsBL (A : Option Addr) (L : List Nat) (X Y : World) : Prop := BL X A L → BL Y A L
theorem keepsBL_t {A : Option Addr} {L : List Nat} {X Y Z : World} (h : keepsBL A L X Y) (k : keepsBL A L Y Z) : keepsBL A L X Z := fun v => k (h v)
theorem keepsBL_b {A : Option Addr} {L : List Nat} {w : World} (W : World) (l : Nat) (o o' : Obj) (_ : w.heap.size ≤ l) (h : W.heap[l]? = some o) (hc : o.isCells = false) (_ : o.isWalk = false) : keepsBL A L W (W.putObj l o') :=
 fun hb => hb.cells (CellsKept.of_grown (grownBy_putObj' W l o') (fun r e => by cases e; exact ⟨o, h, hc⟩))
theorem placeNumber_in (F : Fence) (n : Nat) (hF : F.fn 110) (hro : F.round = none) (a : Option Addr) (w : World) :
  CallsIn F n Tryz.prog 110 #[.pointer a] w fun e w' => e = .returned (.func (.func 160) #[] #[.pointer (some ⟨w.heap.size, 0, none⟩)]) ∧ w' = w.alloc (.cells #[.pointer a] 262) := by
 refine callsIn_of_wp Tryz.func110 rfl hF ?_ hro
 simp only [Tryz.ntmps110, List.size_toArray, List.length_cons, List.length_nil, Nat.reduceAdd, Nat.reduceSub, Array.replicate_succ, Array.replicate_zero, List.push_toArray, List.append_toArray, List.nil_append, List.cons_append]
 gi_wp2
 go_ret
 exact ⟨rfl, rfl⟩
theorem number1_in (F : Fence) (n : Nat) (hF : F.fn 160) (hro : F.round = none) (hn : 1 ≤ n) (l Bs p : Nat) (A : Option Addr) (C : Nat) (L : List Nat) (J Jx : List IB → World → Prop)
  (hY : ∀ pre x W, J pre W → pre.length < 6 → YieldAt F (n - 1) Tryz.prog l #[.int .i64 (x.1.val : Nat), .int .u8 (x.2.val : Nat)] W fun e W' =>
   (e = .returned (.bool true) ∧ J (pre ++ [x]) W' ∧ keepsBL A L W W') ∨ (e = .returned (.bool false) ∧ Jx (pre ++ [x]) W'))
  (W : World) (hBs : W.cell? ⟨Bs, 0, none⟩ = some (.pointer (some ⟨p, 0, none⟩))) (hp : W.cell? ⟨p, 0, none⟩ = some (.slice A L.length C)) (hL : L.length ≤ 9223372036854775807) (hb : BL W A L) (h0 : J [] W) :
  CallsIn F n Tryz.prog 160 #[.func (.yield l) #[] #[], .pointer (some ⟨Bs, 0, none⟩)] W fun e W' => (∃ v, e = .returned v) ∧
   ((∃ ys, pvs ys = sq L (yl 6 L) ∧ J ys W') ∨ (∃ pre, True ∧ Jx pre W')) := by
 refine callsIn_of_wp Tryz.func160 rfl hF ?_ hro
 simp only [Tryz.ntmps160, List.size_toArray, List.length_cons, List.length_nil, Nat.reduceAdd, Nat.reduceSub, Array.replicate_succ, Array.replicate_zero, List.push_toArray, List.append_toArray, List.nil_append, List.cons_append]
 gi_wp2
 gi_loopw [10] (fun s wr => ∃ (k : Nat) (pre : List IB), s = .int .i64 k ∧ Goes L k ∧ pvs pre = sq L k ∧ BL wr A L ∧ J pre wr) (fun s _ => L.length - (intOf s).toNat)
 case atStart => exact ⟨0, [], rfl, ⟨fun i h => by omega, by omega, by omega⟩, rfl, hb, h0⟩
 case round =>
  obtain ⟨k, pre, rfl, hg, hpv, hbr, hJs⟩ := hrel
  have hpl : pre.length = k := by
   have := congrArg List.length hpv
   simpa [pvs, sq] using this
  have hkl := hg.2.2
  have hk6 := hg.2.1
  clear hb hBs hp
  by_cases hend : k = L.length
  ·have HE : Hid (pvs pre = sq L (yl 6 L)) := by rw [hg.full (.inr hend)]; exact hpv
   have hki : ¬ ((k : Int) < (L.length : Int)) := by omega
   clear hpv hend hpl hg
   gi_wp2
   go_end0
   exact ⟨⟨_, rfl⟩, .inl ⟨_, HE.out, hJs⟩⟩
  ·have hlt : k < L.length := by omega
   obtain ⟨g, off, rfl, hc⟩ := hbr.cell (by omega)
   have hck := hc k hlt
   have hbk : L.getD k 0 < 256 := hbr.1 k
   have hki : (k : Int) < (L.length : Int) := by omega
   have hk0 : (0 : Int) ≤ (k : Int) := by omega
   have hsq := sq_succ L k
   have hlast : k < 6 → L.getD k 0 < 128 → yl 6 L = k + 1 := fun h => hg.last h hlt
   have hnext : k < 6 → 128 ≤ L.getD k 0 → Goes L (k + 1) := fun h => hg.next h hlt
   clear hc
   generalize L.getD k 0 = bb at *
   by_cases h6 : k = 6
   ·have HE : Hid (pvs pre = sq L (yl 6 L)) := by rw [hg.full (.inl h6)]; exact hpv
    have hk6' : ((k : Int) == 6) = true := by simp; omega
    clear hpv hend hpl hg h6 hsq hlast hnext
    gi_wp2
    refine ⟨fun _ h => (by cases h), ?_⟩
    gi_wp2
    refine bodyPost_ret (results_none rfl _ _ _) rfl ?_
    exact ⟨⟨_, rfl⟩, .inl ⟨_, HE.out, hJs⟩⟩
   ·have hk6' : ((k : Int) == 6) = false := by simp; omega
    have hk6n : k < 6 := by omega
    obtain ⟨fn, tmps, assign, body, hy, hR⟩ := hY pre (⟨k, hk6n⟩, ⟨bb, hbk⟩) wr hJs (by omega)
    have hP : pvs (pre ++ [(⟨k, hk6n⟩, ⟨bb, hbk⟩)]) = sq L (k + 1) := by
     rw [pvs_snoc, hsq, hpv]
    have HP := hide hP
    simp only at hy
    have HB := hide hbr
    clear hpv hpl hP hsq hbr
    by_cases hb128 : bb < 128
    ·have hyl := hlast hk6n hb128
     have HE : Hid (pvs (pre ++ [(⟨k, hk6n⟩, ⟨bb, hbk⟩)]) = sq L (yl 6 L)) := by rw [hyl]; exact HP.out
     have hb128' : (bb : Int) < 128 := by omega
     clear hyl hlast hnext hg
     gi_wp2
     refine hR.mono ?_
     rintro e W3 (⟨rfl, hJ3, _⟩ | ⟨rfl, hJx3⟩)
     ·gi_wp2
      refine bodyPost_ret (results_none rfl _ _ _) rfl ?_
      exact ⟨⟨_, rfl⟩, .inl ⟨_, HE.out, hJ3⟩⟩
     ·gi_wp2
      refine bodyPost_ret (results_none rfl _ _ _) rfl ?_
      exact ⟨⟨_, rfl⟩, .inr ⟨_, trivial, hJx3⟩⟩
    ·have HN := hide (hnext hk6n (by omega))
     have hb128' : (128 : Int) ≤ (bb : Int) := by omega
     clear hlast hnext hg
     gi_wp2
     refine hR.mono ?_
     rintro e W3 (⟨rfl, hJ3, hk3⟩ | ⟨rfl, hJx3⟩)
     ·have hb3 := hk3 HB.out
      clear hk3
      have HB3 := hide hb3
      clear hb3
      gi_wp2
      go_roundw
      case rel => exact ⟨k + 1, _, by go_num, HN.out, HP.out, HB3.out, hJ3⟩
      case measure => simp [intOf]; omega
     ·gi_wp2
      refine bodyPost_ret (results_none rfl _ _ _) rfl ?_
      exact ⟨⟨_, rfl⟩, .inr ⟨_, trivial, hJx3⟩⟩
theorem number_stops (F : Fence) (n : Nat) (hF : F.fn 160) (hro : F.round = none) (hn : 1 ≤ n) (Bs p : Nat) (A : Option Addr) (C : Nat) (L : List Nat) (w : World)
  (hc : w.cell? ⟨Bs, 0, none⟩ = some (.pointer (some ⟨p, 0, none⟩))) (hp : w.cell? ⟨p, 0, none⟩ = some (.slice A L.length C)) (hL : L.length ≤ 9223372036854775807) (hb : BL w A L) :
  SeqStopsK F n Tryz.prog 160 #[.pointer (some ⟨Bs, 0, none⟩)] (fun x : IB => #[Value.int .i64 (x.1.val : Nat), Value.int .u8 (x.2.val : Nat)]) (keepsBL A L) (fun ys => pvs ys = sq L (yl 6 L)) (fun _ => True) 6 w := fun l J Jx W hW _ _ hY h0 => by
 have hc' := cell_thru hc hW
 have hp' := cell_thru hp hW
 exact number1_in F n hF hro hn l Bs p A C L J Jx hY W hc' hp' hL (hb.below hW) h0
/-! ### What the loop makes of what comes -/
def stepN (s : Nat × Nat × Nat) (x : Nat × Nat) : Nat × Nat × Nat := (s.1 ||| (x.2 % 128) * 2 ^ (7 * x.1), x.1 + 1, x.2)
def foldN (l : List (Nat × Nat)) : Nat × Nat × Nat := l.foldl stepN (0, 0, 128)
theorem foldN_snoc (l : List (Nat × Nat)) (x : Nat × Nat) : foldN (l ++ [x]) = stepN (foldN l) x := by simp [foldN]
theorem foldN_sq (L : List Nat) : ∀ k, foldN (sq L k) = (acc L k, k, if k = 0 then 128 else L.getD (k - 1) 0)
 | 0 => by simp [foldN, sq, acc]
 | k + 1 => by
   rw [sq_succ, foldN_snoc, foldN_sq L k]
   have h := acc_lt L k
   have e : 128 ^ k = 2 ^ (7 * k) := by rw [show 128 = 2 ^ 7 from rfl, ← Nat.pow_mul]
   rw [e] at h
   show (acc L k ||| L.getD k 0 % 128 * 2 ^ (7 * k), k + 1, L.getD k 0) = (acc L k + L.getD k 0 % 128 * 128 ^ k, _, _)
   rw [or_add _ _ _ h, e]
   simp
theorem foldN_lt (l : List IB) : (foldN (pvs l)).1 < 2 ^ 42 ∧ (foldN (pvs l)).2.1 ≤ 6 ∧ (foldN (pvs l)).2.2 < 256 := by
 have key : ∀ (l : List IB) (s : Nat × Nat × Nat), s.1 < 2 ^ 42 → s.2.1 ≤ 6 → s.2.2 < 256 → ((pvs l).foldl stepN s).1 < 2 ^ 42 ∧ ((pvs l).foldl stepN s).2.1 ≤ 6 ∧ ((pvs l).foldl stepN s).2.2 < 256 := by
  intro l
  induction l with
  | nil => intro s h1 h2 h3; exact ⟨h1, h2, h3⟩
  | cons x l ih =>
    intro s h1 h2 h3
    refine ih (stepN s (x.1.val, x.2.val)) ?_ (by simp [stepN]; omega) (by simp [stepN])
    refine Nat.or_lt_two_pow h1 ?_
    have hx : 2 ^ (7 * x.1.val) ≤ 2 ^ 35 := Nat.pow_le_pow_right (by omega) (by omega)
    have hm : x.2.val % 128 ≤ 127 := by omega
    have := Nat.mul_le_mul hm hx
    show x.2.val % 128 * 2 ^ (7 * x.1.val) < 2 ^ 42
    omega
 exact key l (0, 0, 128) (by simp) (by simp) (by simp)
end Go.Proofs.YtppdbinppibjhaaGreatDoor
/-
  The program's reader gets a number.
-/
namespace Go.Proofs.YtppdbinppibjhaaGreatDoor
open Go.RowKit Go.Shelf
attribute [local go_sem] Oper.semAt_some
theorem Kept.undrew {F : Nat → Prop} {w w' : World} (h : Kept F w.drew w') : Kept F w w' := ⟨h.os, h.tape, h.output, h.size, h.block, h.others⟩
def NumBox (N0 : Nat) (t : Nat × Nat × Nat) (X : World) : Prop :=
 X.heap[N0]? = some (.cells #[.int .i64 (t.1 : Nat)] 3 (0, 0)) ∧ X.heap[N0 + 1]? = some (.cells #[.int .i64 (t.2.1 : Nat)] 3 (0, 0)) ∧ X.heap[N0 + 1 + 1]? = some (.cells #[.int .u8 (t.2.2 : Nat)] 5 (0, 0))
theorem NumBox.cells {N0 : Nat} {t : Nat × Nat × Nat} {X Y : World} (h : NumBox N0 t X) (hk : CellsKept X Y) : NumBox N0 t Y := ⟨hk _ _ _ _ h.1, hk _ _ _ _ h.2.1, hk _ _ _ _ h.2.2⟩
theorem getNum_of (most : Int) (L : List Nat) : getNum most (some L) =
  if 128 ≤ (foldN (sq L (yl 6 L))).2.2 ∨ ((foldN (sq L (yl 6 L))).2.2 = 0 ∧ 1 < (foldN (sq L (yl 6 L))).2.1) ∨ ¬ (((foldN (sq L (yl 6 L))).1 : Int) ≤ most ∧ (foldN (sq L (yl 6 L))).1 ≤ maxNum) then (0, none)
  else ((foldN (sq L (yl 6 L))).1, some (L.drop (foldN (sq L (yl 6 L))).2.1)) := by
 rw [foldN_sq]
 unfold getNum
 simp only [pN_yl 6 0 L]
 by_cases h0 : yl 6 L = 0
 ·simp [h0]
 ·by_cases h1 : 128 ≤ L.getD (yl 6 L - 1) 0
  ·rw [if_pos (.inr (.inl h1)), if_pos (.inl (by rw [if_neg h0]; exact h1))]
  ·by_cases h2 : L.getD (yl 6 L - 1) 0 = 0 ∧ 1 < yl 6 L
   ·rw [if_pos (.inr (.inr (by omega))), if_pos (.inr (.inl (by rw [if_neg h0]; exact h2)))]
   ·rw [if_neg (by omega)]
    by_cases h3 : ((acc L (yl 6 L) : Nat) : Int) ≤ most ∧ acc L (yl 6 L) ≤ maxNum
    ·rw [if_neg (by rw [if_neg h0]; rintro (h | h | h); exact h1 h; exact h2 h; exact h h3)]
     simp only []
     rw [if_pos h3]
    ·rw [if_pos (.inr (.inr h3))]
     simp only []
     rw [if_neg h3]
theorem int64_nat (a : Nat) (ha : a < 9223372036854775808) : (BitVec.ofInt 64 (a : Int)).toNat = a := by
 rw [BitVec.ofInt_natCast, BitVec.toNat_ofNat, Nat.mod_eq_of_lt (by omega)]
theorem or_i64 (a b : Nat) (ha : a < 2 ^ 42) (hb : b < 2 ^ 42) : bits BinOp.or IntKind.i64 (a : Int) (b : Int) = ((a ||| b : Nat) : Int) := by
 have hx : a ||| b < 2 ^ 42 := Nat.or_lt_two_pow ha hb
 have h : bits BinOp.or IntKind.i64 (a : Int) (b : Int) = IntKind.i64.wrap (((BitVec.ofInt 64 (a : Int)) ||| (BitVec.ofInt 64 (b : Int))).toNat : Nat) := rfl
 rw [h, BitVec.toNat_or, int64_nat a (by omega), int64_nat b (by omega)]
 exact IntWalk.i64_in _ (by omega)
theorem shl_i64 (x i : Nat) (hi : i < 6) (hx : x < 128) (W : World) : (Op.shift BinOp.shl IntKind.i64 (x : Int) IntKind.i64 ((7 * i : Nat) : Int)).run Tryz.prog W = .ok (.int .i64 ((x * 2 ^ (7 * i) : Nat) : Int)) W := by
 have hw : IntKind.i64.wrap ((x * 2 ^ (7 * i) : Nat) : Int) = ((x * 2 ^ (7 * i) : Nat) : Int) := by
  have h1 : 2 ^ (7 * i) ≤ 2 ^ 35 := Nat.pow_le_pow_right (by omega) (by omega)
  have h2 := Nat.mul_le_mul (show x ≤ 127 by omega) h1
  exact IntWalk.i64_in _ (by omega)
 have hm : min ((7 * i : Nat) : Int).toNat IntKind.i64.bits = 7 * i := by
  rw [Int.toNat_natCast]
  exact Nat.min_eq_left (by show 7 * i ≤ 64; omega)
 have hc : (x : Int) * 2 ^ (7 * i) = ((x * 2 ^ (7 * i) : Nat) : Int) := by simp
 unfold Op.shift
 rw [if_neg (by omega), hm]
 show Result.ok (Value.int .i64 (IntKind.i64.wrap ((x : Int) * 2 ^ (7 * i)))) W = _
 rw [hc, hw]
theorem rdNumber_in (n : Nat) (hn4 : 4 ≤ n) (p : Nat) (F : Nat → Prop) (L : List Nat) (most : Int) (w : World) (h : Rd w p F (some L)) (hF : ∀ k, F k → k < w.heap.size) (hmost : (Lit.int .i64 most).wf = true) (hL : L.length ≤ 9223372036854775807) :
  CallsIn Fence.wide n Tryz.prog 58 #[.pointer (some ⟨p, 0, none⟩), .int .i64 most] w fun e w' => e = .returned (.int .i64 ((getNum most (some L)).1 : Nat)) ∧ Rd w' p F (getNum most (some L)).2 ∧ Kept (fun k => k = p) w w' := by
 have hok := callsIn_wide (n := n - 1).2 (ok_any (.pointer (some ⟨p, 0, none⟩)) F (some L) w (.inr ⟨p, rfl, h⟩))
 have hb0 := bounds_i64 hmost
 refine callsIn_of_wp_marks Tryz.func58 rfl trivial ?_ rfl
 simp only [Tryz.ntmps58, List.size_toArray, List.length_cons, List.length_nil, Nat.reduceAdd, Nat.reduceSub, Array.replicate_succ, Array.replicate_zero, List.push_toArray, List.append_toArray, List.nil_append, List.cons_append]
 gi_wp2
 refine ⟨trivial, fun _ => by omega, hok.mono ?_⟩
 rintro e w' ⟨rfl, rfl⟩
 clear hok
 obtain ⟨W3, hW3⟩ : ∃ W3, ((w.alloc (.cells #[.int .i64 0] 3)).alloc (.cells #[.int .i64 0] 3)).alloc (.cells #[.int .u8 128] 5) = W3 := ⟨_, rfl⟩
 have hs3 : W3.heap.size = w.heap.size + 3 := by rw [← hW3]; simp
 have hK3 : Kept (fun _ => False) w W3 := by rw [← hW3]; exact (((Kept.refl _ w).alloc _).alloc _).alloc _
 have hB3 : NumBox w.heap.size (0, 0, 128) W3 := by
  rw [← hW3]
  refine ⟨?_, ?_, ?_⟩
  ·rw [Below.heap_alloc _ _ _ (by simp; omega), Below.heap_alloc _ _ _ (by simp)]; exact heap_alloc_new _ _
  ·rw [Below.heap_alloc _ _ _ (by simp)]
   have := heap_alloc_new (w.alloc (.cells #[.int .i64 0] 3)) (.cells #[.int .i64 0] 3)
   rw [World.size_alloc] at this
   exact this
  ·have := heap_alloc_new ((w.alloc (.cells #[.int .i64 0] 3)).alloc (.cells #[.int .i64 0] 3)) (.cells #[.int .u8 128] 5)
   rw [World.size_alloc, World.size_alloc] at this
   exact this
 have hR3 : Rd W3 p F (some L) := h.kept hK3 (fun _ _ h => h)
 have hpw := hF p h.1
 obtain ⟨W4, hW4⟩ : ∃ W4, W3.alloc (.cells #[.pointer (some ⟨p, 0, none⟩)] 262) = W4 := ⟨_, rfl⟩
 have hab : Kept (fun _ => False) W3 W4 := by rw [← hW4]; exact Kept.of_below (below_alloc W3 _)
 have hs4 : W4.heap.size = W3.heap.size + 1 := by rw [← hW4]; simp
 have hR4 : Rd W4 p F (some L) := hR3.kept hab (fun _ _ h => h)
 obtain ⟨A, C, hp4, hAC, hCm, hAn, hA0, hbl4, hAF⟩ := hR4.2
 have hcell4 : W4.cell? ⟨W3.heap.size, 0, none⟩ = some (.pointer (some ⟨p, 0, none⟩)) := by rw [← hW4]; exact (cell_new_l W3 _ _).1
 have hstop := number_stops Fence.wide (n - 1) trivial rfl (by omega) W3.heap.size p A C L W4 hcell4 (cells2 hp4).1 hL hbl4
 have hB4 : NumBox w.heap.size (0, 0, 128) W4 := ⟨hab.heap hB3.1 (fun h => h), hab.heap hB3.2.1 (fun h => h), hab.heap hB3.2.2 (fun h => h)⟩
 have hK4 : Kept (fun _ => False) w W4 := hK3.trans hab (fun _ _ h => h)
 have hs34 := hide (And.intro hs3 hs4)
 have hbx := hide hB4
 clear hR3 hB3 hp4 hbl4 hcell4 hs3 hs4 hB4
 gi_wp2
 refine ⟨trivial, fun _ => by omega, (placeNumber_in Fence.wide (n - 1) trivial rfl (some ⟨p, 0, none⟩) W3).mono ?_⟩
 rintro e w' ⟨rfl, rfl⟩
 gi_wp2
 refine wpIn_rangeFunc_ownF rfl (by omega) (gf := 160) (lb := #[.pointer (some ⟨W3.heap.size, 0, none⟩)]) rfl trivial (enters_of Tryz.func160 (by kernel_rfl) rfl)
  hstop keepsBL_t keepsBL_b (Below.refl _ _) (fun _ => rfl)
  (fun pre X => NumBox w.heap.size (foldN (pvs pre)) X ∧ Rd X p F (some L) ∧ Kept (fun _ => False) w X)
  (fun _ _ _ => False) ?own (fun _ _ _ _ _ hs _ _ => hs) ?start
  (fun x => { tmps := #[.pointer (some ⟨p, 0, none⟩), .int .i64 most, undef, undef, .int .i64 0, .pointer (some ⟨w.heap.size, 0, none⟩), .pointer (some ⟨w.heap.size + 1, 0, none⟩), .pointer (some ⟨w.heap.size + 1 + 1, 0, none⟩), .int .i64 (x.1.val : Nat), .int .u8 (x.2.val : Nat),
   .pointer (some ⟨p, 0, none⟩), .bool true, .bool false, .pointer (some ⟨p, 0, none⟩), .pointer (some ⟨p, 0, none⟩), .pointer (some ⟨p, 0, none⟩), .func (.func 160) #[] #[.pointer (some ⟨W3.heap.size, 0, none⟩)], .int .i64 (x.1.val : Nat), .int .u8 (x.2.val : Nat), undef, undef, undef, undef, undef, undef, undef, undef, undef, undef, undef, undef, undef, undef, undef, undef, undef, undef, undef, undef, undef, undef, undef, undef, undef, undef, undef, undef, undef, undef, undef, undef, undef, undef], defers := [] }) ?assign ?body ?done ?stop
 case own =>
  rintro pre X X' row ⟨h1, h2, h3⟩ hg hr
  have ck := CellsKept.of_grown hg (fun r e => (hr r e).2)
  exact ⟨h1.cells ck, h2.cells ck, h3.grown hg (fun r e => .inr (by have := (hr r e).1; have := hK4.size; omega))⟩
 case start => exact ⟨hbx.out, hR4, hK4⟩
 case assign =>
  intro l x X K hK
  gi_wp2
  exact hK
 case body =>
  rintro l pre x X ⟨h1, h2, h3⟩ hpl
  obtain ⟨d0, e0⟩ := cells1 h1.1
  obtain ⟨d1, e1⟩ := cells1 h1.2.1
  obtain ⟨d2, e2⟩ := cells1 h1.2.2
  have H1 := hide h1
  have HF := hide (foldN_snoc (pvs pre) (x.1.val, x.2.val))
  obtain ⟨t1, t2, t3⟩ := hide (foldN_lt pre)
  have hi6 := x.1.isLt
  have hb256 := x.2.isLt
  have hpv := hide (pvs_snoc pre x)
  generalize foldN (pvs pre) = t at *
  obtain ⟨tn, ts, tl⟩ := t
  simp only at d0 d1 d2 t1 t2 t3
  clear h1 hstop
  generalize x.1.val = i at *
  generalize x.2.val = b at *
  have hi6' : (i : Int) ≤ 5 := by omega
  have hi0' : (0 : Int) ≤ (i : Int) := by omega
  have hb0' : (0 : Int) ≤ (b : Int) := by omega
  have hb1' : (b : Int) < 256 := by omega
  have hq1 : (b : Int).tmod 128 = ((b % 128 : Nat) : Int) := by rw [Int.tmod_eq_emod_of_nonneg (by omega)]; rfl
  have hsh := fun W => shl_i64 (b % 128) i hi6 (by omega) W
  obtain ⟨q, hq⟩ : ∃ q, q = b % 128 * 2 ^ (7 * i) := ⟨_, rfl⟩
  have hq42 : q < 2 ^ 42 := by
   have h1 : 2 ^ (7 * i) ≤ 2 ^ 35 := Nat.pow_le_pow_right (by omega) (by omega)
   have h2 := Nat.mul_le_mul (show b % 128 ≤ 127 by omega) h1
   omega
  have hor := or_i64 tn q t1 hq42
  have HQ : Hid (stepN (tn, ts, tl) (i, b) = (tn ||| q, i + 1, b)) := by rw [hq]; rfl
  rw [← hq, ← IntWalk.i64_in ((7 * i : Nat) : Int) (by omega), ← IntWalk.i64_in ((b % 128 : Nat) : Int) (by omega), ← hq1, show ((7 * i : Nat) : Int) = 7 * (i : Int) from by omega] at hsh
  obtain ⟨r, hr⟩ : ∃ r, r = tn ||| q := ⟨_, rfl⟩
  rw [← hr] at hor HQ
  clear hq hq1 hr
  gi_wp2
  have hfo : Tryz.prog.follows .mixedOrders = true := by kernel_rfl
  gi_region_o
  all_goals
   gi_wp2
   have hXs := h3.size
   have hKX : Kept (fun k => w.heap.size ≤ k) X (((X.setCell ⟨w.heap.size, 0, none⟩ (.int .i64 r)).setCell ⟨w.heap.size + 1, 0, none⟩ (.int .i64 ((i : Int) + 1))).setCell ⟨w.heap.size + 1 + 1, 0, none⟩ (.int .u8 b)).drew :=
    ((((Kept.refl _ X).setCell (p := ⟨w.heap.size, 0, none⟩) (.inl (Nat.le_refl _)) _).setCell (p := ⟨w.heap.size + 1, 0, none⟩) (.inl (Nat.le_succ _)) _).setCell (p := ⟨w.heap.size + 1 + 1, 0, none⟩) (.inl (by show w.heap.size ≤ w.heap.size + 1 + 1; omega)) _).drew
   refine ⟨hKX.keepsOthers, fun hb => hb.kept hKX (fun g o s e hle => ?_), ⟨?_, ?_, ?_⟩, h2.kept hKX (fun k hk hle => ?_), h3.trans hKX (fun k hk hle => ?_)⟩
   ·have := hF g (hAF g o s e).1; omega
   ·rw [hpv.out, HF.out, HQ.out]
    have e1 := heap_setCell_same X w.heap.size 0 _ _ (.int .i64 r) H1.out.1
    show (((X.setCell ⟨w.heap.size, 0, none⟩ (.int .i64 r)).setCell ⟨w.heap.size + 1, 0, none⟩ (.int .i64 ((i : Int) + 1))).setCell ⟨w.heap.size + 1 + 1, 0, none⟩ (.int .u8 b)).heap[w.heap.size]? = _
    rw [Below.heap_setCell _ _ _ _ (show w.heap.size ≠ w.heap.size + 1 + 1 by omega), Below.heap_setCell _ _ _ _ (show w.heap.size ≠ w.heap.size + 1 by omega)]
    exact e1
   ·rw [hpv.out, HF.out, HQ.out]
    show (((X.setCell ⟨w.heap.size, 0, none⟩ (.int .i64 r)).setCell ⟨w.heap.size + 1, 0, none⟩ (.int .i64 ((i : Int) + 1))).setCell ⟨w.heap.size + 1 + 1, 0, none⟩ (.int .u8 b)).heap[w.heap.size + 1]? = _
    rw [Below.heap_setCell _ _ _ _ (show w.heap.size + 1 ≠ w.heap.size + 1 + 1 by omega)]
    exact heap_setCell_same _ (w.heap.size + 1) 0 _ _ (.int .i64 ((i : Int) + 1)) ((Below.heap_setCell _ _ _ _ (show w.heap.size + 1 ≠ w.heap.size by omega)).trans H1.out.2.1)
   ·rw [hpv.out, HF.out, HQ.out]
    show (((X.setCell ⟨w.heap.size, 0, none⟩ (.int .i64 r)).setCell ⟨w.heap.size + 1, 0, none⟩ (.int .i64 ((i : Int) + 1))).setCell ⟨w.heap.size + 1 + 1, 0, none⟩ (.int .u8 b)).heap[w.heap.size + 1 + 1]? = _
    exact heap_setCell_same _ (w.heap.size + 1 + 1) 0 _ _ (.int .u8 b) ((Below.heap_setCell _ _ _ _ (show w.heap.size + 1 + 1 ≠ w.heap.size + 1 by omega)).trans ((Below.heap_setCell _ _ _ _ (show w.heap.size + 1 + 1 ≠ w.heap.size by omega)).trans H1.out.2.2))
   ·have := hF k hk; omega
   ·omega
 case done =>
  rintro D ys X hD hys ⟨h1, h2, h3⟩ hKD
  rw [hys] at h1
  have hg := getNum_of most L
  have hts : (foldN (sq L (yl 6 L))).2.1 ≤ L.length := by rw [foldN_sq]; exact (yl_le 6 L).1
  obtain ⟨t1, t2, t3⟩ := hide (foldN_lt ys)
  rw [hys] at t1 t2 t3
  generalize foldN (sq L (yl 6 L)) = t at *
  obtain ⟨tn, ts, tl⟩ := t
  simp only at hg hts t1 t2 t3
  obtain ⟨d0, e0⟩ := cells1 h1.1
  obtain ⟨d1, e1⟩ := cells1 h1.2.1
  obtain ⟨d2, e2⟩ := cells1 h1.2.2
  simp only at d0 d1 d2
  have hM : Marks w.heap.size [{ target := .collected D, args := #[] }] X := ⟨⟨D, rfl, by have := hK4.size; omega, hKD, fun _ h => by cases h⟩, trivial⟩
  have hend : ∀ (x : Nat) (S' : Option (List Nat)) (X1 : World) (tmps : Array Value), getNum most (some L) = (x, S') → tmps.getD 4 undef = .int .i64 x → Rd X1 p F S' → Kept (fun k => k = p) X X1 →
    LeavesInM Fence.wide n Tryz.prog Tryz.f58 tmps (fun e w' => e = .returned (.int .i64 ((getNum most (some L)).1 : Nat)) ∧ Rd w' p F (getNum most (some L)).2 ∧ Kept (fun k => k = p) w w') [{ target := .collected D, args := #[] }] .returning X1 := by
   intro x S' X1 tmps e1 e2 hR hK
   refine leaves_marks _ _ (hM.others hK.keepsOthers) (fun w' ht => ⟨_, results_tmp rfl _ _ _, ?_, ?_, ?_⟩)
   ·rw [e1, e2]
   ·rw [e1]; exact hR.cells ht.cells
   ·exact ((h3.mono (fun _ _ h => h.elim)).trans hK (fun k hk h => h)).turned ht
  have hfl := callsIn_wide (n := n - 1).2 (rdFail_any p F _ X h2)
  clear h1 hstop hM h3 hys hKD hW3 hW4
  by_cases c1 : 128 ≤ tl
  ·rw [if_pos (.inl c1)] at hg
   have hend' := hend 0 none
   clear hend
   have c1' : (128 : Int) ≤ (tl : Int) := by omega
   gi_wp2
   refine ⟨trivial, fun _ => by omega, hfl.mono ?_⟩
   rintro e X1 ⟨rfl, hR, hK⟩
   gi_wp2
   exact hend' X1 _ hg rfl hR hK
  ·by_cases c2 : tl = 0 ∧ 1 < ts
   ·rw [if_pos (.inr (.inl c2))] at hg
    have hend' := hend 0 none
    obtain ⟨rfl, c22⟩ := c2
    have c22' : (1 : Int) < (ts : Int) := by omega
    clear hend c1
    gi_wp2
    refine ⟨trivial, fun _ => by omega, hfl.mono ?_⟩
    rintro e X1 ⟨rfl, hR, hK⟩
    gi_wp2
    exact hend' X1 _ hg rfl hR hK
   ·have hz : (((tl : Int) == 0) = true ∧ decide ((1 : Int) < (ts : Int)) = false) ∨ ((tl : Int) == 0) = false := by
     by_cases h0 : tl = 0
     ·exact .inl ⟨by simp [h0], decide_eq_false (by omega)⟩
     ·exact .inr (by simp; omega)
    have c1' : (tl : Int) < 128 := by omega
    by_cases c3 : (tn : Int) ≤ most ∧ tn ≤ maxNum
    ·have hg' := hg
     rw [if_neg (by omega)] at hg'
     have hend' := hend tn (some (L.drop ts))
     have htk := callsIn_wide (n := n - 1).2 (take_some p F L ts X.drew h2 hts)
     have hfo : Tryz.prog.follows .mixedOrders = true := by kernel_rfl
     unfold maxNum at c3
     obtain ⟨c31, c32⟩ := c3
     clear hend hfl c1 c2 hg
     by_cases hmm : most ≤ 1099511627776
     ·have c33 : ¬ (most < (tn : Int)) := by omega
      rcases hz with ⟨hz1, hz2⟩ | hz1
      all_goals
       gi_wp2
       refine wpIn_mono ?_ NoPanic.imp
       gi_region_with_o (refine ⟨trivial, fun _ => by omega, htk.mono ?_⟩; rintro e X1 ⟨A1, C1, rfl, _, _, _, _, _, hR, hK⟩)
       all_goals
        have d0' := hK.undrew.cell d0 (show ¬ (w.heap.size = p) by omega)
        refine NoPanic.normal ?_
        gi_wp2
        exact hend' X1 _ hg' rfl hR hK.undrew
     ·have c33 : ¬ ((1099511627776 : Int) < (tn : Int)) := by omega
      rcases hz with ⟨hz1, hz2⟩ | hz1
      all_goals
       gi_wp2
       refine wpIn_mono ?_ NoPanic.imp
       gi_region_with_o (refine ⟨trivial, fun _ => by omega, htk.mono ?_⟩; rintro e X1 ⟨A1, C1, rfl, _, _, _, _, _, hR, hK⟩)
       all_goals
        have d0' := hK.undrew.cell d0 (show ¬ (w.heap.size = p) by omega)
        refine NoPanic.normal ?_
        gi_wp2
        exact hend' X1 _ hg' rfl hR hK.undrew
    ·have hg' := hg
     rw [if_pos (.inr (.inr c3))] at hg'
     have hend' := hend 0 none
     unfold maxNum at c3
     clear hend c1 c2 hg
     by_cases hmm : most ≤ 1099511627776
     ·have c33 : most < (tn : Int) := by omega
      clear c3
      rcases hz with ⟨hz1, hz2⟩ | hz1
      all_goals
       gi_wp2
       refine ⟨trivial, fun _ => by omega, hfl.mono ?_⟩
       rintro e X1 ⟨rfl, hR, hK⟩
       gi_wp2
       exact hend' X1 _ hg' rfl hR hK
     ·have c33 : (1099511627776 : Int) < (tn : Int) := by omega
      clear c3
      rcases hz with ⟨hz1, hz2⟩ | hz1
      all_goals
       gi_wp2
       refine ⟨trivial, fun _ => by omega, hfl.mono ?_⟩
       rintro e X1 ⟨rfl, hR, hK⟩
       gi_wp2
       exact hend' X1 _ hg' rfl hR hK
 case stop =>
  rintro D c pre X _ _ h _
  exact h.elim
end Go.Proofs.YtppdbinppibjhaaGreatDoor
/-
  The program's reader gets fixed numbers, texts, rising rows.
-/
namespace Go.Proofs.YtppdbinppibjhaaGreatDoor
open Go.RowKit
theorem owns_lower {w : World} {B B' n size : Nat} {v : Value} {xs : List Value} {e : TypeId} (h : w.ownsRow B e size v n xs) (hB : B' ≤ B) : w.ownsRow B' e size v n xs := by
 obtain ⟨hl, ⟨hv, h0⟩ | ⟨g, cap, cur, hv, hg, hr⟩⟩ := h
 ·exact ⟨hl, .inl ⟨hv, h0⟩⟩
 ·exact ⟨hl, .inr ⟨g, cap, cur, hv, by omega, hr⟩⟩
theorem rdNumber_none (pv : Value) (F : Nat → Prop) (most : Int) (w : World) (h : RP w pv F none) :
  Calls Tryz.prog 58 #[pv, .int .i64 most] w fun e w' => e = .returned (.int .i64 0) ∧ w = w' := by
 have hok := ok_any pv F none w h
 simp only [Option.isSome_none] at hok
 go_enter Tryz.func58, Tryz.ntmps58
 go_wp2_with fail
 refine hok.mono ?_
 rintro e w1 ⟨rfl, rfl⟩
 go_wp2_with fail
 go_ret
 exact ⟨rfl, rfl⟩
def own1 (pv : Value) (k : Nat) : Prop := pv = .pointer (some ⟨k, 0, none⟩)
theorem rdNumber_any (pv : Value) (F : Nat → Prop) (S : Option (List Nat)) (most : Int) (w : World) (h : RP w pv F S) (hF : ∀ k, F k → k < w.heap.size) (hmost : (Lit.int .i64 most).wf = true) (hS : szO S ≤ 9223372036854775807) :
  Calls Tryz.prog 58 #[pv, .int .i64 most] w fun e w' => e = .returned (.int .i64 ((getNum most S).1 : Nat)) ∧ RP w' pv F (getNum most S).2 ∧ Kept (own1 pv) w w' := by
 cases S with
 | none => exact (rdNumber_none pv F most w h).mono fun e w' ⟨he, hw⟩ => by subst hw; exact ⟨he, h, Kept.refl _ _⟩
 | some L =>
   rcases h with ⟨_, h0⟩ | ⟨p, rfl, h⟩
   ·cases h0
   ·exact (callsIn_wide.1 (rdNumber_in 4 (by omega) p F L most w h hF hmost hS)).mono fun e w' ⟨he, h1, h2⟩ => ⟨he, .inr ⟨p, rfl, h1⟩, h2.mono (fun k _ hk => by subst hk; rfl)⟩
theorem getNum_none_eq {most : Int} {L : List Nat} (h : pN 6 0 L = none) : getNum most (some L) = (0, none) := by unfold getNum; simp only [h]
theorem getNum_some_eq {most : Int} {L : List Nat} {v k : Nat} (h : pN 6 0 L = some (v, k)) : getNum most (some L) = if (v : Int) ≤ most ∧ v ≤ maxNum then (v, some (L.drop k)) else (0, none) := by unfold getNum; simp only [h]
theorem getNum_lt (most : Int) (S : Option (List Nat)) : ((getNum most S).1 : Int) ≤ maxNum ∧ szO (getNum most S).2 ≤ szO S := by
 cases S with
 | none => simp [getNum, szO, maxNum]
 | some L =>
   cases h : pN 6 0 L with
   | none => rw [getNum_none_eq h]; simp [szO, maxNum]
   | some x =>
     obtain ⟨v, k⟩ := x
     rw [getNum_some_eq h]
     by_cases h2 : (v : Int) ≤ most ∧ v ≤ maxNum
     ·rw [if_pos h2]
      refine ⟨by simp only []; omega, ?_⟩
      simp [szO]
     ·rw [if_neg h2]
      simp [szO, maxNum]
def textOf : Nat × Option (List Nat) → List Nat × Option (List Nat)
 | (_, none) => ([], none)
 | (n, some L) => if L.length < n then ([], none) else (L.take n, some (L.drop n))
theorem getText_of (most : Int) (S : Option (List Nat)) : getText most S = textOf (getNum most S) := by
 unfold getText
 rcases getNum most S with ⟨n, _ | L⟩ <;> rfl
theorem rdText_any (pv : Value) (F : Nat → Prop) (S : Option (List Nat)) (most : Int) (w : World) (h : RP w pv F S) (hF : ∀ k, F k → k < w.heap.size) (hmost : (Lit.int .i64 most).wf = true) (hS : szO S ≤ 140737488355328) :
  Calls Tryz.prog 184 #[pv, .int .i64 most] w fun e w' => ∃ v, e = .returned v ∧ w'.ownsRow w.heap.size 5 1 v (getText most S).1.length (lc (getText most S).1) ∧ RP w' pv F (getText most S).2 ∧ Kept (own1 pv) w w' := by
 have hnum := rdNumber_any pv F S most w h hF hmost (by omega)
 have hlt := getNum_lt most S
 go_enter Tryz.func184, Tryz.ntmps184
 go_wp2_with fail
 refine hnum.mono ?_
 rintro e w1 ⟨rfl, h1, hK1⟩
 have hok := ok_any pv F _ w1 h1
 have HT := hide (getText_of most S)
 clear hnum h
 generalize getNum most S = g at *
 obtain ⟨n, S1⟩ := g
 simp only at h1 hok hlt
 cases S1 with
 | none =>
   simp only [Option.isSome_none] at hok
   go_wp2_with fail
   refine hok.mono ?_
   rintro e w2 ⟨rfl, rfl⟩
   go_wp2_with fail
   go_ret
   rw [HT.out]
   exact ⟨_, rfl, World.ownsRow_nil _ _ _ _, h1, hK1⟩
 | some L =>
   simp only [Option.isSome_some] at hok
   rcases h1 with ⟨_, h0⟩ | ⟨p, rfl, h1⟩
   ·cases h0
   ·have hpl : p < w.heap.size := hF p h1.1
    by_cases hl : L.length < n
    ·have HT2 : Hid (getText most S = ([], none)) := by rw [HT.out]; simp only [textOf]; rw [if_pos hl]; rfl
     have htk := take_none p F L n w1 h1 hl
     clear h1
     go_wp2_with fail
     refine hok.mono ?_
     rintro e w2 ⟨rfl, rfl⟩
     go_wp2_with fail
     refine htk.mono ?_
     rintro e w2 ⟨rfl, hR, hK2⟩
     go_wp2_with fail
     refine (cloneBytes_any none 0 0 [] w2 rfl (by omega) (by omega) (fun _ => rfl) (BL.mk (by simp) (.inl rfl))).mono ?_
     rintro e w3 ⟨v, rfl, ho, hB⟩
     go_wp2_with fail
     go_ret
     rw [HT2.out]
     have hk3 : Kept (fun _ => False) w2 w3 := Kept.of_below hB
     refine ⟨v, rfl, owns_lower ho (by have := hK1.size; have := hK2.size; omega), .inr ⟨p, rfl, hR.kept hk3 (fun _ _ h => h)⟩, (hK1.trans hK2 (fun k _ hk => by subst hk; rfl)).trans hk3 (fun _ _ h => h.elim)⟩
    ·have HT2 : Hid (getText most S = (L.take n, some (L.drop n))) := by rw [HT.out]; simp only [textOf]; rw [if_neg hl]; rfl
     have htk := take_some p F L n w1 h1 (by omega)
     clear h1
     go_wp2_with fail
     refine hok.mono ?_
     rintro e w2 ⟨rfl, rfl⟩
     go_wp2_with fail
     refine htk.mono ?_
     rintro e w2 ⟨A, C, rfl, hmC, hC9, hAn, hbl, _, hR, hK2⟩
     have hsz : L.length ≤ szO S := hlt.2
     have htl : (L.take n).length = n := by rw [List.length_take]; omega
     have hcl := cloneBytes_any A n C (L.take n) w2 htl (by omega) hmC hAn hbl
     clear htk hbl hAn hl
     go_wp2_with fail
     refine hcl.mono ?_
     rintro e w3 ⟨v, rfl, ho, hB⟩
     go_wp2_with fail
     go_ret
     rw [HT2.out]
     have hk3 : Kept (fun _ => False) w2 w3 := Kept.of_below hB
     refine ⟨v, rfl, by rw [htl]; exact owns_lower ho (by have := hK1.size; have := hK2.size; omega), .inr ⟨p, rfl, hR.kept hk3 (fun _ _ h => h)⟩, (hK1.trans hK2 (fun k _ hk => by subst hk; rfl)).trans hk3 (fun _ _ h => h.elim)⟩
theorem or_u32 (a b k P : Nat) (hP : P = 2 ^ k) (ha : a < P) (hb : b * P < 4294967296) (h1 : a < 4294967296) (y : Nat) (hy : y = a + b * P) : bits BinOp.or IntKind.u32 (a : Int) ((b : Int) * (P : Nat)) = (y : Int) := by
 have h := u32_or_nat a (b * P) h1 hb
 subst hP
 rw [or_add a b k ha, ← hy] at h
 rw [← h]
 simp
theorem rdFixed_any (pv : Value) (F : Nat → Prop) (S : Option (List Nat)) (w : World) (h : RP w pv F S) :
  Calls Tryz.prog 114 #[pv] w fun e w' => e = .returned (.int .u32 ((getFix S).1 : Nat)) ∧ RP w' pv F (getFix S).2 ∧ Kept (own1 pv) w w' := by
 have hok := ok_any pv F S w h
 cases S with
 | none =>
   simp only [Option.isSome_none] at hok
   go_enter Tryz.func114, Tryz.ntmps114
   go_wp2_with fail
   refine hok.mono ?_
   rintro e w2 ⟨rfl, rfl⟩
   go_wp2_with fail
   go_ret
   exact ⟨rfl, h, Kept.refl _ _⟩
 | some L =>
   simp only [Option.isSome_some] at hok
   rcases h with ⟨_, h0⟩ | ⟨p, rfl, h⟩
   ·cases h0
   ·by_cases hl : L.length < 4
    ·have htk := take_none p F L 4 w h hl
     have HG : Hid (getFix (some L) = (0, none)) := by simp only [Hid, getFix]; rw [if_pos hl]
     clear h
     go_enter Tryz.func114, Tryz.ntmps114
     go_wp2_with fail
     refine hok.mono ?_
     rintro e w2 ⟨rfl, rfl⟩
     go_wp2_with fail
     refine htk.mono ?_
     rintro e w2 ⟨rfl, hR, hK2⟩
     go_wp2_with fail
     go_loop [3, 14] (fun s3 s14 => s3 = .int .u32 0 ∧ s14 = .int .i64 0) (fun _ _ => 0)
     case atStart => exact ⟨rfl, rfl⟩
     case round =>
      obtain ⟨rfl, rfl⟩ := hrel
      go_wp2
      go_ret
      rw [HG.out]
      exact ⟨rfl, .inr ⟨p, rfl, hR⟩, hK2.mono (fun k _ hk => by subst hk; rfl)⟩
    ·have htk := take_some p F L 4 w h (by omega)
     clear h
     go_enter Tryz.func114, Tryz.ntmps114
     go_wp2_with fail
     refine hok.mono ?_
     rintro e w2 ⟨rfl, rfl⟩
     go_wp2_with fail
     refine htk.mono ?_
     rintro e w2 ⟨A, C, rfl, hmC, hC9, hAn, hbl, _, hR, hK2⟩
     obtain ⟨g, off, rfl, hc⟩ := hbl.cell (by rw [List.length_take]; omega)
     rw [List.length_take, show min 4 L.length = 4 from by omega] at hc
     have hx : ∀ i, i < 4 → (L.take 4).getD i 0 = L.getD i 0 := fun i hi => by simp [List.getD_eq_getElem?_getD, hi]
     have q0 := hc 0 (by omega)
     have q1 := hc 1 (by omega)
     have q2 := hc 2 (by omega)
     have q3 := hc 3 (by omega)
     have b0 := hbl.1 0
     have b1 := hbl.1 1
     have b2 := hbl.1 2
     have b3 := hbl.1 3
     simp only [hx 0 (by omega), hx 1 (by omega), hx 2 (by omega), hx 3 (by omega), Nat.add_zero] at q0 q1 q2 q3 b0 b1 b2 b3
     have HG : Hid (getFix (some L) = (L.getD 0 0 + L.getD 1 0 * 256 + L.getD 2 0 * 65536 + L.getD 3 0 * 16777216, some (L.drop 4))) := by simp only [Hid, getFix]; rw [if_neg hl]
     clear htk hbl hAn hc hx
     generalize L.getD 0 0 = x0 at *
     generalize L.getD 1 0 = x1 at *
     generalize L.getD 2 0 = x2 at *
     generalize L.getD 3 0 = x3 at *
     obtain ⟨y1, hy1⟩ : ∃ y, y = x0 + x1 * 256 := ⟨_, rfl⟩
     obtain ⟨y2, hy2⟩ : ∃ y, y = y1 + x2 * 65536 := ⟨_, rfl⟩
     obtain ⟨y3, hy3⟩ : ∃ y, y = y2 + x3 * 16777216 := ⟨_, rfl⟩
     have o0 : bits BinOp.or IntKind.u32 0 (x0 : Int) = (x0 : Int) := by
      have := u32_or_nat 0 x0 (by omega) (by omega)
      simpa using this
     have o1 : bits BinOp.or IntKind.u32 (x0 : Int) ((x1 : Int) * 256) = (y1 : Int) := or_u32 x0 x1 8 256 (by rfl) (by omega) (by omega) (by omega) y1 hy1
     have o2 : bits BinOp.or IntKind.u32 (y1 : Int) ((x2 : Int) * 65536) = (y2 : Int) := or_u32 y1 x2 16 65536 (by rfl) (by omega) (by omega) (by omega) y2 hy2
     have o3 : bits BinOp.or IntKind.u32 (y2 : Int) ((x3 : Int) * 16777216) = (y3 : Int) := or_u32 y2 x3 24 16777216 (by rfl) (by omega) (by omega) (by omega) y3 hy3
     have HY : Hid (y3 = x0 + x1 * 256 + x2 * 65536 + x3 * 16777216) := by rw [hy3, hy2, hy1]; rfl
     have x1' : (x1 : Int) < 256 := by omega
     have x2' : (x2 : Int) < 256 := by omega
     have x3' : (x3 : Int) < 256 := by omega
     clear hy1 hy2 hy3
     go_wp2_with fail
     refine wp_loop_rounds 5 ?_
     rw [rounds_succ]
     go_wp2_with fail
     rw [rounds_succ]
     go_wp2_with fail
     rw [rounds_succ]
     go_wp2_with fail
     rw [rounds_succ]
     go_wp2_with fail
     rw [rounds_succ]
     go_wp2_with fail
     go_ret
     rw [HG.out, ← HY.out]
     exact ⟨rfl, .inr ⟨p, rfl, hR⟩, hK2.mono (fun k _ hk => by subst hk; rfl)⟩
open Go.RowKit
def li (L : List Int) : List Value := L.map fun x => .int .i64 x
theorem li_length (L : List Int) : (li L).length = L.length := by simp [li]
theorem li_append (L M : List Int) : li (L ++ M) = li L ++ li M := by simp [li]
theorem info_int : (Tryz.prog.info? 3).map (fun i => (i.zero, i.size, i.bytes)) = some (some (.int .i64 0), 1, 8) := by kernel_rfl
theorem RP.form {w : World} {pv : Value} {F : Nat → Prop} {S : Option (List Nat)} (h : RP w pv F S) : ∃ a, pv = .pointer a := by
 rcases h with ⟨h, _⟩ | ⟨p, h1, h2⟩
 ·exact ⟨_, h⟩
 ·exact ⟨_, h1⟩
theorem RP.own {w : World} {pv : Value} {F : Nat → Prop} {S : Option (List Nat)} (h : RP w pv F S) : ∀ k, own1 pv k → F k := by
 intro k hk
 unfold own1 at hk
 rcases h with ⟨h, _⟩ | ⟨p, h1, h2⟩
 ·rw [h] at hk; cases hk
 ·rw [h1] at hk; cases hk; exact h2.1
theorem getNum_none0 (most : Int) (S : Option (List Nat)) (h : (getNum most S).2 = none) : (getNum most S).1 = 0 := by
 cases S with
 | none => rfl
 | some L =>
   cases hp : pN 6 0 L with
   | none => rw [getNum_none_eq hp]
   | some x =>
     obtain ⟨v, k⟩ := x
     rw [getNum_some_eq hp] at h ⊢
     by_cases h2 : (v : Int) ≤ most ∧ v ≤ maxNum
     ·rw [if_pos h2] at h; cases h
     ·rw [if_neg h2]
theorem getNum_more (most : Int) (S : Option (List Nat)) (L' : List Nat) (h : (getNum most S).2 = some L') : L'.length + 1 ≤ szO S ∧ ((getNum most S).1 : Int) ≤ most ∧ (getNum most S).1 ≤ maxNum := by
 cases S with
 | none => cases h
 | some L =>
   cases hp : pN 6 0 L with
   | none => rw [getNum_none_eq hp] at h; cases h
   | some x =>
     obtain ⟨v, k⟩ := x
     have hk := pN_len 6 0 L v k hp
     rw [getNum_some_eq hp] at h ⊢
     by_cases h2 : (v : Int) ≤ most ∧ v ≤ maxNum
     ·rw [if_pos h2] at h ⊢
      cases h
      refine ⟨?_, h2.1, h2.2⟩
      simp [szO]; omega
     ·rw [if_neg h2] at h; cases h
theorem getRow_zero (most l : Int) (L : List Nat) : getRow most 0 l (some L) = some ([], L) := by simp [getRow]
theorem getRow_bad (most l : Int) (q : Nat) (L : List Nat) (h : (getNum (min most maxNum - l - 1) (some L)).2 = none) : getRow most (q + 1) l (some L) = none := by
 unfold getRow
 generalize getNum (min most maxNum - l - 1) (some L) = g at *
 obtain ⟨a, b⟩ := g
 simp only at h
 subst h
 rfl
theorem getRow_step (most l : Int) (q g : Nat) (L L' : List Nat) (h : getNum (min most maxNum - l - 1) (some L) = (g, some L')) : getRow most (q + 1) l (some L) = (getRow most q (l + 1 + g) (some L')).map fun x => ((l + 1 + g) :: x.1, x.2) := by
 rw [getRow]
 simp only [h]
def risOf : Nat × Option (List Nat) → Option (List Int × List Nat) → List Int × Option (List Nat)
 | _, none => ([], none)
 | _, some (r, L) => (r, some L)
theorem getRising_of (many most : Int) (S : Option (List Nat)) : getRising many most S = risOf (getNum many S) (getRow most (getNum many S).1 (-1) (getNum many S).2) := by
 unfold getRising
 rcases getNum many S with ⟨n, S'⟩
 simp only
 cases getRow most n (-1) S' with
 | none => rfl
 | some x => rfl
def RowAt (total : Option (List Int × List Nat)) (most : Int) (q : Nat) (l : Int) (L : List Nat) (done : List Int) : Prop := total = (getRow most q l (some L)).map fun x => (done ++ x.1, x.2)
theorem RowAt.step {total : Option (List Int × List Nat)} {most l : Int} {q g : Nat} {L L' : List Nat} {done : List Int} (h : RowAt total most (q + 1) l L done) (hg : getNum (min most maxNum - l - 1) (some L) = (g, some L')) : RowAt total most q (l + 1 + g) L' (done ++ [l + 1 + g]) := by
 unfold RowAt at *
 rw [h, getRow_step most l q g L L' hg]
 cases getRow most q (l + 1 + g) (some L') with
 | none => rfl
 | some x => simp
theorem RowAt.bad {total : Option (List Int × List Nat)} {most l : Int} {q : Nat} {L : List Nat} {done : List Int} (h : RowAt total most (q + 1) l L done) (hg : (getNum (min most maxNum - l - 1) (some L)).2 = none) : total = none := by
 unfold RowAt at h
 rw [h, getRow_bad most l q L hg]; rfl
theorem RowAt.done {total : Option (List Int × List Nat)} {most l : Int} {L : List Nat} {done : List Int} (h : RowAt total most 0 l L done) : total = some (done, L) := by
 unfold RowAt at h
 rw [h, getRow_zero]; simp
theorem rdRising_any (pv : Value) (F : Nat → Prop) (S : Option (List Nat)) (many most : Int) (w : World) (h : RP w pv F S) (hF : ∀ k, F k → k < w.heap.size) (hmany : (Lit.int .i64 many).wf = true) (hmost : (Lit.int .i64 most).wf = true) (hS : szO S ≤ 1000000) :
  Calls Tryz.prog 115 #[pv, .int .i64 many, .int .i64 most] w fun e w' => ∃ v, e = .returned v ∧ w'.ownsRow w.heap.size 3 1 v (getRising many most S).1.length (li (getRising many most S).1) ∧ RP w' pv F (getRising many most S).2 ∧ Kept (own1 pv) w w' := by
 have hnum := rdNumber_any pv F S many w h hF hmany (by omega)
 have hlt := getNum_lt many S
 have hnz := getNum_none0 many S
 have hnm := getNum_more many S
 have HT := hide (getRising_of many most S)
 have hb0 := bounds_i64 hmost
 have hown : ∀ k, own1 pv k → k < w.heap.size := fun k hk => hF k (h.own k hk)
 obtain ⟨pa, hpv⟩ := h.form
 clear h hmany hmost
 generalize getNum many S = g at *
 obtain ⟨n, S1⟩ := g
 simp only at hlt hnz hnm hnum
 subst hpv
 obtain ⟨top, htop⟩ : ∃ top : Int, (most ≤ 1099511627776 ∧ top = most) ∨ (1099511627776 < most ∧ top = 1099511627776) := by
  by_cases hmm : most ≤ 1099511627776
  ·exact ⟨_, .inl ⟨hmm, rfl⟩⟩
  ·exact ⟨_, .inr ⟨by omega, rfl⟩⟩
 have HM : Hid (min most (maxNum : Int) = top) := by
  show min most (maxNum : Int) = top
  unfold maxNum
  rcases htop with ⟨h, rfl⟩ | ⟨h, rfl⟩
  ·exact Int.min_eq_left h
  ·exact Int.min_eq_right (by omega)
 have ht0 : -9223372036854775808 ≤ top ∧ top ≤ 1099511627776 := by omega
 have hnI : (n : Int) ≤ 1099511627776 := by unfold maxNum at hlt; omega
 have hbd : ∀ l : Int, -1 ≤ l → (l = -1 ∨ l ≤ top) → -9223372036854775808 ≤ top - l ∧ top - l ≤ 9223372036854775807 ∧ -9223372036854775808 ≤ top - l - 1 ∧ top - l - 1 ≤ 9223372036854775807 ∧ l ≤ 1099511627776 := fun l h1 h2 => by omega
 have hnumL : ∀ (W : World) (l : Int) (L' : List Nat), RP W (.pointer pa) F (some L') → (∀ k, F k → k < W.heap.size) → -1 ≤ l → (l = -1 ∨ l ≤ top) → L'.length ≤ 1000000 →
   Calls Tryz.prog 58 #[.pointer pa, .int .i64 (top - l - 1)] W fun e w' => e = .returned (.int .i64 ((getNum (min most maxNum - l - 1) (some L')).1 : Nat)) ∧ RP w' (.pointer pa) F (getNum (min most maxNum - l - 1) (some L')).2 ∧ Kept (own1 (.pointer pa)) W w' := by
  rw [HM.out]
  intro W l L' h1 h2 h3 h4 h5
  have := hbd l h3 h4
  exact rdNumber_any (.pointer pa) F (some L') (top - l - 1) W h1 h2 (wf64 this.2.2.1 this.2.2.2.1) (by show L'.length ≤ _; omega)
 have hstep : ∀ (l : Int) (L' L'' : List Nat), (getNum (min most maxNum - l - 1) (some L')).2 = some L'' → l + 1 + ((getNum (min most maxNum - l - 1) (some L')).1 : Int) ≤ top := by
  intro l L' L'' h
  have := getNum_more _ _ _ h
  rw [HM.out] at this ⊢
  omega
 have HBD := hide hbd
 have HNL := hide hnumL
 have HST := hide hstep
 have HNZ := hide hnz
 have HNM := hide hnm
 have HOW := hide hown
 clear hbd hnumL hstep hnz hnm hown hlt
 obtain ⟨i0, hi, hq0, hq1, hq2⟩ := info_parts info_int
 have HF := hide hF
 clear hF HM
 rcases htop with ⟨hmm, htop⟩ | ⟨hmm, htop⟩
 all_goals
  have HTop := hide htop
  clear htop
  go_enter Tryz.func115, Tryz.ntmps115
  go_wp2_with fail
  go_step3
  go_wp2_with fail
  refine hnum.mono ?_
  rintro e w1 ⟨rfl, hR1, hK1⟩
  clear hnum
  go_wp2_with fail
  go_step3
  go_wp2_with fail
  go_loopg [7, 10, 18] n (fun q s7 s10 s18 wr => ∃ (k : Nat) (l : Int) (done : List Int) (St : Option (List Nat)), k + q = n ∧ s10 = .int .i64 l ∧ s18 = .int .i64 (k : Nat) ∧ -1 ≤ l ∧ (l = -1 ∨ l ≤ top) ∧ wr.ownsRow w.heap.size 3 1 s7 done.length (li done) ∧ RP wr (.pointer pa) F St ∧ Kept (own1 (.pointer pa)) w wr ∧
   ((S1 = none ∧ n = 0 ∧ St = none ∧ done = []) ∨ (∃ L', St = some L' ∧ RowAt (getRow most n (-1) S1) most q l L' done ∧ done.length + L'.length ≤ 1000000)))
  case atStart =>
   refine ⟨0, -1, [], S1, by omega, rfl, rfl, by omega, .inl rfl, World.ownsRow_nil _ _ _ _, hR1, hK1, ?_⟩
   cases S1 with
   | none => exact .inl ⟨rfl, HNZ.out rfl, rfl, rfl⟩
   | some L1 =>
     refine .inr ⟨L1, rfl, ?_, ?_⟩
     ·unfold RowAt
      cases getRow most n (-1) (some L1) with
      | none => rfl
      | some x => simp
     ·have := (HNM.out L1 rfl).1
      simp; omega
  case round =>
   obtain ⟨k, l, done, St, hkq, rfl, rfl, hl1, hl2, hown, hR, hK, hinv⟩ := hrel
   cases gk with
   | zero =>
     obtain rfl : k = n := by omega
     clear hl2 hl1
     go_wp2_with fail
     rw [Exit.noGoto_ret]
     go_ret
     refine ⟨_, rfl, ?_⟩
     rw [HT.out]
     rcases hinv with ⟨rfl, rfl, rfl, rfl⟩ | ⟨L', rfl, hrow, hsz⟩
     ·exact ⟨by simpa [risOf, getRow] using hown, by simpa [risOf, getRow] using hR, hK⟩
     ·rw [hrow.done]
      exact ⟨hown, hR, hK⟩
   | succ q =>
     have hkz : (k : Int) < (n : Int) := by omega
     have hk0 : (0 : Int) ≤ (k : Int) := by omega
     rcases hinv with ⟨_, h0, _, _⟩ | ⟨L', rfl, hrow, hsz⟩
     ·omega
     ·have hFl : ∀ j, F j → j < wr.heap.size := fun j hj => by have := HF.out j hj; have := hK.size; omega
      have hnl := HNL.out wr l L' hR hFl hl1 hl2 (by omega)
      have hb := HBD.out l hl1 hl2
      have hst := hide (HST.out l L')
      have hbad := hide (fun e => hrow.bad e)
      have hgo := fun g L'' e => hrow.step (g := g) (L' := L'') e
      have hmo := hide (getNum_more (min most maxNum - l - 1) (some L'))
      rw [HTop.out] at hnl hb
      obtain ⟨b1, b2, b3, b4, b5⟩ := hb
      clear hrow hl2
      generalize getNum (min most maxNum - l - 1) (some L') = gg at *
      obtain ⟨g, S2⟩ := gg
      have hgo' := hide hgo
      clear hgo
      simp only at hnl
      go_wp2_with fail
      refine hnl.mono ?_
      rintro e w2 ⟨rfl, hR2, hK2⟩
      have hok := ok_any (.pointer pa) F S2 w2 hR2
      have hK02 := hK.trans hK2 (fun _ _ h => h)
      clear hnl
      cases S2 with
      | none =>
        simp only [Option.isSome_none] at hok
        go_wp2_with fail
        refine hok.mono ?_
        rintro e w3 ⟨rfl, rfl⟩
        go_wp2_with fail
        rw [Exit.noGoto_ret]
        go_ret
        refine ⟨_, rfl, ?_⟩
        rw [HT.out, hbad.out (by trivial)]
        exact ⟨World.ownsRow_nil _ _ _ _, hR2, hK02⟩
      | some L2 =>
        simp only [Option.isSome_some] at hok
        have hs2 := hst.out L2 rfl
        have hm2 := hmo.out L2 rfl
        simp only [szO] at hm2 hs2
        have hgb : (g : Int) ≤ 1099511627776 := by have := hm2.2.2; unfold maxNum at this; omega
        have hg0 : (0 : Int) ≤ (g : Int) := by omega
        have hsz2 : done.length + 1 + L2.length ≤ 1000000 := by omega
        have hown2 : w2.ownsRow w.heap.size 3 1 u7 done.length (li done) := owns_kept hown hK2 (fun gg hgg h => by
         have h1 := (owns_cells hown gg hgg).2.1
         have h2 := HOW.out gg h
         omega)
        have hRow := hide (hgo'.out g L2 rfl)
        have hs2' := hide hs2
        clear hm2 hs2 hown hst hmo hgo' hbad
        have hsz9 := hK02.size
        go_wp2_with fail
        refine hok.mono ?_
        rintro e w3 ⟨rfl, rfl⟩
        go_wp2_with (at_builtin; go_must (refine wpList_append_foot _ rfl (.tmp 30) (.tmp 32) 49 rfl 3 i0 (.int .i64 0) 8 Tryz.underlying49 hi hq0 hq1 hq2 rfl w.heap.size u7 done.length (li done) rfl (owns_thru hown2 (below_alloc _ _)) (some ⟨w2.heap.size, 0, none⟩) 1 1 [.int .i64 (l + ((g : Int) + 1))] rfl rfl (fun e => by cases e) (fun ad e => by cases e; exact cell_one_new _ _ _) (by simp [Value.oneCell']) (by unfold maxLen; omega) (by omega) (by simp; omega) ?_); intro A3 C3 w3 hown3 hg3)
        have hKa : Kept (fun _ => False) w2 (w2.alloc (.cells #[.int .i64 (l + ((g : Int) + 1))] 3)) := Kept.of_below (below_alloc _ _)
        have hKg := hg3.kept (F := fun j => u7.ownBlock = some j) (fun _ h => h)
        have hOw7 : ∀ j, u7.ownBlock = some j → w.heap.size ≤ j := fun j hj => (owns_cells hown2 j hj).2.1
        go_roundg q
        case measure => omega
        case rel =>
         refine ⟨k + 1, l + 1 + g, done ++ [l + 1 + (g : Int)], some L2, by omega, congrArg (Value.int .i64) (by omega), by go_num, by omega, .inr hs2'.out, ?_, ?_, ?_, .inr ⟨L2, rfl, hRow.out, by simp; omega⟩⟩
         ·have e : l + ((g : Int) + 1) = l + 1 + g := by omega
          rw [e] at hown3
          rw [List.length_append, li_append]
          exact hown3
         ·refine (hR2.kept hKa (fun _ _ h => h)).kept hKg (fun j hj h => ?_)
          have := hOw7 j h
          have := HF.out j hj
          omega
         ·refine (hK02.trans hKa (fun _ _ h => h.elim)).trans hKg (fun j hj h => ?_)
          have := hOw7 j h
          omega
end Go.Proofs.YtppdbinppibjhaaGreatDoor
