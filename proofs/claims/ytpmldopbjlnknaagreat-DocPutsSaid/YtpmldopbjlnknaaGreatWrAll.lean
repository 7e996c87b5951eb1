/-
  The program's writer: what it holds in memory; put, fail, Bytes.
-/
import Derived.Test.YtpmldopbjlnknaaGreatAppendS
import Derived.Test.YtpmldopbjlnknaaGreatMaths
import Derived.Deep.RegionHeld3
import Derived.Deep.RegionWith
import Derived.Deep.DeepCutAuto
import Derived.Outline
import Derived.Deep.RegionLaw
import Derived.Deep.CutBlock
import Derived.WalkSmall
import Derived.Laws.Pointers
import Derived.WalkSpells
import Derived.StillTailTactics
import Derived.Shelf.Abstract
import Derived.Shelf.RegionOpen
import Derived.TacticsInMore
import Derived.LoopNIn
import Derived.LoopIn
set_option maxHeartbeats 4000000
set_option maxRecDepth 100000
set_option linter.unusedVariables false
set_option linter.unusedSimpArgs false
namespace Go.Proofs.YtpmldopbjlnknaaGreat
open Go.RowKit
def Wr (w : World) (p : Nat) (F : Nat → Prop) (S : Option (List Nat)) : Prop :=
 F p ∧ match S with
 | none => w.heap[p]? = some (.cells #[.pointer none, .int .i64 0, .bool true] 52 (0, 0))
 | some xs => (∀ b ∈ xs, b < 256) ∧ ((xs = [] ∧ w.heap[p]? = some (.cells #[.pointer none, .int .i64 0, .bool false] 52 (0, 0))) ∨
   ∃ q v, F q ∧ w.heap[p]? = some (.cells #[.pointer (some ⟨q, 0, none⟩), .int .i64 (xs.length : Nat), .bool false] 52 (0, 0)) ∧ w.heap[q]? = some (.cells #[v] 114 (0, 0)) ∧
     w.ownsRow 0 5 1 v xs.length (lc xs) ∧ ∀ g, v.ownBlock = some g → F g)
theorem Wr.mono {w : World} {p : Nat} {F G : Nat → Prop} {S : Option (List Nat)} (h : Wr w p F S) (hFG : ∀ k, F k → G k) : Wr w p G S := by
 cases S with
 | none => exact ⟨hFG _ h.1, h.2⟩
 | some xs =>
   obtain ⟨hp, hb, h0 | ⟨q, v, hq, h1, h2, h3, h4⟩⟩ := h
   ·exact ⟨hFG _ hp, hb, .inl h0⟩
   ·exact ⟨hFG _ hp, hb, .inr ⟨q, v, hFG _ hq, h1, h2, h3, fun g hg => hFG _ (h4 g hg)⟩⟩
theorem Wr.kept {w w' : World} {p : Nat} {F G : Nat → Prop} {S : Option (List Nat)} (h : Wr w p F S) (hk : Kept G w w') (hd : ∀ k, F k → ¬ G k) : Wr w' p F S := by
 cases S with
 | none => exact ⟨h.1, hk.heap h.2 (hd _ h.1)⟩
 | some xs =>
   obtain ⟨hp, hb, ⟨h0, h1⟩ | ⟨q, v, hq, h1, h2, h3, h4⟩⟩ := h
   ·exact ⟨hp, hb, .inl ⟨h0, hk.heap h1 (hd _ hp)⟩⟩
   ·exact ⟨hp, hb, .inr ⟨q, v, hq, hk.heap h1 (hd _ hp), hk.heap h2 (hd _ hq), owns_kept h3 hk (fun g hg => hd _ (h4 g hg)), h4⟩⟩
theorem Wr.cells {w w' : World} {p : Nat} {F : Nat → Prop} {S : Option (List Nat)} (h : Wr w p F S) (hk : CellsKept w w') : Wr w' p F S := by
 cases S with
 | none => exact ⟨h.1, hk _ _ _ _ h.2⟩
 | some xs =>
   obtain ⟨hp, hb, ⟨h0, h1⟩ | ⟨q, v, hq, h1, h2, h3, h4⟩⟩ := h
   ·exact ⟨hp, hb, .inl ⟨h0, hk _ _ _ _ h1⟩⟩
   ·exact ⟨hp, hb, .inr ⟨q, v, hq, hk _ _ _ _ h1, hk _ _ _ _ h2, hk.own h3, h4⟩⟩
theorem Wr.by {w : World} {p : Nat} {F : Nat → Prop} {S : Option (List Nat)} (h : Wr w p F S) : byO S := by
 cases S with
 | none => trivial
 | some xs => exact h.2.1
theorem cells3 {w : World} {p : Nat} {a b c : Value} {t : TypeId} (h : w.heap[p]? = some (.cells #[a, b, c] t (0, 0))) :
  w.cell? ⟨p, 0, none⟩ = some a ∧ w.cell? ⟨p, 1, none⟩ = some b ∧ w.cell? ⟨p, 2, none⟩ = some c ∧ w.frozen? ⟨p, 0, none⟩ = false ∧ w.frozen? ⟨p, 1, none⟩ = false ∧ w.frozen? ⟨p, 2, none⟩ = false :=
 ⟨by rw [cell_of_row _ _ _ _ _ _ h]; rfl, by rw [cell_of_row _ _ _ _ _ _ h]; rfl, by rw [cell_of_row _ _ _ _ _ _ h]; rfl, frozen_of_row _ _ _ _ _ h, frozen_of_row _ _ _ _ _ h, frozen_of_row _ _ _ _ _ h⟩
theorem cells1 {w : World} {p : Nat} {a : Value} {t : TypeId} (h : w.heap[p]? = some (.cells #[a] t (0, 0))) :
  w.cell? ⟨p, 0, none⟩ = some a ∧ w.frozen? ⟨p, 0, none⟩ = false :=
 ⟨by rw [cell_of_row _ _ _ _ _ _ h]; rfl, frozen_of_row _ _ _ _ _ h⟩
theorem put_nil (w : World) (b : Value) :
  Calls Tryz.prog 59 #[.pointer none, b] w fun e w' => e = .returned (.tuple #[]) ∧ w = w' := by
 go_enter Tryz.func59, Tryz.ntmps59
 go_wp2
 refine bodyPost_ret (results_none rfl _ _ _) rfl ?_
 exact ⟨rfl, rfl⟩
theorem put_failed (p : Nat) (b : Value) (w : World) (h : w.heap[p]? = some (.cells #[.pointer none, .int .i64 0, .bool true] 52 (0, 0))) :
  Calls Tryz.prog 59 #[.pointer (some ⟨p, 0, none⟩), b] w fun e w' => e = .returned (.tuple #[]) ∧ w = w' := by
 obtain ⟨c0, c1, c2, f0, f1, f2⟩ := cells3 h
 clear h
 go_enter Tryz.func59, Tryz.ntmps59
 go_wp2
 refine bodyPost_ret (results_none rfl _ _ _) rfl ?_
 exact ⟨rfl, rfl⟩
theorem bytes_nil (w : World) : Calls Tryz.prog 27 #[.pointer none] w fun e w' => e = .returned (.slice none 0 0) ∧ w = w' := by
 go_enter Tryz.func27, Tryz.ntmps27
 go_wp2
 go_ret
 exact ⟨rfl, rfl⟩
theorem bytes_empty (p : Nat) (w : World) (h : w.cell? ⟨p, 0, none⟩ = some (.pointer none)) :
  Calls Tryz.prog 27 #[.pointer (some ⟨p, 0, none⟩)] w fun e w' => e = .returned (.slice none 0 0) ∧ w = w' := by
 go_enter Tryz.func27, Tryz.ntmps27
 go_wp2
 go_ret
 exact ⟨rfl, rfl⟩
def Pooled (w0 : World) (p : Nat) (F : Nat → Prop) (xs : List Nat) (w : World) : Prop :=
 ∃ q A C, Fnew F w0 w q ∧ w.heap[p]? = some (.cells #[.pointer (some ⟨q, 0, none⟩), .int .i64 (xs.length : Nat), .bool false] 52 (0, 0)) ∧ w.heap[q]? = some (.cells #[.slice A xs.length C] 114 (0, 0)) ∧
   w.ownsRow 0 5 1 (.slice A xs.length C) xs.length (lc xs) ∧ (∀ g, (Value.slice A xs.length C).ownBlock = some g → Fnew F w0 w g) ∧ Kept F w0 w
def Ask31 (w : World) (p : Nat) (F : Nat → Prop) (xs : List Nat) (s : Value) (wx : World) : Prop :=
 ∃ n, wx = w.drewN n ∧ ((s = .bool true ∧ xs = [] ∧ w.heap[p]? = some (.cells #[.pointer none, .int .i64 0, .bool false] 52 (0, 0))) ∨ (s = .bool false ∧ Pooled w p F xs w))
theorem Pooled.drewN {w0 w : World} {p : Nat} {F : Nat → Prop} {xs : List Nat} (h : Pooled w0 p F xs w) (n : Nat) : Pooled w0 p F xs (w.drewN n) := by
 obtain ⟨q, A, C, h1, h2, h3, h4, h5, h6⟩ := h
 exact ⟨q, A, C, h1, h2, h3, h4, h5, h6.drewN n⟩
theorem Pooled.made {w : World} {p g : Nat} {F : Nat → Prop} (hg : g = w.heap.size) (hp : F p) (hlt : p < w.heap.size) (h0 : w.heap[p]? = some (.cells #[.pointer none, .int .i64 0, .bool false] 52 (0, 0))) (n : Nat) :
  Pooled w p F [] (((w.drewN n).alloc (.cells #[.slice none 0 0] 114)).setCell ⟨p, 0, none⟩ (.pointer (some ⟨g, 0, none⟩))) := by
 subst hg
 have e1 : ((w.drewN n).alloc (.cells #[.slice none 0 0] 114)).heap[p]? = some (.cells #[.pointer none, .int .i64 0, .bool false] 52 (0, 0)) := (Below.heap_alloc _ _ _ hlt).trans h0
 refine ⟨w.heap.size, none, 0, .inr ⟨Nat.le_refl _, by simp [World.setCell]⟩, ?_, ?_, World.ownsRow_nil _ _ _ _, (fun g hg => by cases hg), ?_⟩
 ·exact heap_setCell_same _ p 0 _ _ _ e1
 ·rw [Below.heap_setCell _ _ _ _ (show w.heap.size ≠ p by omega)]
  exact heap_alloc_new _ _
 ·exact (((Kept.refl F w).drewN n).alloc _).setCell (.inl hp) _
def Mid (w0 : World) (p : Nat) (F : Nat → Prop) (n : Nat) (xs : List Nat) (w : World) : Prop :=
 ∃ q A C, p ≠ q ∧ Fnew F w0 w q ∧ w.heap[p]? = some (.cells #[.pointer (some ⟨q, 0, none⟩), .int .i64 (n : Nat), .bool false] 52 (0, 0)) ∧ w.heap[q]? = some (.cells #[.slice A xs.length C] 114 (0, 0)) ∧
   w.ownsRow 0 5 1 (.slice A xs.length C) xs.length (lc xs) ∧ (∀ g, (Value.slice A xs.length C).ownBlock = some g → g ≠ p ∧ Fnew F w0 w g) ∧ Kept F w0 w
theorem Mid.made {w wc w1 : World} {p q : Nat} {F : Nat → Prop} {xs L : List Nat} {A A1 : Option Addr} {C C1 len : Nat} (hL : L.length = len) (hpq : p ≠ q) (hq : Fnew F w wc q) (h0 : wc.heap[p]? = some (.cells #[.pointer (some ⟨q, 0, none⟩), .int .i64 (xs.length : Nat), .bool false] 52 (0, 0))) (h1 : wc.heap[q]? = some (.cells #[.slice A xs.length C] 114 (0, 0)))
  (h3 : ∀ g, (Value.slice A xs.length C).ownBlock = some g → Fnew F w wc g) (hvo : ∀ g, (Value.slice A xs.length C).ownBlock = some g → g ≠ p ∧ g ≠ q) (hk : Kept F w wc) (hown : w1.ownsRow 0 5 1 (.slice A1 (xs.length + len) C1) (xs.length + len) (lc xs ++ lc L))
  (hg : Grew wc w1 (.slice A xs.length C) (.slice A1 (xs.length + len) C1)) : Mid w p F xs.length (xs ++ L) (w1.setCell ⟨q, 0, none⟩ (.slice A1 (xs.length + len) C1)) := by
 have hk1 := hk.step (hg.kept h3)
 have hf := hg.foot hvo
 have hx := hg.kept (F := fun k => k ≠ p ∧ k ≠ q) hvo
 have e : (xs ++ L).length = xs.length + len := by rw [List.length_append, hL]
 have hql : q < wc.heap.size := (Array.getElem?_eq_some_iff.1 h1).1
 have hpl : p < wc.heap.size := (Array.getElem?_eq_some_iff.1 h0).1
 have hqp : ∀ g, (Value.slice A1 (xs.length + len) C1).ownBlock = some g → g ≠ p ∧ g ≠ q ∧ Fnew F w w1 g := fun g hgg => by
  refine ⟨?_, ?_, (hg.foot h3 g hgg).sub hx.size hk.size⟩
  ·rcases hf g hgg with h | h
   ·exact h.1
   ·omega
  ·rcases hf g hgg with h | h
   ·exact h.2
   ·omega
 refine ⟨q, A1, C1, hpq, ?_, ?_, ?_, ?_, ?_, ?_⟩
 ·rcases hq with h | h
  ·exact .inl h
  ·exact .inr ⟨h.1, by have := hx.size; simp [World.setCell]; omega⟩
 ·rw [Below.heap_setCell _ _ _ _ hpq]
  exact hx.heap h0 (fun h => h.1 rfl)
 ·rw [e]
  exact heap_setCell_same _ q 0 _ _ _ (hx.heap h1 (fun h => h.2 rfl))
 ·rw [e, lc_append]
  exact owns_kept hown ((Kept.refl (fun k => k = q) w1).setCell (.inl rfl) _) (fun g hgg h => (hqp g hgg).2.1 h)
 ·rw [e]
  intro g hgg
  refine ⟨(hqp g hgg).1, ?_⟩
  rcases (hqp g hgg).2.2 with h | h
  ·exact .inl h
  ·exact .inr ⟨h.1, by simp [World.setCell]; omega⟩
 ·refine hk1.setCell ?_ _
  rcases hq with h | h
  ·exact .inl h
  ·exact .inr h.1
theorem Mid.done {w wc : World} {p n : Nat} {F : Nat → Prop} {xs : List Nat} (hp : F p) (hx : ∀ b ∈ xs, b < 256) (h : Mid w p F n xs wc) : Wr (wc.setCell ⟨p, 1, none⟩ (.int .i64 (xs.length : Nat))) p (Fnew F w (wc.setCell ⟨p, 1, none⟩ (.int .i64 (xs.length : Nat)))) (some xs) ∧ Kept F w (wc.setCell ⟨p, 1, none⟩ (.int .i64 (xs.length : Nat))) := by
 obtain ⟨q, A, C, hpq, hq, h0, h1, h2, h3, hk⟩ := h
 refine ⟨⟨.inl hp, hx, .inr ⟨q, .slice A xs.length C, ?_, heap_setCell_same _ p 1 _ _ _ h0, ?_, ?_, ?_⟩⟩, hk.setCell (.inl hp) _⟩
 ·rcases hq with h | h
  ·exact .inl h
  ·exact .inr ⟨h.1, by simp [World.setCell]; omega⟩
 ·rw [Below.heap_setCell _ _ _ _ (fun e => hpq e.symm)]
  exact h1
 ·exact owns_kept h2 ((Kept.refl (fun k => k = p) wc).setCell (.inl rfl) _) (fun g hgg h => (h3 g hgg).1 h)
 ·intro g hgg
  rcases (h3 g hgg).2 with h | h
  ·exact .inl h
  ·exact .inr ⟨h.1, by simp [World.setCell]; omega⟩
theorem put_some (p : Nat) (F : Nat → Prop) (xs : List Nat) (a : Option Addr) (len cap : Nat) (L : List Nat) (w : World) (h : Wr w p F (some xs)) (hF : ∀ k, F k → k < w.heap.size) (hL : L.length = len) (hn : a = none → cap = 0) (hlc : len ≤ cap) (had : ∀ g off s, a = some ⟨g, off, s⟩ → 0 < len → ¬ F g)
  (hsz : xs.length + len ≤ 140737488355328) (hb : BL w a L) :
  Calls Tryz.prog 59 #[.pointer (some ⟨p, 0, none⟩), .slice a len cap] w fun e w' => e = .returned (.tuple #[]) ∧ Wr w' p (Fnew F w w') (some (xs ++ L)) ∧ Kept F w w' := by
 obtain ⟨hp, hx, h⟩ := h
 have hlt := hF p hp
 have c2 : w.cell? ⟨p, 2, none⟩ = some (.bool false) := by
  rcases h with ⟨rfl, h0⟩ | ⟨q, v, hq, h0, h1, h2, h3⟩
  ·exact (cells3 h0).2.2.1
  ·exact (cells3 h0).2.2.1
 go_enter Tryz.func59, Tryz.ntmps59
 go_upto_region 1 with fail
 go_cut [31] (fun s wx => Ask31 w p F xs s wx)
 case first =>
  rcases h with ⟨rfl, h0⟩ | ⟨q, v, hq, h0, h1, h2, h3⟩
  ·obtain ⟨c0, c1, c2, f0, f1, f2⟩ := cells3 h0
   have H := hide h0
   clear h0
   go_quiet (fail)
   all_goals
    go_wp2_with fail
    go_meet
    exact ⟨_, rfl, .inl ⟨rfl, rfl, H.out⟩⟩
  ·obtain ⟨_, A, C, rfl, hAC, hCm, hAn, _, _, _⟩ := owns_bl h2 hx
   have H : Hid (Pooled w p F xs w) := ⟨q, A, C, .inl hq, h0, h1, h2, fun g hg => .inl (h3 g hg), Kept.refl _ _⟩
   obtain ⟨c0, c1, c2, f0, f1, f2⟩ := cells3 h0
   obtain ⟨d0, e0⟩ := cells1 h1
   clear h0 h1 h2 h3 hAn
   go_quiet (fail)
   all_goals
    go_wp2_with fail
    go_meet
    exact ⟨_, rfl, .inr ⟨rfl, H.out⟩⟩
 case rest =>
  obtain ⟨nd, rfl, hs⟩ := hcut
  clear h
  go_upto_if 31 with fail
  go_cut [] (fun wx => Pooled w p F xs wx)
  case first =>
   rcases hs with ⟨rfl, rfl, h0⟩ | ⟨rfl, h0⟩
   ·obtain ⟨c0, c1, c2, f0, f1, f2⟩ := cells3 h0
    have k0 := cell_alloc_l (W := w.drewN nd) (.cells #[.slice none 0 0] 114) c0
    have m0 := frozen_alloc_l (W := w.drewN nd) (.cells #[.slice none 0 0] 114) c0 f0
    have H := hide h0
    clear h0
    go_wp2_with fail
    refine (bytes_empty p (w.drewN nd) c0).mono ?_
    rintro e w' ⟨rfl, rfl⟩
    go_wp2_with fail
    go_meet
    exact Pooled.made rfl hp hlt H.out _
   ·have H := hide h0
    clear h0
    go_wp2_with fail
    go_meet
    exact H.out.drewN _
  case rest =>
   obtain ⟨q, A, C, hq, h0, h1, h2, h3, hk⟩ := hcut
   clear hs
   obtain ⟨i0, hi, hq0, hq1, hq2⟩ := info_parts info_u8
   have hpq : p ≠ q := fun e => by subst e; rw [h0] at h1; cases h1
   have hvo : ∀ g, (Value.slice A xs.length C).ownBlock = some g → g ≠ p ∧ g ≠ q := fun g hg => by
    obtain ⟨_, _, cur, hc⟩ := owns_cells h2 g hg
    exact ⟨(fun e => by subst e; rw [h0] at hc; cases hc), (fun e => by subst e; rw [h1] at hc; cases hc)⟩
   obtain ⟨c0, c1, c2, f0, f1, f2⟩ := cells3 h0
   obtain ⟨d0, e0⟩ := cells1 h1
   have hnews := (BL.kept0 hb hk (fun g o s e h0 => had g o s e (by omega))).news
   have hone := lc_one L
   have hnone : a = none → len = 0 ∧ cap = 0 := fun h => by have := hn h; omega
   have hlen : (lc L).length = len := by rw [lc_length, hL]
   have HM : ∀ W A1 C1, W.ownsRow 0 5 1 (.slice A1 (xs.length + len) C1) (xs.length + len) (lc xs ++ lc L) → Grew wc W (.slice A xs.length C) (.slice A1 (xs.length + len) C1) → Mid w p F xs.length (xs ++ L) (W.setCell ⟨q, 0, none⟩ (.slice A1 (xs.length + len) C1)) :=
    fun W A1 C1 ho hg => Mid.made hL hpq hq h0 h1 h3 hvo hk ho hg
   have HX : Hid (∀ b ∈ xs ++ L, b < 256) := fun b hbm => by
    rcases List.mem_append.1 hbm with h | h
    ·exact hx b h
    ·exact hb.lt b h
   clear h0 h1 hL hn hb hq h3
   go_upto_region 3 with fail
   go_cut [] (fun wx => Mid w p F xs.length (xs ++ L) wx)
   case first =>
    go_region_law
     ((refine step_append_foot _ (by rfl) (.tmp 49) (.tmp 50) 26 (by rfl) 5 i0 (.int .u8 0) 1 Tryz.underlying26 hi hq0 hq1 hq2 rfl 0 (.slice A xs.length C) xs.length (lc xs) (by rfl) h2 a len cap (lc L) (by rfl) hlen hnone hnews hone (by unfold maxLen; omega) (by omega) (by omega) ?_; intro A1 C1 w1 hown1 hg1; have n0 := (hg1.kept (F := fun k => k ≠ p ∧ k ≠ q) hvo).cell (p := ⟨p, 0, none⟩) c0 (fun h => h.1 rfl); have n1 := (hg1.kept (F := fun k => k ≠ p ∧ k ≠ q) hvo).cell (p := ⟨q, 0, none⟩) d0 (fun h => h.2 rfl); have n2 := (hg1.kept (F := fun k => k ≠ p ∧ k ≠ q) hvo).unfrozen (p := ⟨q, 0, none⟩) d0 (fun h => h.2 rfl) e0))
    all_goals
     go_wp2_with fail
     go_meet
     exact HM _ _ _ hown1 hg1.undrew
   case rest =>
    have HD := Mid.done hp HX.out hcut
    obtain ⟨q, A, C, hpq, hq, h0, h1, h2, h3, hk⟩ := hcut
    obtain ⟨c0, c1, c2, f0, f1, f2⟩ := cells3 h0
    obtain ⟨d0, e0⟩ := cells1 h1
    clear h0 h1 h2 h3 hk hpq hq
    obtain ⟨n, hn⟩ : ∃ n, (xs ++ L).length = n := ⟨_, rfl⟩
    rw [hn] at d0 HD
    clear hn
    go_wp2_with fail
    go_end0
    exact ⟨rfl, HD⟩
theorem put_any (p : Nat) (F : Nat → Prop) (S : Option (List Nat)) (a : Option Addr) (len cap : Nat) (L : List Nat) (w : World) (h : Wr w p F S) (hF : ∀ k, F k → k < w.heap.size) (hL : L.length = len) (hn : a = none → cap = 0) (hlc : len ≤ cap) (had : ∀ g off s, a = some ⟨g, off, s⟩ → 0 < len → ¬ F g)
  (hsz : szO S + len ≤ 140737488355328) (hb : BL w a L) :
  Calls Tryz.prog 59 #[.pointer (some ⟨p, 0, none⟩), .slice a len cap] w fun e w' => e = .returned (.tuple #[]) ∧ Wr w' p (Fnew F w w') (putRaw S L) ∧ Kept F w w' := by
 cases S with
 | none => exact (put_failed p _ w h.2).mono fun e w' ⟨he, hw⟩ => by subst hw; exact ⟨he, h.mono (fun k hk => .inl hk), Kept.refl _ _⟩
 | some xs => exact put_some p F xs a len cap L w h hF hL hn hlc had hsz hb
theorem fail_nil (w : World) : Calls Tryz.prog 57 #[.pointer none] w fun e w' => e = .returned (.tuple #[]) ∧ w = w' := by
 go_enter Tryz.func57, Tryz.ntmps57
 go_wp2
 go_end0
 exact ⟨rfl, rfl⟩
theorem Wr.block {w : World} {p : Nat} {F : Nat → Prop} {S : Option (List Nat)} (h : Wr w p F S) : ∃ a b c, w.heap[p]? = some (.cells #[a, b, c] 52 (0, 0)) := by
 cases S with
 | none => exact ⟨_, _, _, h.2⟩
 | some xs =>
   obtain ⟨hp, hb, ⟨h0, h1⟩ | ⟨q, v, hq, h1, h2, h3, h4⟩⟩ := h
   ·exact ⟨_, _, _, h1⟩
   ·exact ⟨_, _, _, h1⟩
theorem fail_any (p : Nat) (F : Nat → Prop) (S : Option (List Nat)) (w : World) (h : Wr w p F S) :
  Calls Tryz.prog 57 #[.pointer (some ⟨p, 0, none⟩)] w fun e w' => e = .returned (.tuple #[]) ∧ Wr w' p F none ∧ Kept F w w' := by
 obtain ⟨a, b, c, h0⟩ := h.block
 have hp := h.1
 obtain ⟨c0, c1, c2, f0, f1, f2⟩ := cells3 h0
 have H := hide h0
 clear h h0
 go_enter Tryz.func57, Tryz.ntmps57
 go_wp2
 go_end0
 refine ⟨rfl, ⟨hp, ?_⟩, (((Kept.refl F w).setCell (.inl hp) _).setCell (.inl hp) _).setCell (.inl hp) _⟩
 exact heap_setCell_same _ p 2 _ _ _ (heap_setCell_same _ p 1 _ _ _ (heap_setCell_same _ p 0 _ _ _ H.out))
theorem bytes_any (p : Nat) (F : Nat → Prop) (xs : List Nat) (w : World) (h : Wr w p F (some xs)) (hsz : xs.length ≤ 140737488355328) :
  Calls Tryz.prog 27 #[.pointer (some ⟨p, 0, none⟩)] w fun e w' => ∃ v, e = .returned v ∧ w'.ownsRow w.heap.size 5 1 v xs.length (lc xs) ∧ Below w.heap.size w w' := by
 obtain ⟨hp, hx, ⟨rfl, h0⟩ | ⟨q, v, hq, h0, h1, h2, h3⟩⟩ := h
 ·obtain ⟨c0, c1, c2, f0, f1, f2⟩ := cells3 h0
  exact (bytes_empty p w c0).mono fun e w' ⟨he, hw⟩ => by subst hw; exact ⟨_, he, World.ownsRow_nil _ _ _ _, Below.refl _ _⟩
 ·obtain ⟨_, A, C, rfl, hAC, hCm, hAn, hA0, hbl, _⟩ := owns_bl h2 hx
  obtain ⟨c0, c1, c2, f0, f1, f2⟩ := cells3 h0
  obtain ⟨d0, e0⟩ := cells1 h1
  have hc := fun (W : World) (hW : BL W A xs) => cloneBytes_any A xs.length C xs W rfl (by omega) hAC hAn hW
  clear h0 h1 h2 h3
  go_enter Tryz.func27, Tryz.ntmps27
  go_upto_region 3 with fail
  go_region_with (go_at_call 60; refine (hc w.drew hbl).mono ?_; rintro e w1 ⟨v, rfl, ho, hb⟩)
  all_goals
   go_wp2_with fail
   go_ret
   exact ⟨_, rfl, ho, ⟨hb.os, hb.tape, hb.output, hb.size, hb.block⟩⟩
open Go.RowKit Go.Shelf
attribute [local go_sem] Oper.semAt_some
theorem or128 : ∀ x : Fin 256, 128 ||| x.val = x.val % 128 + 128 := by decide
theorem hi_byte (n : Nat) : bits BinOp.or IntKind.u8 128 ((n : Int) % 256) = ((n % 128 + 128 : Nat) : Int) := by
 have h := u8_or_nat 128 (n % 256) (by omega) (by omega)
 have e := or128 ⟨n % 256, by omega⟩
 simp only at e
 rw [e, show n % 256 % 128 = n % 128 from by omega] at h
 simpa using h
def vals (l : List (Fin 256)) : List Nat := l.map Fin.val
theorem vals_snoc (l : List (Fin 256)) (b : Fin 256) : vals (l ++ [b]) = vals l ++ [b.val] := by simp [vals]
theorem bytesOf_in (F : Fence) (n : Nat) (hF : F.fn 58) (hro : F.round = none) (m : Int) (w : World) :
  CallsIn F n Tryz.prog 58 #[.int .i64 m] w fun e w' => e = .returned (.func (.func 107) #[] #[.pointer (some ⟨w.heap.size, 0, none⟩)]) ∧ w' = w.alloc (.cells #[.int .i64 m] 3) := by
 refine callsIn_of_wp Tryz.func58 rfl hF ?_ hro
 simp only [Tryz.ntmps58, List.size_toArray, List.length_cons, List.length_nil, Nat.reduceAdd, Nat.reduceSub, Array.replicate_succ, Array.replicate_zero, List.push_toArray, List.append_toArray, List.nil_append, List.cons_append]
 gi_wp2
 go_ret
 exact ⟨rfl, rfl⟩
theorem bytesOf1_in (F : Fence) (n : Nat) (hF : F.fn 107) (hro : F.round = none) (hn : 1 ≤ n) (l Bs : Nat) (m : Nat) (hm : m ≤ maxNum) (J Jx : List (Fin 256) → World → Prop)
  (hY : ∀ pre x W, J pre W → pre.length < 6 → YieldAt F (n - 1) Tryz.prog l #[.int .u8 (x.val : Nat)] W fun e W' =>
   (e = .returned (.bool true) ∧ J (pre ++ [x]) W' ∧ KeepsWalks W W') ∨ (e = .returned (.bool false) ∧ Jx (pre ++ [x]) W'))
  (W : World) (hBs : W.cell? ⟨Bs, 0, none⟩ = some (.int .i64 m)) (h0 : J [] W) :
  CallsIn F n Tryz.prog 107 #[.func (.yield l) #[] #[], .pointer (some ⟨Bs, 0, none⟩)] W fun e W' => (∃ v, e = .returned v) ∧
   ((∃ ys, vals ys = encN m ∧ J ys W') ∨ (∃ pre, True ∧ Jx pre W')) := by
 refine callsIn_of_wp Tryz.func107 rfl hF ?_ hro
 simp only [Tryz.ntmps107, List.size_toArray, List.length_cons, List.length_nil, Nat.reduceAdd, Nat.reduceSub, Array.replicate_succ, Array.replicate_zero, List.push_toArray, List.append_toArray, List.nil_append, List.cons_append]
 have hl6 := encN_len6 hm
 unfold maxNum at hm
 gi_wp2
 gi_loopw [3] (fun s wr => ∃ (q : Nat) (pre : List (Fin 256)), s = .int .i64 q ∧ q ≤ m ∧ vals pre ++ encN q = encN m ∧ J pre wr)
  (fun s _ => (intOf s).toNat)
 case atStart => exact ⟨m, [], rfl, Nat.le_refl _, rfl, h0⟩
 case round =>
  obtain ⟨q, pre, rfl, hq, he, hJs⟩ := hrel
  have hlen : pre.length < 6 := by
   have h1 := congrArg List.length he
   have h2 : 0 < (encN q).length := by
    by_cases h : q < 128
    ·rw [encN_lo h]; simp
    ·rw [encN_hi (by omega)]; simp
   simp [vals] at h1
   omega
  by_cases hlt : 128 ≤ q
  ·have hx : q % 128 + 128 < 256 := by omega
   have hy0 := hY pre ⟨q % 128 + 128, hx⟩ wr hJs hlen
   simp only at hy0
   rw [← hi_byte q] at hy0
   obtain ⟨fn, tmps, assign, body, hy, hR⟩ := hy0
   rw [encN_hi hlt] at he
   have HE : Hid (vals (pre ++ [⟨q % 128 + 128, hx⟩]) ++ encN (q / 128) = encN m) := by
    rw [vals_snoc, List.append_assoc]; exact he
   clear he hl6
   gi_wp2
   refine hR.mono ?_
   rintro e W3 (⟨rfl, hJ3, _⟩ | ⟨rfl, hJx3⟩)
   ·gi_wp2
    go_roundw
    case rel => exact ⟨q / 128, _, by go_num, by omega, HE.out, hJ3⟩
    case measure => simp [intOf]; omega
   ·gi_wp2
    refine bodyPost_ret (results_none rfl _ _ _) rfl ?_
    exact ⟨⟨_, rfl⟩, .inr ⟨_, trivial, hJx3⟩⟩
  ·have hx : q < 256 := by omega
   have hy0 := hY pre ⟨q, hx⟩ wr hJs hlen
   simp only at hy0
   obtain ⟨fn, tmps, assign, body, hy, hR⟩ := hy0
   rw [encN_lo (by omega)] at he
   have HE : Hid (vals (pre ++ [⟨q, hx⟩]) = encN m) := by
    rw [vals_snoc]; exact he
   clear he hl6
   gi_wp2
   refine hR.mono ?_
   rintro e W3 (⟨rfl, hJ3, _⟩ | ⟨rfl, hJx3⟩)
   ·gi_wp2
    go_end0
    exact ⟨⟨_, rfl⟩, .inl ⟨_, HE.out, hJ3⟩⟩
   ·gi_wp2
    go_end0
    exact ⟨⟨_, rfl⟩, .inr ⟨_, trivial, hJx3⟩⟩
theorem bytesOf_stops (F : Fence) (n : Nat) (hF : F.fn 107) (hro : F.round = none) (hn : 1 ≤ n) (Bs m : Nat) (hm : m ≤ maxNum) (w : World) (hBs : Bs < w.heap.size)
  (hc : w.cell? ⟨Bs, 0, none⟩ = some (.int .i64 m)) :
  SeqStopsK F n Tryz.prog 107 #[.pointer (some ⟨Bs, 0, none⟩)] (fun x : Fin 256 => #[Value.int .u8 (x.val : Nat)]) KeepsWalks (fun ys => vals ys = encN m) (fun _ => True) 6 w := fun l J Jx W hW _ _ hY h0 => by
 have hc' := (hW.cell (p := ⟨Bs, 0, none⟩) hBs).trans hc
 exact bytesOf1_in F n hF hro hn l Bs m hm J Jx hY W hc' h0
end Go.Proofs.YtpmldopbjlnknaaGreat
/-
  The program's writer puts numbers.
-/
namespace Go.Proofs.YtpmldopbjlnknaaGreat
open Go.RowKit Go.Shelf
attribute [local go_sem] Oper.semAt_some
def WP (w : World) (pv : Value) (F : Nat → Prop) (S : Option (List Nat)) : Prop := (pv = .pointer none ∧ S = none) ∨ ∃ p, pv = .pointer (some ⟨p, 0, none⟩) ∧ Wr w p F S
theorem WP.mono {w : World} {pv : Value} {F G : Nat → Prop} {S : Option (List Nat)} (h : WP w pv F S) (hFG : ∀ k, F k → G k) : WP w pv G S := by
 rcases h with h | ⟨p, h1, h2⟩
 ·exact .inl h
 ·exact .inr ⟨p, h1, h2.mono hFG⟩
theorem WP.kept {w w' : World} {pv : Value} {F G : Nat → Prop} {S : Option (List Nat)} (h : WP w pv F S) (hk : Kept G w w') (hd : ∀ k, F k → ¬ G k) : WP w' pv F S := by
 rcases h with h | ⟨p, h1, h2⟩
 ·exact .inl h
 ·exact .inr ⟨p, h1, h2.kept hk hd⟩
theorem WP.cells {w w' : World} {pv : Value} {F : Nat → Prop} {S : Option (List Nat)} (h : WP w pv F S) (hk : CellsKept w w') : WP w' pv F S := by
 rcases h with h | ⟨p, h1, h2⟩
 ·exact .inl h
 ·exact .inr ⟨p, h1, h2.cells hk⟩
theorem WP.by {w : World} {pv : Value} {F : Nat → Prop} {S : Option (List Nat)} (h : WP w pv F S) : byO S := by
 rcases h with ⟨_, rfl⟩ | ⟨p, h1, h2⟩
 ·trivial
 ·exact h2.by
theorem WP.form {w : World} {pv : Value} {F : Nat → Prop} {S : Option (List Nat)} (h : WP w pv F S) : ∃ a, pv = .pointer a := by
 rcases h with ⟨h, _⟩ | ⟨p, h1, h2⟩
 ·exact ⟨_, h⟩
 ·exact ⟨_, h1⟩
theorem put_wp (pv : Value) (F : Nat → Prop) (S : Option (List Nat)) (a : Option Addr) (len cap : Nat) (L : List Nat) (w : World) (h : WP w pv F S) (hF : ∀ k, F k → k < w.heap.size) (hL : L.length = len) (hn : a = none → cap = 0) (hlc : len ≤ cap) (had : ∀ g off s, a = some ⟨g, off, s⟩ → 0 < len → ¬ F g)
  (hsz : szO S + len ≤ 140737488355328) (hb : BL w a L) :
  Calls Tryz.prog 59 #[pv, .slice a len cap] w fun e w' => e = .returned (.tuple #[]) ∧ WP w' pv (Fnew F w w') (putRaw S L) ∧ Kept F w w' := by
 rcases h with ⟨rfl, rfl⟩ | ⟨p, rfl, h⟩
 ·exact (put_nil w _).mono fun e w' ⟨he, hw⟩ => by subst hw; exact ⟨he, .inl ⟨rfl, rfl⟩, Kept.refl _ _⟩
 ·exact (put_any p F S a len cap L w h hF hL hn hlc had hsz hb).mono fun e w' ⟨he, h1, h2⟩ => ⟨he, .inr ⟨p, rfl, h1⟩, h2⟩
theorem fail_wp (pv : Value) (F : Nat → Prop) (S : Option (List Nat)) (w : World) (h : WP w pv F S) :
  Calls Tryz.prog 57 #[pv] w fun e w' => e = .returned (.tuple #[]) ∧ WP w' pv F none ∧ Kept F w w' := by
 rcases h with ⟨rfl, rfl⟩ | ⟨p, rfl, h⟩
 ·exact (fail_nil w).mono fun e w' ⟨he, hw⟩ => by subst hw; exact ⟨he, .inl ⟨rfl, rfl⟩, Kept.refl _ _⟩
 ·exact (fail_any p F S w h).mono fun e w' ⟨he, h1, h2⟩ => ⟨he, .inr ⟨p, rfl, h1⟩, h2⟩
def hasO : Option (List Nat) → List Nat
 | none => []
 | some xs => xs
theorem hasO_len (S : Option (List Nat)) : (hasO S).length = szO S := by cases S <;> rfl
theorem bytes_wp (pv : Value) (F : Nat → Prop) (S : Option (List Nat)) (w : World) (h : WP w pv F S) (hsz : szO S ≤ 140737488355328) :
  Calls Tryz.prog 27 #[pv] w fun e w' => ∃ v, e = .returned v ∧ w'.ownsRow w.heap.size 5 1 v (szO S) (lc (hasO S)) ∧ Below w.heap.size w w' := by
 rcases h with ⟨rfl, rfl⟩ | ⟨p, rfl, h⟩
 ·exact (bytes_nil w).mono fun e w' ⟨he, hw⟩ => by subst hw; exact ⟨_, he, World.ownsRow_nil _ _ _ _, Below.refl _ _⟩
 ·cases S with
  | none => exact (bytes_empty p w (cells3 h.2).1).mono fun e w' ⟨he, hw⟩ => by subst hw; exact ⟨_, he, World.ownsRow_nil _ _ _ _, Below.refl _ _⟩
  | some xs => exact bytes_any p F xs w h hsz
theorem putNum_ok (S : Option (List Nat)) (n : Int) (h0 : 0 ≤ n) (h1 : n ≤ maxNum) : putNum S n = putRaw S (encN n.toNat) := by
 cases S with
 | none => rfl
 | some xs => simp only [putNum, putRaw]; rw [if_pos ⟨h0, h1⟩]
theorem putNum_bad (S : Option (List Nat)) (n : Int) (h : n < 0 ∨ (maxNum : Int) < n) : putNum S n = none := by
 cases S with
 | none => rfl
 | some xs => simp only [putNum]; rw [if_neg (by omega)]
theorem putNums_none (S : Option (List Nat)) (f : Nat → Int) (k : Nat) (h : putNums S f k = none) : ∀ n, k ≤ n → putNums S f n = none := by
 intro n hn
 induction n with
 | zero => have : k = 0 := by omega
           subst this; exact h
 | succ n ih =>
   by_cases e : k = n + 1
   ·subst e; exact h
   ·show putNum (putNums S f n) (f n) = none
    rw [ih (by omega)]; rfl
theorem putRaw_snoc (S : Option (List Nat)) (a b : List Nat) : putRaw (putRaw S a) b = putRaw S (a ++ b) := by
 cases S <;> simp [putRaw]
theorem putRaw_nil (S : Option (List Nat)) : putRaw S [] = S := by
 cases S <;> simp [putRaw]
def NumSt (w0 : World) (Bw : Nat) (pv : Value) (F : Nat → Prop) (S : Option (List Nat)) (ds : List Deferred) (w : World) : Prop :=
 w.cell? ⟨Bw, 0, none⟩ = some pv ∧ (∃ G, WP w pv G S ∧ ∀ k, G k → F k ∨ (Bw < k ∧ k < w.heap.size)) ∧ Kept F w0 w ∧ Marks w0.heap.size ds w
theorem number_in (n : Nat) (hn4 : 4 ≤ n) (pv : Value) (F : Nat → Prop) (S : Option (List Nat)) (a : Option Addr) (len cap : Nat) (f : Nat → Int) (w : World) (h : WP w pv F S) (hF : ∀ k, F k → k < w.heap.size) (had : ∀ g off s, a = some ⟨g, off, s⟩ → 0 < len → ¬ F g)
  (hlen : len ≤ 9223372036854775807) (hsz : szO S + 6 * len ≤ 140737488355328) (hb : Ints w a len f) :
  CallsIn Fence.wide n Tryz.prog 24 #[pv, .slice a len cap] w fun e w' => e = .returned (.tuple #[]) ∧ WP w' pv (Fnew F w w') (putNums S f len) ∧ Kept F w w' := by
 obtain ⟨pa, hpv⟩ := h.form
 refine callsIn_of_wp_marks Tryz.func24 rfl trivial ?_ rfl
 simp only [Tryz.ntmps24, List.size_toArray, List.length_cons, List.length_nil, Nat.reduceAdd, Nat.reduceSub, Array.replicate_succ, Array.replicate_zero, List.push_toArray, List.append_toArray, List.nil_append, List.cons_append]
 gi_wp2
 refine wpIn_loop (fun A W => ∃ (k : Nat) (ds : List Deferred) (u5 u6 u10 u11 u12 u13 u14 u15 u16 u17 u18 u19 u20 u21 u22 u23 u24 u25 u26 u27 u28 : Value),
   A = { tmps := #[pv, .slice a len cap, .pointer (some ⟨w.heap.size, 0, none⟩), undef, undef, u5, u6, .slice a len cap, .int .i64 len, .int .i64 k, u10, u11, u12, u13, u14, u15, u16, u17, u18, u19, u20, u21, u22, u23, u24, u25, u26, u27, u28], defers := ds } ∧
   k ≤ len ∧ NumSt w w.heap.size pv F (putNums S f k) ds W) (fun A _ => len - (intOf (A.tmps.getD 9 undef)).toNat) ?_ ?_
 ·refine ⟨0, [], _, _, _, _, _, _, _, _, _, _, _, _, _, _, _, _, _, _, _, _, _, rfl, Nat.zero_le _, ?_⟩
  refine ⟨by subst hpv; exact (cell_new_l w _ _).1, ⟨F, ?_, fun k hk => .inl hk⟩, (Kept.refl F w).alloc _, trivial⟩
  exact h.kept (Kept.of_below (F := fun _ => False) (below_alloc w _)) (fun _ _ h => h)
 ·rintro A W ⟨k, ds, u5, u6, u10, u11, u12, u13, u14, u15, u16, u17, u18, u19, u20, u21, u22, u23, u24, u25, u26, u27, u28, rfl, hk, hst⟩
  obtain ⟨hbox, ⟨G, hW, hG⟩, hK, hM⟩ := hst
  have hGl : ∀ j, G j → j < W.heap.size := fun j hj => by
   rcases hG j hj with h1 | h1
   ·have := hF j h1; have := hK.size; omega
   ·exact h1.2
  by_cases hlt : k < len
  ·obtain ⟨g, off, rfl, hc⟩ := hb.cell (by omega)
   have hcell := hK.cell (hc k hlt) (had g off none rfl (by omega))
   have HS : Hid (putNums S f (k + 1) = putNum (putNums S f k) (f k)) := rfl
   have hsk := putNums_sz S f k
   clear hc
   have hend : putNum (putNums S f k) (f k) = none → ∀ (W1 : World) (G1 : Nat → Prop) (tmps : Array Value), (∀ j, G1 j → G j) → WP W1 pv G1 none → Kept G W W1 →
     LeavesInM Fence.wide n Tryz.prog Tryz.f24 tmps (fun e w' => e = .returned (.tuple #[]) ∧ WP w' pv (Fnew F w w') (putNums S f len) ∧ Kept F w w') ds .returning W1 := by
    intro hnone W1 G1 tmps hG1 hW1 hK1
    refine leaves_marks ds _ (hM.others hK1.keepsOthers) (fun w' ht => ⟨_, results_none rfl _ _ _, rfl, ?_, ?_⟩)
    ·rw [putNums_none S f (k + 1) (by rw [← hnone]; exact HS.out) len (by omega)]
     refine (hW1.cells ht.cells).mono (fun j hj => ?_)
     rcases hG j (hG1 j hj) with h1 | h1
     ·exact .inl h1
     ·exact .inr ⟨by omega, by have := hK1.size; rw [ht.size]; omega⟩
    ·refine (hK.trans hK1 (fun j hj hg => ?_)).turned ht
     rcases hG j hg with h1 | h1
     ·exact h1
     ·omega
   by_cases hneg : f k < 0
   ·have hfw := callsIn_wide (n := n - 1).2 (fail_wp pv G (putNums S f k) W hW)
    have hend' := hend (putNum_bad _ _ (.inl hneg))
    clear hend hsk hb HS had
    subst hpv
    gi_wp2
    refine ⟨trivial, fun _ => by omega, hfw.mono ?_⟩
    rintro e w1 ⟨rfl, hW1, hK1⟩
    gi_wp2
    exact hend' _ G _ (fun _ h => h) hW1 hK1
   ·by_cases hbig : maxNum < f k
    ·have hfw := callsIn_wide (n := n - 1).2 (fail_wp pv G (putNums S f k) W hW)
     have hend' := hend (putNum_bad _ _ (.inr hbig))
     unfold maxNum at hbig
     have hbig' : (1099511627776 : Int) < f k := by simpa using hbig
     clear hend hsk hb HS had hbig
     subst hpv
     gi_wp2
     refine ⟨trivial, fun _ => by omega, hfw.mono ?_⟩
     rintro e w1 ⟨rfl, hW1, hK1⟩
     gi_wp2
     exact hend' _ G _ (fun _ h => h) hW1 hK1
    ·obtain ⟨m, hm⟩ : ∃ m : Nat, f k = (m : Int) := ⟨(f k).toNat, by omega⟩
     have hmm : m ≤ maxNum := by omega
     rw [putNum_ok _ _ (by omega) (by omega), show (f k).toNat = m from by omega] at HS
     rw [hm] at hcell
     have hm2 : (m : Int) ≤ 1099511627776 := by unfold maxNum at hmm; omega
     have hm0 : (0 : Int) ≤ (m : Int) := by omega
     have hstop := bytesOf_stops Fence.wide (n - 1) trivial rfl (by omega) W.heap.size m hmm (W.alloc (.cells #[.int .i64 (m : Nat)] 3)) (by simp) (cell_new_l W _ _).1
     clear hend hbig hneg hm hb
     obtain ⟨W0, hW0⟩ : ∃ W0, W.alloc (.cells #[.int .i64 (m : Nat)] 3) = W0 := ⟨_, rfl⟩
     have hs0 : W0.heap.size = W.heap.size + 1 := by rw [← hW0]; simp
     have hab : Kept (fun _ => False) W W0 := by rw [← hW0]; exact Kept.of_below (below_alloc W _)
     have hKs := hK.size
     have hMl := hM.lt
     subst hpv
     gi_wp2
     refine ⟨trivial, fun _ => by omega, (bytesOf_in Fence.wide (n - 1) trivial rfl _ W).mono ?_⟩
     rintro e w' ⟨rfl, rfl⟩
     gi_wp2
     rw [hW0] at hstop
     refine wpIn_rangeFunc_ownF rfl (by omega) (gf := 107) (lb := #[.pointer (some ⟨W.heap.size, 0, none⟩)]) rfl trivial (enters_of Tryz.func107 (by kernel_rfl) rfl)
      hstop walksK_t walksK_b (Below.refl _ _) (fun _ => rfl)
      (fun pre X => X.cell? ⟨w.heap.size, 0, none⟩ = some (.pointer pa) ∧ (∃ G', WP X (.pointer pa) G' (putRaw (putNums S f k) (vals pre)) ∧ ∀ j, G' j → F j ∨ (w.heap.size < j ∧ j < X.heap.size)) ∧ Kept F w X ∧ Marks w.heap.size ds X)
      (fun _ _ _ => False) ?own (fun _ _ _ _ _ hs _ _ => hs) ?start
      (fun x => { tmps := #[.pointer pa, .slice (some ⟨g, off, none⟩) len cap, .pointer (some ⟨w.heap.size, 0, none⟩), undef, undef, .int .i64 m, .int .u8 (x.val : Nat), .slice (some ⟨g, off, none⟩) len cap, .int .i64 len, .int .i64 k,
        .bool true, .pointer (some ⟨g, off + k, none⟩), .int .i64 m, .int .i64 m, .bool (decide ((m : Int) < 0)), .bool (decide ((m : Int) < 0)), .int .i64 m, .bool (decide (1099511627776 < (m : Int))), .bool (decide ((m : Int) < 0) || decide (1099511627776 < (m : Int))), u19, u20, .int .i64 m,
        .func (.func 107) #[] #[.pointer (some ⟨W.heap.size, 0, none⟩)], .int .u8 (x.val : Nat), u24, u25, u26, u27, u28], defers := [] }) ?assign ?body ?done ?stop
     case own =>
      rintro pre X X' row ⟨h1, ⟨G', h2, h3⟩, h4, h5⟩ hg hr
      have ck := CellsKept.of_grown hg (fun r e => (hr r e).2)
      refine ⟨ck.cell h1, ⟨G', h2.cells ck, fun j hj => ?_⟩, h4.grown hg (fun r e => .inr (by have := (hr r e).1; omega)), h5.grown ?_ hg (fun r e => (hr r e).1)⟩
      ·rcases h3 j hj with h | h
       ·exact .inl h
       ·exact .inr ⟨h.1, by have := hg.size; omega⟩
      ·intro d hd D e
       obtain ⟨D', e', hl⟩ := hMl d hd
       rw [e] at e'
       cases e'
       omega
     case start =>
      refine ⟨hab.cell hbox (fun h => h), ⟨G, by rw [show vals [] = [] from rfl, putRaw_nil]; exact hW.kept hab (fun _ _ h => h), fun j hj => ?_⟩, hK.trans hab (fun _ _ h => h.elim), hM.others hab.keepsOthers⟩
      rcases hG j hj with h1 | h1
      ·exact .inl h1
      ·exact .inr ⟨h1.1, by omega⟩
     case assign =>
      intro l x X K hK
      gi_wp2
      exact hK
     case body =>
      rintro l pre x X ⟨h1, ⟨G', h2, h3⟩, h4, h5⟩ hpl
      have hXs := h4.size
      have hab1 : Kept (fun _ => False) X (X.alloc (.cells #[.int .u8 (x.val : Nat)] 5)) := Kept.of_below (below_alloc X _)
      have hG'l : ∀ j, G' j → j < X.heap.size := fun j hj => by
       rcases h3 j hj with h | h
       ·have := hF j h; omega
       ·exact h.2
      have h6 : (vals pre).length = pre.length := by simp [vals]
      have hsz1 := putRaw_sz (putNums S f k) (vals pre)
      have hnew : BL (X.alloc (.cells #[.int .u8 (x.val : Nat)] 5)) (some ⟨X.heap.size, 0, none⟩) [x.val] := BL.mk (by simp) (.inr ⟨_, 0, rfl, fun i hi => by
        have : i = 0 := by simpa using hi
        subst this
        exact (cell_new_l X _ _).1⟩)
      have hp := CallsIn.inRound l (callsIn_wide (n := n - 1 - 1 - 1).2 (put_wp (.pointer pa) G' (putRaw (putNums S f k) (vals pre)) (some ⟨X.heap.size, 0, none⟩) 1 1 [x.val] (X.alloc (.cells #[.int .u8 (x.val : Nat)] 5)) (h2.kept hab1 (fun _ _ h => h)) (fun j hj => by have := hG'l j hj; simp; omega) rfl (fun e => by cases e) (by omega)
       (fun g' off' s e _ hg => by cases e; have := hG'l _ hg; omega) (by omega) hnew))
      rw [putRaw_snoc, ← vals_snoc] at hp
      have hbx : ¬ G' w.heap.size := fun hg => by
       rcases h3 _ hg with h | h
       ·have := hF _ h; omega
       ·omega
      have hb1 := hab1.cell h1 (fun h => h)
      have hsz2 : (X.alloc (.cells #[.int .u8 (x.val : Nat)] 5)).heap.size = X.heap.size + 1 := by simp
      clear hnew
      gi_wp2
      refine ⟨trivial, fun _ => by omega, hp.mono ?_⟩
      rintro e w1 ⟨rfl, hW1, hK1⟩
      gi_wp2
      have ko := hab1.keepsOthers.trans hK1.keepsOthers
      refine ⟨ko, ko.walks, hK1.cell hb1 hbx, ⟨_, hW1, fun j hj => ?_⟩, (h4.trans hab1 (fun _ _ h => h.elim)).trans hK1 (fun j hj hg => ?_), h5.others ko⟩
      ·rcases hj with hj | hj
       ·rcases h3 j hj with h | h
        ·exact .inl h
        ·exact .inr ⟨h.1, by have := ko.size; omega⟩
       ·exact .inr ⟨by omega, hj.2⟩
      ·rcases h3 j hg with h | h
       ·exact h
       ·omega
     case done =>
      rintro D ys X hD hys ⟨h1, ⟨G', h2, h3⟩, h4, h5⟩ hKD
      rw [hys, ← HS.out] at h2
      clear hys
      gi_wp2
      refine ⟨⟨k + 1, _, _, _, _, _, _, _, _, _, _, _, _, _, _, _, _, _, _, _, _, _, _, rfl, by omega, h1, ⟨G', h2, h3⟩, h4, h5.push (by omega) hKD ?_⟩, by simp [intOf]; omega⟩
      intro d hd D' e
      obtain ⟨D1, e', hl⟩ := hMl d hd
      rw [e] at e'
      cases e'
      omega
     case stop =>
      rintro D c pre X _ _ h _
      exact h.elim
  ·obtain rfl : k = len := by omega
   subst hpv
   gi_wp2
   refine leaves_marks ds _ hM (fun w' ht => ⟨_, results_none rfl _ _ _, rfl, ?_, hK.turned ht⟩)
   refine (hW.cells ht.cells).mono (fun j hj => ?_)
   rcases hG j hj with h1 | h1
   ·exact .inl h1
   ·exact .inr ⟨by omega, by rw [ht.size]; omega⟩
theorem number_wp (pv : Value) (F : Nat → Prop) (S : Option (List Nat)) (a : Option Addr) (len cap : Nat) (f : Nat → Int) (w : World) (h : WP w pv F S) (hF : ∀ k, F k → k < w.heap.size) (had : ∀ g off s, a = some ⟨g, off, s⟩ → 0 < len → ¬ F g)
  (hlen : len ≤ 9223372036854775807) (hsz : szO S + 6 * len ≤ 140737488355328) (hb : Ints w a len f) :
  Calls Tryz.prog 24 #[pv, .slice a len cap] w fun e w' => e = .returned (.tuple #[]) ∧ WP w' pv (Fnew F w w') (putNums S f len) ∧ Kept F w w' :=
 callsIn_wide.1 (number_in 4 (by omega) pv F S a len cap f w h hF had hlen hsz hb)
theorem ints_new (w : World) (x : Int) (fr : Nat × Nat) (g : Nat) (hg : g = w.heap.size) : Ints (w.alloc (.cells #[.int .i64 x] 3 fr)) (some ⟨g, 0, none⟩) 1 (fun _ => x) := by
 subst hg
 refine .inr ⟨_, 0, rfl, fun i hi => ?_⟩
 have : i = 0 := by omega
 subst this
 rw [cell_of_row _ _ _ _ _ _ (heap_alloc_new _ _)]; rfl
theorem number_one (pv : Value) (F : Nat → Prop) (S : Option (List Nat)) (x : Int) (w : World) (h : WP w pv F S) (hF : ∀ k, F k → k < w.heap.size) (hsz : szO S + 6 ≤ 140737488355328) (g : Nat) (hg : g = w.heap.size) :
  Calls Tryz.prog 24 #[pv, .slice (some ⟨g, 0, none⟩) 1 1] (w.alloc (.cells #[.int .i64 x] 3)) fun e w' => e = .returned (.tuple #[]) ∧ WP w' pv (Fnew F w w') (putNum S x) ∧ Kept F w w' := by
 subst hg
 have hab : Kept (fun _ => False) w (w.alloc (.cells #[.int .i64 x] 3)) := Kept.of_below (below_alloc w _)
 refine (number_wp pv F S _ 1 1 (fun _ => x) _ (h.kept hab (fun _ _ h => h)) (fun k hk => by have := hF k hk; simp; omega) (fun g off s e _ hg => by cases e; have := hF _ hg; omega) (by omega) (by omega) (ints_new w x (0, 0) _ rfl)).mono fun e w' ⟨he, h1, h2⟩ => ⟨he, h1.mono (fun k hk => ?_), (hab.mono (fun _ _ h => h.elim)).trans h2 (fun _ _ h => h)⟩
 rcases hk with hk | hk
 ·exact .inl hk
 ·exact .inr ⟨by have := hk.1; simp at this; omega, hk.2⟩
end Go.Proofs.YtpmldopbjlnknaaGreat
