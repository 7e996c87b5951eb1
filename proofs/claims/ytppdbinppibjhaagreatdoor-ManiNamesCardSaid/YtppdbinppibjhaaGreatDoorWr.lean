/-
  The program's writer: what it holds in memory; put, fail, Bytes.
-/
import Derived.Test.YtppdbinppibjhaaGreatDoorSame
import Derived.Test.YtppdbinppibjhaaGreatDoorMaths
import Derived.Deep.RegionHeld3
import Derived.Deep.RegionWith
import Derived.Deep.DeepCutAuto
import Derived.Outline
import Derived.Deep.RegionLaw
import Derived.Deep.CutBlock
import Derived.WalkSmall
import Derived.Laws.Pointers
import Derived.WalkSpells
import Derived.StillTailTactics
namespace Go.Proofs.YtppdbinppibjhaaGreatDoor
open Go.RowKit

/-- A writer of the program at p, whose blocks are of F: what was put; none: it failed. -/
def Wr (w : World) (p : Nat) (F : Nat → Prop) (S : Option (List Nat)) : Prop :=
  F p ∧ match S with
  | none => w.heap[p]? = some (.cells #[.pointer none, .int .i64 0, .bool true] 72 (0, 0))
  | some xs => (∀ b ∈ xs, b < 256) ∧ ((xs = [] ∧ w.heap[p]? = some (.cells #[.pointer none, .int .i64 0, .bool false] 72 (0, 0))) ∨
      ∃ q v, F q ∧ w.heap[p]? = some (.cells #[.pointer (some ⟨q, 0, none⟩), .int .i64 (xs.length : Nat), .bool false] 72 (0, 0)) ∧ w.heap[q]? = some (.cells #[v] 138 (0, 0)) ∧
        w.ownsRow 0 5 1 v xs.length (lc xs) ∧ ∀ g, v.ownBlock = some g → F g)
theorem Wr.mono {w : World} {p : Nat} {F G : Nat → Prop} {S : Option (List Nat)} (h : Wr w p F S) (hFG : ∀ k, F k → G k) : Wr w p G S := by
  cases S with
  | none => exact ⟨hFG _ h.1, h.2⟩
  | some xs =>
    obtain ⟨hp, hb, h0 | ⟨q, v, hq, h1, h2, h3, h4⟩⟩ := h
    · exact ⟨hFG _ hp, hb, .inl h0⟩
    · exact ⟨hFG _ hp, hb, .inr ⟨q, v, hFG _ hq, h1, h2, h3, fun g hg => hFG _ (h4 g hg)⟩⟩
theorem Wr.kept {w w' : World} {p : Nat} {F G : Nat → Prop} {S : Option (List Nat)} (h : Wr w p F S) (hk : Kept G w w') (hd : ∀ k, F k → ¬ G k) : Wr w' p F S := by
  cases S with
  | none => exact ⟨h.1, hk.heap h.2 (hd _ h.1)⟩
  | some xs =>
    obtain ⟨hp, hb, ⟨h0, h1⟩ | ⟨q, v, hq, h1, h2, h3, h4⟩⟩ := h
    · exact ⟨hp, hb, .inl ⟨h0, hk.heap h1 (hd _ hp)⟩⟩
    · exact ⟨hp, hb, .inr ⟨q, v, hq, hk.heap h1 (hd _ hp), hk.heap h2 (hd _ hq), owns_kept h3 hk (fun g hg => hd _ (h4 g hg)), h4⟩⟩
theorem Wr.cells {w w' : World} {p : Nat} {F : Nat → Prop} {S : Option (List Nat)} (h : Wr w p F S) (hk : CellsKept w w') : Wr w' p F S := by
  cases S with
  | none => exact ⟨h.1, hk _ _ _ _ h.2⟩
  | some xs =>
    obtain ⟨hp, hb, ⟨h0, h1⟩ | ⟨q, v, hq, h1, h2, h3, h4⟩⟩ := h
    · exact ⟨hp, hb, .inl ⟨h0, hk _ _ _ _ h1⟩⟩
    · exact ⟨hp, hb, .inr ⟨q, v, hq, hk _ _ _ _ h1, hk _ _ _ _ h2, hk.own h3, h4⟩⟩
theorem Wr.by {w : World} {p : Nat} {F : Nat → Prop} {S : Option (List Nat)} (h : Wr w p F S) : byO S := by
  cases S with
  | none => trivial
  | some xs => exact h.2.1

/-- The cells of a block of three. -/
theorem cells3 {w : World} {p : Nat} {a b c : Value} {t : TypeId} (h : w.heap[p]? = some (.cells #[a, b, c] t (0, 0))) :
    w.cell? ⟨p, 0, none⟩ = some a ∧ w.cell? ⟨p, 1, none⟩ = some b ∧ w.cell? ⟨p, 2, none⟩ = some c ∧ w.frozen? ⟨p, 0, none⟩ = false ∧ w.frozen? ⟨p, 1, none⟩ = false ∧ w.frozen? ⟨p, 2, none⟩ = false :=
  ⟨by rw [cell_of_row _ _ _ _ _ _ h]; rfl, by rw [cell_of_row _ _ _ _ _ _ h]; rfl, by rw [cell_of_row _ _ _ _ _ _ h]; rfl, frozen_of_row _ _ _ _ _ h, frozen_of_row _ _ _ _ _ h, frozen_of_row _ _ _ _ _ h⟩
theorem cells1 {w : World} {p : Nat} {a : Value} {t : TypeId} (h : w.heap[p]? = some (.cells #[a] t (0, 0))) :
    w.cell? ⟨p, 0, none⟩ = some a ∧ w.frozen? ⟨p, 0, none⟩ = false :=
  ⟨by rw [cell_of_row _ _ _ _ _ _ h]; rfl, frozen_of_row _ _ _ _ _ h⟩

set_option maxHeartbeats 400000 in
theorem put_nil (w : World) (b : Value) :
    Calls Tryz.prog 78 #[.pointer none, b] w fun e w' => e = .returned (.tuple #[]) ∧ w = w' := by
  go_enter Tryz.func78, Tryz.ntmps78
  go_wp2
  refine bodyPost_ret (results_none rfl _ _ _) rfl ?_
  exact ⟨rfl, rfl⟩
set_option maxHeartbeats 400000 in
theorem put_failed (p : Nat) (b : Value) (w : World) (h : w.heap[p]? = some (.cells #[.pointer none, .int .i64 0, .bool true] 72 (0, 0))) :
    Calls Tryz.prog 78 #[.pointer (some ⟨p, 0, none⟩), b] w fun e w' => e = .returned (.tuple #[]) ∧ w = w' := by
  obtain ⟨c0, c1, c2, f0, f1, f2⟩ := cells3 h
  clear h
  go_enter Tryz.func78, Tryz.ntmps78
  go_wp2
  refine bodyPost_ret (results_none rfl _ _ _) rfl ?_
  exact ⟨rfl, rfl⟩

/-- Bytes of a writer that has no pool. -/
theorem bytes_nil (w : World) : Calls Tryz.prog 44 #[.pointer none] w fun e w' => e = .returned (.slice none 0 0) ∧ w = w' := by
  go_enter Tryz.func44, Tryz.ntmps44
  go_wp2
  go_ret
  exact ⟨rfl, rfl⟩
theorem bytes_empty (p : Nat) (w : World) (h : w.cell? ⟨p, 0, none⟩ = some (.pointer none)) :
    Calls Tryz.prog 44 #[.pointer (some ⟨p, 0, none⟩)] w fun e w' => e = .returned (.slice none 0 0) ∧ w = w' := by
  go_enter Tryz.func44, Tryz.ntmps44
  go_wp2
  go_ret
  exact ⟨rfl, rfl⟩

/-- A writer that has a pool. -/
def Pooled (w0 : World) (p : Nat) (F : Nat → Prop) (xs : List Nat) (w : World) : Prop :=
  ∃ q A C, Fnew F w0 w q ∧ w.heap[p]? = some (.cells #[.pointer (some ⟨q, 0, none⟩), .int .i64 (xs.length : Nat), .bool false] 72 (0, 0)) ∧ w.heap[q]? = some (.cells #[.slice A xs.length C] 138 (0, 0)) ∧
    w.ownsRow 0 5 1 (.slice A xs.length C) xs.length (lc xs) ∧ (∀ g, (Value.slice A xs.length C).ownBlock = some g → Fnew F w0 w g) ∧ Kept F w0 w

def Ask31 (w : World) (p : Nat) (F : Nat → Prop) (xs : List Nat) (s : Value) (wx : World) : Prop :=
  ∃ n, wx = w.drewN n ∧ ((s = .bool true ∧ xs = [] ∧ w.heap[p]? = some (.cells #[.pointer none, .int .i64 0, .bool false] 72 (0, 0))) ∨ (s = .bool false ∧ Pooled w p F xs w))
theorem Pooled.drewN {w0 w : World} {p : Nat} {F : Nat → Prop} {xs : List Nat} (h : Pooled w0 p F xs w) (n : Nat) : Pooled w0 p F xs (w.drewN n) := by
  obtain ⟨q, A, C, h1, h2, h3, h4, h5, h6⟩ := h
  exact ⟨q, A, C, h1, h2, h3, h4, h5, h6.drewN n⟩
theorem Pooled.made {w : World} {p g : Nat} {F : Nat → Prop} (hg : g = w.heap.size) (hp : F p) (hlt : p < w.heap.size) (h0 : w.heap[p]? = some (.cells #[.pointer none, .int .i64 0, .bool false] 72 (0, 0))) (n : Nat) :
    Pooled w p F [] (((w.drewN n).alloc (.cells #[.slice none 0 0] 138)).setCell ⟨p, 0, none⟩ (.pointer (some ⟨g, 0, none⟩))) := by
  subst hg
  have e1 : ((w.drewN n).alloc (.cells #[.slice none 0 0] 138)).heap[p]? = some (.cells #[.pointer none, .int .i64 0, .bool false] 72 (0, 0)) := (Below.heap_alloc _ _ _ hlt).trans h0
  refine ⟨w.heap.size, none, 0, .inr ⟨Nat.le_refl _, by simp [World.setCell]⟩, ?_, ?_, World.ownsRow_nil _ _ _ _, (fun g hg => by cases hg), ?_⟩
  · exact heap_setCell_same _ p 0 _ _ _ e1
  · rw [Below.heap_setCell _ _ _ _ (show w.heap.size ≠ p by omega)]
    exact heap_alloc_new _ _
  · exact (((Kept.refl F w).drewN n).alloc _).setCell (.inl hp) _

/-- Behind the append: the pool has the new bytes, the writer's size is the elder one. -/
def Mid (w0 : World) (p : Nat) (F : Nat → Prop) (n : Nat) (xs : List Nat) (w : World) : Prop :=
  ∃ q A C, p ≠ q ∧ Fnew F w0 w q ∧ w.heap[p]? = some (.cells #[.pointer (some ⟨q, 0, none⟩), .int .i64 (n : Nat), .bool false] 72 (0, 0)) ∧ w.heap[q]? = some (.cells #[.slice A xs.length C] 138 (0, 0)) ∧
    w.ownsRow 0 5 1 (.slice A xs.length C) xs.length (lc xs) ∧ (∀ g, (Value.slice A xs.length C).ownBlock = some g → g ≠ p ∧ Fnew F w0 w g) ∧ Kept F w0 w
theorem Mid.made {w wc w1 : World} {p q : Nat} {F : Nat → Prop} {xs L : List Nat} {A A1 : Option Addr} {C C1 len : Nat} (hL : L.length = len) (hpq : p ≠ q) (hq : Fnew F w wc q) (h0 : wc.heap[p]? = some (.cells #[.pointer (some ⟨q, 0, none⟩), .int .i64 (xs.length : Nat), .bool false] 72 (0, 0))) (h1 : wc.heap[q]? = some (.cells #[.slice A xs.length C] 138 (0, 0)))
    (h3 : ∀ g, (Value.slice A xs.length C).ownBlock = some g → Fnew F w wc g) (hvo : ∀ g, (Value.slice A xs.length C).ownBlock = some g → g ≠ p ∧ g ≠ q) (hk : Kept F w wc) (hown : w1.ownsRow 0 5 1 (.slice A1 (xs.length + len) C1) (xs.length + len) (lc xs ++ lc L))
    (hg : Grew wc w1 (.slice A xs.length C) (.slice A1 (xs.length + len) C1)) : Mid w p F xs.length (xs ++ L) (w1.setCell ⟨q, 0, none⟩ (.slice A1 (xs.length + len) C1)) := by
  have hk1 := hk.step (hg.kept h3)
  have hf := hg.foot hvo
  have hx := hg.kept (F := fun k => k ≠ p ∧ k ≠ q) hvo
  have e : (xs ++ L).length = xs.length + len := by rw [List.length_append, hL]
  have hql : q < wc.heap.size := (Array.getElem?_eq_some_iff.1 h1).1
  have hpl : p < wc.heap.size := (Array.getElem?_eq_some_iff.1 h0).1
  have hqp : ∀ g, (Value.slice A1 (xs.length + len) C1).ownBlock = some g → g ≠ p ∧ g ≠ q ∧ Fnew F w w1 g := fun g hgg => by
    refine ⟨?_, ?_, (hg.foot h3 g hgg).sub hx.size hk.size⟩
    · rcases hf g hgg with h | h
      · exact h.1
      · omega
    · rcases hf g hgg with h | h
      · exact h.2
      · omega
  refine ⟨q, A1, C1, hpq, ?_, ?_, ?_, ?_, ?_, ?_⟩
  · rcases hq with h | h
    · exact .inl h
    · exact .inr ⟨h.1, by have := hx.size; simp [World.setCell]; omega⟩
  · rw [Below.heap_setCell _ _ _ _ hpq]
    exact hx.heap h0 (fun h => h.1 rfl)
  · rw [e]
    exact heap_setCell_same _ q 0 _ _ _ (hx.heap h1 (fun h => h.2 rfl))
  · rw [e, lc_append]
    exact owns_kept hown ((Kept.refl (fun k => k = q) w1).setCell (.inl rfl) _) (fun g hgg h => (hqp g hgg).2.1 h)
  · rw [e]
    intro g hgg
    refine ⟨(hqp g hgg).1, ?_⟩
    rcases (hqp g hgg).2.2 with h | h
    · exact .inl h
    · exact .inr ⟨h.1, by simp [World.setCell]; omega⟩
  · refine hk1.setCell ?_ _
    rcases hq with h | h
    · exact .inl h
    · exact .inr h.1
theorem Mid.done {w wc : World} {p n : Nat} {F : Nat → Prop} {xs : List Nat} (hp : F p) (hx : ∀ b ∈ xs, b < 256) (h : Mid w p F n xs wc) : Wr (wc.setCell ⟨p, 1, none⟩ (.int .i64 (xs.length : Nat))) p (Fnew F w (wc.setCell ⟨p, 1, none⟩ (.int .i64 (xs.length : Nat)))) (some xs) ∧ Kept F w (wc.setCell ⟨p, 1, none⟩ (.int .i64 (xs.length : Nat))) := by
  obtain ⟨q, A, C, hpq, hq, h0, h1, h2, h3, hk⟩ := h
  refine ⟨⟨.inl hp, hx, .inr ⟨q, .slice A xs.length C, ?_, heap_setCell_same _ p 1 _ _ _ h0, ?_, ?_, ?_⟩⟩, hk.setCell (.inl hp) _⟩
  · rcases hq with h | h
    · exact .inl h
    · exact .inr ⟨h.1, by simp [World.setCell]; omega⟩
  · rw [Below.heap_setCell _ _ _ _ (fun e => hpq e.symm)]
    exact h1
  · exact owns_kept h2 ((Kept.refl (fun k => k = p) wc).setCell (.inl rfl) _) (fun g hgg h => (h3 g hgg).1 h)
  · intro g hgg
    rcases (h3 g hgg).2 with h | h
    · exact .inl h
    · exact .inr ⟨h.1, by simp [World.setCell]; omega⟩

set_option maxRecDepth 100000 in
set_option maxHeartbeats 1000000 in
theorem put_some (p : Nat) (F : Nat → Prop) (xs : List Nat) (a : Option Addr) (len cap : Nat) (L : List Nat) (w : World) (h : Wr w p F (some xs)) (hF : ∀ k, F k → k < w.heap.size) (hL : L.length = len) (hn : a = none → cap = 0) (hlc : len ≤ cap) (had : ∀ g off s, a = some ⟨g, off, s⟩ → 0 < len → ¬ F g)
    (hsz : xs.length + len ≤ 140737488355328) (hb : BL w a L) :
    Calls Tryz.prog 78 #[.pointer (some ⟨p, 0, none⟩), .slice a len cap] w fun e w' => e = .returned (.tuple #[]) ∧ Wr w' p (Fnew F w w') (some (xs ++ L)) ∧ Kept F w w' := by
  obtain ⟨hp, hx, h⟩ := h
  have hlt := hF p hp
  have c2 : w.cell? ⟨p, 2, none⟩ = some (.bool false) := by
    rcases h with ⟨rfl, h0⟩ | ⟨q, v, hq, h0, h1, h2, h3⟩
    · exact (cells3 h0).2.2.1
    · exact (cells3 h0).2.2.1
  go_enter Tryz.func78, Tryz.ntmps78
  go_upto_region 1 with fail
  go_cut [31] (fun s wx => Ask31 w p F xs s wx)
  case first =>
    rcases h with ⟨rfl, h0⟩ | ⟨q, v, hq, h0, h1, h2, h3⟩
    · obtain ⟨c0, c1, c2, f0, f1, f2⟩ := cells3 h0
      have H := hide h0
      clear h0
      go_quiet (fail)
      all_goals
        go_wp2_with fail
        go_meet
        exact ⟨_, rfl, .inl ⟨rfl, rfl, H.out⟩⟩
    · obtain ⟨_, A, C, rfl, hAC, hCm, hAn, _, _, _⟩ := owns_bl h2 hx
      have H : Hid (Pooled w p F xs w) := ⟨q, A, C, .inl hq, h0, h1, h2, fun g hg => .inl (h3 g hg), Kept.refl _ _⟩
      obtain ⟨c0, c1, c2, f0, f1, f2⟩ := cells3 h0
      obtain ⟨d0, e0⟩ := cells1 h1
      clear h0 h1 h2 h3 hAn
      go_quiet (fail)
      all_goals
        go_wp2_with fail
        go_meet
        exact ⟨_, rfl, .inr ⟨rfl, H.out⟩⟩
  case rest =>
    obtain ⟨nd, rfl, hs⟩ := hcut
    clear h
    go_upto_if 31 with fail
    go_cut [] (fun wx => Pooled w p F xs wx)
    case first =>
      rcases hs with ⟨rfl, rfl, h0⟩ | ⟨rfl, h0⟩
      · obtain ⟨c0, c1, c2, f0, f1, f2⟩ := cells3 h0
        have k0 := cell_alloc_l (W := w.drewN nd) (.cells #[.slice none 0 0] 138) c0
        have m0 := frozen_alloc_l (W := w.drewN nd) (.cells #[.slice none 0 0] 138) c0 f0
        have H := hide h0
        clear h0
        go_wp2_with fail
        refine (bytes_empty p (w.drewN nd) c0).mono ?_
        rintro e w' ⟨rfl, rfl⟩
        go_wp2_with fail
        go_meet
        exact Pooled.made rfl hp hlt H.out _
      · have H := hide h0
        clear h0
        go_wp2_with fail
        go_meet
        exact H.out.drewN _
    case rest =>
      obtain ⟨q, A, C, hq, h0, h1, h2, h3, hk⟩ := hcut
      clear hs
      obtain ⟨i0, hi, hq0, hq1, hq2⟩ := info_parts info_u8
      have hpq : p ≠ q := fun e => by subst e; rw [h0] at h1; cases h1
      have hvo : ∀ g, (Value.slice A xs.length C).ownBlock = some g → g ≠ p ∧ g ≠ q := fun g hg => by
        obtain ⟨_, _, cur, hc⟩ := owns_cells h2 g hg
        exact ⟨(fun e => by subst e; rw [h0] at hc; cases hc), (fun e => by subst e; rw [h1] at hc; cases hc)⟩
      obtain ⟨c0, c1, c2, f0, f1, f2⟩ := cells3 h0
      obtain ⟨d0, e0⟩ := cells1 h1
      have hnews := (BL.kept0 hb hk (fun g o s e h0 => had g o s e (by omega))).news
      have hone := lc_one L
      have hnone : a = none → len = 0 ∧ cap = 0 := fun h => by have := hn h; omega
      have hlen : (lc L).length = len := by rw [lc_length, hL]
      have HM : ∀ W A1 C1, W.ownsRow 0 5 1 (.slice A1 (xs.length + len) C1) (xs.length + len) (lc xs ++ lc L) → Grew wc W (.slice A xs.length C) (.slice A1 (xs.length + len) C1) → Mid w p F xs.length (xs ++ L) (W.setCell ⟨q, 0, none⟩ (.slice A1 (xs.length + len) C1)) :=
        fun W A1 C1 ho hg => Mid.made hL hpq hq h0 h1 h3 hvo hk ho hg
      have HX : Hid (∀ b ∈ xs ++ L, b < 256) := fun b hbm => by
        rcases List.mem_append.1 hbm with h | h
        · exact hx b h
        · exact hb.lt b h
      clear h0 h1 hL hn hb hq h3
      go_upto_region 3 with fail
      go_cut [] (fun wx => Mid w p F xs.length (xs ++ L) wx)
      case first =>
        go_region_law
          ((refine step_append_foot _ (by rfl) (.tmp 49) (.tmp 50) 28 (by rfl) 5 i0 (.int .u8 0) 1 Tryz.underlying28 hi hq0 hq1 hq2 rfl 0 (.slice A xs.length C) xs.length (lc xs) (by rfl) h2 a len cap (lc L) (by rfl) hlen hnone hnews hone (by unfold maxLen; omega) (by omega) (by omega) ?_; intro A1 C1 w1 hown1 hg1; have n0 := (hg1.kept (F := fun k => k ≠ p ∧ k ≠ q) hvo).cell (p := ⟨p, 0, none⟩) c0 (fun h => h.1 rfl); have n1 := (hg1.kept (F := fun k => k ≠ p ∧ k ≠ q) hvo).cell (p := ⟨q, 0, none⟩) d0 (fun h => h.2 rfl); have n2 := (hg1.kept (F := fun k => k ≠ p ∧ k ≠ q) hvo).unfrozen (p := ⟨q, 0, none⟩) d0 (fun h => h.2 rfl) e0))
        all_goals
          go_wp2_with fail
          go_meet
          exact HM _ _ _ hown1 hg1.undrew
      case rest =>
        have HD := Mid.done hp HX.out hcut
        obtain ⟨q, A, C, hpq, hq, h0, h1, h2, h3, hk⟩ := hcut
        obtain ⟨c0, c1, c2, f0, f1, f2⟩ := cells3 h0
        obtain ⟨d0, e0⟩ := cells1 h1
        clear h0 h1 h2 h3 hk hpq hq
        obtain ⟨n, hn⟩ : ∃ n, (xs ++ L).length = n := ⟨_, rfl⟩
        rw [hn] at d0 HD
        clear hn
        go_wp2_with fail
        go_end0
        exact ⟨rfl, HD⟩

/-- put, whatever became of the writer before. -/
theorem put_any (p : Nat) (F : Nat → Prop) (S : Option (List Nat)) (a : Option Addr) (len cap : Nat) (L : List Nat) (w : World) (h : Wr w p F S) (hF : ∀ k, F k → k < w.heap.size) (hL : L.length = len) (hn : a = none → cap = 0) (hlc : len ≤ cap) (had : ∀ g off s, a = some ⟨g, off, s⟩ → 0 < len → ¬ F g)
    (hsz : szO S + len ≤ 140737488355328) (hb : BL w a L) :
    Calls Tryz.prog 78 #[.pointer (some ⟨p, 0, none⟩), .slice a len cap] w fun e w' => e = .returned (.tuple #[]) ∧ Wr w' p (Fnew F w w') (putRaw S L) ∧ Kept F w w' := by
  cases S with
  | none => exact (put_failed p _ w h.2).mono fun e w' ⟨he, hw⟩ => by subst hw; exact ⟨he, h.mono (fun k hk => .inl hk), Kept.refl _ _⟩
  | some xs => exact put_some p F xs a len cap L w h hF hL hn hlc had hsz hb

set_option maxHeartbeats 400000 in
theorem fail_nil (w : World) : Calls Tryz.prog 76 #[.pointer none] w fun e w' => e = .returned (.tuple #[]) ∧ w = w' := by
  go_enter Tryz.func76, Tryz.ntmps76
  go_wp2
  go_end0
  exact ⟨rfl, rfl⟩
theorem Wr.block {w : World} {p : Nat} {F : Nat → Prop} {S : Option (List Nat)} (h : Wr w p F S) : ∃ a b c, w.heap[p]? = some (.cells #[a, b, c] 72 (0, 0)) := by
  cases S with
  | none => exact ⟨_, _, _, h.2⟩
  | some xs =>
    obtain ⟨hp, hb, ⟨h0, h1⟩ | ⟨q, v, hq, h1, h2, h3, h4⟩⟩ := h
    · exact ⟨_, _, _, h1⟩
    · exact ⟨_, _, _, h1⟩
set_option maxHeartbeats 400000 in
theorem fail_any (p : Nat) (F : Nat → Prop) (S : Option (List Nat)) (w : World) (h : Wr w p F S) :
    Calls Tryz.prog 76 #[.pointer (some ⟨p, 0, none⟩)] w fun e w' => e = .returned (.tuple #[]) ∧ Wr w' p F none ∧ Kept F w w' := by
  obtain ⟨a, b, c, h0⟩ := h.block
  have hp := h.1
  obtain ⟨c0, c1, c2, f0, f1, f2⟩ := cells3 h0
  have H := hide h0
  clear h h0
  go_enter Tryz.func76, Tryz.ntmps76
  go_wp2
  go_end0
  refine ⟨rfl, ⟨hp, ?_⟩, (((Kept.refl F w).setCell (.inl hp) _).setCell (.inl hp) _).setCell (.inl hp) _⟩
  exact heap_setCell_same _ p 2 _ _ _ (heap_setCell_same _ p 1 _ _ _ (heap_setCell_same _ p 0 _ _ _ H.out))

set_option maxRecDepth 100000 in
set_option maxHeartbeats 1000000 in
theorem bytes_any (p : Nat) (F : Nat → Prop) (xs : List Nat) (w : World) (h : Wr w p F (some xs)) (hsz : xs.length ≤ 140737488355328) :
    Calls Tryz.prog 44 #[.pointer (some ⟨p, 0, none⟩)] w fun e w' => ∃ v, e = .returned v ∧ w'.ownsRow w.heap.size 5 1 v xs.length (lc xs) ∧ Below w.heap.size w w' := by
  obtain ⟨hp, hx, ⟨rfl, h0⟩ | ⟨q, v, hq, h0, h1, h2, h3⟩⟩ := h
  · obtain ⟨c0, c1, c2, f0, f1, f2⟩ := cells3 h0
    exact (bytes_empty p w c0).mono fun e w' ⟨he, hw⟩ => by subst hw; exact ⟨_, he, World.ownsRow_nil _ _ _ _, Below.refl _ _⟩
  · obtain ⟨_, A, C, rfl, hAC, hCm, hAn, hA0, hbl, _⟩ := owns_bl h2 hx
    obtain ⟨c0, c1, c2, f0, f1, f2⟩ := cells3 h0
    obtain ⟨d0, e0⟩ := cells1 h1
    have hc := fun (W : World) (hW : BL W A xs) => cloneBytes_any A xs.length C xs W rfl (by omega) hAC hAn hW
    clear h0 h1 h2 h3
    go_enter Tryz.func44, Tryz.ntmps44
    go_upto_region 3 with fail
    go_region_with (go_at_call 67; refine (hc w.drew hbl).mono ?_; rintro e w1 ⟨v, rfl, ho, hb⟩)
    all_goals
      go_wp2_with fail
      go_ret
      exact ⟨_, rfl, ho, ⟨hb.os, hb.tape, hb.output, hb.size, hb.block⟩⟩
end Go.Proofs.YtppdbinppibjhaaGreatDoor
