/-
  Contracts of LentRows, KeptRows, and of the reference's Sum of parts.
-/
import Derived.Test.YtdcpgoijjnkjaaaTellsM
import Derived.Laws.AppendOwnNone
namespace Go.Proofs.Ytdcpgoijjnkjaaa
open Go.RowKit

theorem info_row : (Try.prog.info? 24).map (fun i => (i.zero, i.size, i.bytes)) = some (some (.slice none 0 0), 1, 24) := by kernel_rfl

/-- Slices of rows of the call's own: the j-th lies in block p j, is l j long, and has room for twelve more. -/
def rowsOf (p l : Nat → Nat) (n : Nat) : List Value := (List.range n).map fun j => .slice (some ⟨p j, 0, none⟩) (l j) (l j + 12)
theorem rowsOf_length (p l : Nat → Nat) (n : Nat) : (rowsOf p l n).length = n := by simp [rowsOf]
theorem rowsOf_get (p l : Nat → Nat) (n i : Nat) (h : i < n) : (rowsOf p l n)[i]? = some (.slice (some ⟨p i, 0, none⟩) (l i) (l i + 12)) := by simp [rowsOf, h]
theorem rowsOf_succ (p l : Nat → Nat) (n g : Nat) : rowsOf (fun j => if j = n then g else p j) l (n + 1) = rowsOf p l n ++ [.slice (some ⟨g, 0, none⟩) (l n) (l n + 12)] := by
  unfold rowsOf
  rw [List.range_succ, List.map_append]
  congr 1
  · apply List.map_congr_left
    intro j hj
    have : j ≠ n := by have := List.mem_range.1 hj; omega
    simp [this]
  · simp
/-- What is known of rows that came in. -/
def InRows (w : World) (a : Option Addr) (n : Nat) (p : Nat → Option Addr) (l c : Nat → Nat) (z : Nat → Nat → Nat) : Prop :=
  n = 0 ∨ ∃ b off, a = some ⟨b, off, none⟩ ∧ ∀ j, j < n → w.cell? ⟨b, off + j, none⟩ = some (.slice (p j) (l j) (c j)) ∧ l j ≤ c j ∧ c j ≤ 9223372036854775807 ∧ (p j = none → c j = 0) ∧ Byt w (p j) (l j) (z j)
theorem InRows.parts {w : World} {a : Option Addr} {n : Nat} {p : Nat → Option Addr} {l c : Nat → Nat} {z : Nat → Nat → Nat} (h : InRows w a n p l c z) : Parts w a n p l c z := by
  rcases h with h | ⟨b, off, h, hc⟩
  · exact .inl h
  · exact .inr ⟨b, off, h, fun j hj => ⟨(hc j hj).1, (hc j hj).2.1, (hc j hj).2.2.1, (hc j hj).2.2.2.2⟩⟩
theorem InRows.below {w w' : World} {a : Option Addr} {n : Nat} {p : Nat → Option Addr} {l c : Nat → Nat} {z : Nat → Nat → Nat} (h : InRows w a n p l c z) (hb : Below w.heap.size w w') : InRows w' a n p l c z := by
  rcases h with h | ⟨b, off, h, hc⟩
  · exact .inl h
  · exact .inr ⟨b, off, h, fun j hj => ⟨cell_thru (hc j hj).1 hb, (hc j hj).2.1, (hc j hj).2.2.1, (hc j hj).2.2.2.1, (hc j hj).2.2.2.2.below hb⟩⟩
/-- The lent rows: a slice of the call's own, each row of it a block of its own. -/
def Lents (w : World) (B : Nat) (v : Value) (n : Nat) (p l : Nat → Nat) (z : Nat → Nat → Nat) : Prop :=
  w.ownsRow B 24 1 v n (rowsOf p l n) ∧ ∀ j, j < n → B ≤ p j ∧ Blk w (p j) (l j + 12) (lent (z j) (l j))
theorem Lents.below {w w' : World} {B n : Nat} {v : Value} {p l : Nat → Nat} {z : Nat → Nat → Nat} (h : Lents w B v n p l z) (hb : Below w.heap.size w w') : Lents w' B v n p l z :=
  ⟨owns_thru h.1 hb, fun j hj => ⟨(h.2 j hj).1, (h.2 j hj).2.below hb⟩⟩
theorem blk_other {w w' : World} {g len : Nat} {v : Value} {z : Nat → Nat} (h : Blk w g len z) (hg : w.grownBy w' v.ownBlock) (hne : v.ownBlock ≠ some g) : Blk w' g len z := by
  have hl := h.lt
  obtain ⟨hz, cur, hb, hc⟩ := h
  exact ⟨hz, cur, (hg.block g hl (fun e => hne e.symm)).trans hb, hc⟩
/-- A block of slices is no block of bytes. -/
theorem own_ne {w : World} {B n g len : Nat} {v : Value} {xs : List Value} {z : Nat → Nat} (h : w.ownsRow B 24 1 v n xs) (hb : Blk w g len z) : v.ownBlock ≠ some g := by
  intro e
  obtain ⟨_, ⟨hv, _⟩ | ⟨g', cap, cur, hv, _, hg, _⟩⟩ := h
  · subst hv; cases e
  · subst hv
    simp [Value.ownBlock] at e
    subst e
    obtain ⟨_, cur', hg', _⟩ := hb
    rw [hg] at hg'
    cases hg'

set_option maxHeartbeats 1000000 in
theorem lentRows_any (a : Option Addr) (n cap : Nat) (p : Nat → Option Addr) (l c : Nat → Nat) (z : Nat → Nat → Nat) (w : World) (hn : n ≤ 20000) (hl : ∀ j, j < n → l j ≤ 20000) (hP : InRows w a n p l c z) :
    Calls Try.prog 8 #[.slice a n cap] w fun e w' => ∃ v, e = .returned v ∧ (∃ q, Lents w' w.heap.size v n q l z) ∧ Below w.heap.size w w' := by
  obtain ⟨i0, hi, hq0, hq1, hq2⟩ := info_parts info_row
  go_enter Try.func8, Try.ntmps8
  go_wp2
  go_loopg [3, 4] n (fun g s3 s4 wr => ∃ (k : Nat) (q : Nat → Nat), k + g = n ∧ s4 = .int .i64 k ∧ Lents wr w.heap.size s3 k q l z ∧ Below w.heap.size w wr)
  case atStart => exact ⟨0, fun _ => 0, by omega, rfl, ⟨World.ownsRow_nil _ _ _ _, fun j hj => by omega⟩, Below.refl _ _⟩
  case round =>
    obtain ⟨k, q, hkg, rfl, hL, hbr⟩ := hrel
    cases gk with
    | zero =>
      have hkz : ¬ ((k : Int) < (n : Int)) := by omega
      obtain rfl : k = n := by omega
      go_wp2
      go_ret
      exact ⟨_, rfl, ⟨q, hL⟩, hbr⟩
    | succ g =>
      have hkz : (k : Int) < (n : Int) := by omega
      obtain ⟨b, off, rfl, hcell, hlc, hcm, hnone, hbyt⟩ : ∃ b off, a = some ⟨b, off, none⟩ ∧ w.cell? ⟨b, off + k, none⟩ = some (.slice (p k) (l k) (c k)) ∧ l k ≤ c k ∧ c k ≤ 9223372036854775807 ∧ (p k = none → c k = 0) ∧ Byt w (p k) (l k) (z k) := by
        rcases hP with h | ⟨b, off, h, hc⟩
        · omega
        · exact ⟨b, off, h, hc k (by omega)⟩
      have hc2 := cell_thru hcell hbr
      have hlb := lentBytes_any (p k) (l k) (c k) (z k) wr (hl k (by omega)) hnone hlc (hbyt.below hbr)
      go_wp2_with fail
      refine hlb.mono ?_
      rintro e w1 ⟨g1, rfl, hg1, hblk, hb1⟩
      have hL1 := hL.below hb1
      have hbw1 := below_thru hbr hb1
      go_wp2_with (at_builtin; go_must (refine wpList_append_own _ rfl (.tmp 11) (.tmp 17) 22 rfl w.heap.size 24 i0 (.slice none 0 0) 1 24 Try.underlying22 hi hq0 hq1 hq2 rfl (by decide) _ k _ rfl (hL1.1.alloc _) ⟨w1.heap.size, 0, none⟩ 1 1 [.slice (some ⟨g1, 0, none⟩) (l k) (l k + 12)] rfl rfl (cell_one_new _ _ _) (by simp [Value.oneCell']) (by unfold maxLen; omega) (by omega) (Nat.le_trans hbw1.size (by simp)) ?_); intro v' w2 hown' hgrow _)
      have hbw2 : Below w.heap.size w w2 := (hbw1.alloc hbw1.size _).grown hgrow (Nat.le_trans hbw1.size (by simp)) (fun r e => (hL1.1.lt r e).1)
      rw [← rowsOf_succ] at hown'
      have hall : ∀ (g' len' : Nat) (z' : Nat → Nat), Blk w1 g' len' z' → Blk w2 g' len' z' := fun g' len' z' hB =>
        have hB' := hB.below (below_alloc w1 (.cells #[.slice (some ⟨g1, 0, none⟩) (l k) (l k + 12)] 24))
        blk_other hB' hgrow (own_ne (hL1.1.alloc _) hB')
      have hrows := hL1.2
      have hsz := hbr.size
      clear hL hL1 hgrow hlb
      go_roundg g
      case measure => omega
      case rel =>
        refine ⟨k + 1, _, by omega, by go_num, ⟨hown', fun j hj => ?_⟩, hbw2⟩
        by_cases e : j = k
        · subst e
          rw [if_pos rfl]
          exact ⟨by omega, hall _ _ _ hblk⟩
        · rw [if_neg e]
          exact ⟨(hrows j (by omega)).1, hall _ _ _ (hrows j (by omega)).2⟩

set_option maxHeartbeats 1000000 in
theorem keptRows_any (B : Nat) (b1 : Nat) (cap1 : Nat) (a : Option Addr) (n cap : Nat) (p : Nat → Option Addr) (q l c : Nat → Nat) (z : Nat → Nat → Nat) (w : World) (hn : n ≤ 20000) (hl : ∀ j, j < n → l j ≤ 20000)
    (hL : Lents w B (.slice (some ⟨b1, 0, none⟩) n cap1) n q l z) (hP : InRows w a n p l c z) :
    Calls Try.prog 15 #[.slice (some ⟨b1, 0, none⟩) n cap1, .slice a n cap] w fun e w' => e = .returned (.bool true) ∧ Below w.heap.size w w' := by
  go_enter Try.func15, Try.ntmps15
  go_wp2
  go_loopg [5] n (fun g s5 wr => ∃ k : Nat, k + g = n ∧ s5 = .int .i64 k ∧ Below w.heap.size w wr)
  case atStart => exact ⟨0, by omega, rfl, Below.refl _ _⟩
  case round =>
    obtain ⟨k, hkg, rfl, hbr⟩ := hrel
    cases gk with
    | zero =>
      have hkz : ¬ ((k : Int) < (n : Int)) := by omega
      go_wp2
      go_ret
      exact ⟨rfl, hbr⟩
    | succ g =>
      have hkz : (k : Int) < (n : Int) := by omega
      have hk0 : (0 : Int) ≤ (k : Int) := by omega
      obtain ⟨b, off, rfl, hcell, hbyt⟩ : ∃ b off, a = some ⟨b, off, none⟩ ∧ w.cell? ⟨b, off + k, none⟩ = some (.slice (p k) (l k) (c k)) ∧ Byt w (p k) (l k) (z k) := by
        rcases hP with h | ⟨b, off, h, hc⟩
        · omega
        · exact ⟨b, off, h, (hc k (by omega)).1, (hc k (by omega)).2.2.2.2⟩
      have hc2 := cell_thru hcell hbr
      have hc1 : wr.cell? ⟨b1, k, none⟩ = some (.slice (some ⟨q k, 0, none⟩) (l k) (l k + 12)) := cell_thru ((hL.1.cellAt k (by omega)).trans (rowsOf_get q l n k (by omega))) hbr
      have hkb := fun W (hW : Below wr.heap.size wr W) => keptBytes_any (q k) (p k) (l k) (c k) (z k) W (hl k (by omega)) (((hL.2 k (by omega)).2.below hbr).below hW) ((hbyt.below hbr).below hW)
      clear hcell
      go_upto_region 6 with fail
      go_cut [26] (fun s wx => s = .bool false ∧ Below w.heap.size w wx)
      case first =>
        go_region_held3 (fun w' => w'.cell? ⟨b, off + k, none⟩ = some (.slice (p k) (l k) (c k)) ∧ w'.cell? ⟨b1, k, none⟩ = some (.slice (some ⟨q k, 0, none⟩) (l k) (l k + 12)))
          (first | exact ⟨hc2, hc1⟩ | exact ⟨cell_thru hc2 (by assumption), cell_thru hc1 (by assumption)⟩)
          (first
          | (go_at_call 23; refine (hkb _ ?_).mono ?_; (next => exact (Below.refl _ _).drew); rintro e w' ⟨rfl, hb⟩; have hb3 := ((Below.refl wr.heap.size wr).drew).trans hb))
        all_goals
          go_wp2_with fail
          go_meet
          refine ⟨rfl, ?_⟩
        all_goals (exact below_thru hbr (by assumption))
      case rest =>
        obtain ⟨rfl, hbc⟩ := hcut
        go_wp2_with fail
        go_roundg g
        case measure => omega
        case rel => exact ⟨k + 1, by omega, by go_num, hbc⟩
end Go.Proofs.Ytdcpgoijjnkjaaa
