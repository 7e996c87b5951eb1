/-
  Contracts of bytes.Clone and of the kit's functions that ask whether two rows are the same.
-/
import Derived.Test.YtppdbinppibjhaaGreatDoorAppend
import Derived.BigQuiet
import Derived.Deep.QuietTactic
import Derived.Deep.DeepMust
import Derived.Deep.DeepCutAuto
import Derived.Deep.LoopGhost
import Derived.OwnWalk
import Derived.Outline
import Derived.WalkSpells
namespace Go.Proofs.YtppdbinppibjhaaGreatDoor
open Go.RowKit

theorem grew_below {w w' : World} {v v' : Value} (h : Grew w w' v v') (hv : ∀ g, v.ownBlock = some g → w.heap.size ≤ g) : Below w.heap.size w w' :=
  (h.kept (F := fun k => v.ownBlock = some k) (fun _ h => h)).below hv (Nat.le_refl _)

set_option maxHeartbeats 400000 in
theorem cloneBytes_any (a : Option Addr) (len cap : Nat) (L : List Nat) (w : World) (hL : L.length = len) (hl : len ≤ 140737488355328) (hlc : len ≤ cap) (hn : a = none → cap = 0) (h : BL w a L) :
    Calls Tryz.prog 67 #[.slice a len cap] w fun e w' => ∃ v, e = .returned v ∧ w'.ownsRow w.heap.size 5 1 v len (lc L) ∧ Below w.heap.size w w' := by
  obtain ⟨i0, hi, hq0, hq1, hq2⟩ := info_parts info_u8
  cases a with
  | none =>
    have hc0 := hn rfl
    have hl0 : len = 0 := by omega
    subst hl0
    have := List.eq_nil_of_length_eq_zero hL
    subst this
    subst hc0
    clear h hL hn hl hlc hi hq0 hq1 hq2
    have q := fun (W : World) => Lib.run_eql_slice_nil (P := Tryz.prog) W 28 5 none 0 0 0 0 Tryz.underlying28
    simp only [Option.isNone_none] at q
    go_enter Tryz.func67, Tryz.ntmps67
    go_wp2
    go_ret
    exact ⟨_, rfl, World.ownsRow_nil _ _ _ _, Below.refl _ _⟩
  | some ad =>
    have hown : (w.alloc (.cells #[] 5)).ownsRow w.heap.size 5 1 (.slice (some ⟨w.heap.size, 0, none⟩) 0 0) 0 [] := World.ownsRow_made w #[] 0 (Nat.le_refl _) (by unfold maxLen; omega) rfl
    have hb := below_alloc w (.cells #[] 5)
    have hnews := (h.below hb).news
    have hone := lc_one L
    have hlen : (lc L).length = len := by rw [lc_length, hL]
    clear hL hn h
    generalize lc L = news at *
    have q := fun (W : World) => Lib.run_eql_slice_nil (P := Tryz.prog) W 28 5 (some ad) len cap 0 0 Tryz.underlying28
    simp only [Option.isNone_some] at q
    go_enter Tryz.func67, Tryz.ntmps67
    go_wp2_with (at_builtin; go_must (refine wpList_append_foot _ rfl (.tmp 5) (.tmp 6) 28 rfl 5 i0 (.int .u8 0) 1 Tryz.underlying28 hi hq0 hq1 hq2 rfl w.heap.size _ 0 [] rfl hown (some ad) len cap news rfl hlen (fun e => by cases e) hnews hone (by unfold maxLen; omega) (by omega) (by simp) ?_); intro A1 C1 w1 hown1 hg1)
    go_ret
    simp only [Nat.zero_add, List.nil_append] at hown1 hg1
    exact ⟨_, rfl, hown1, hb.trans ((hg1.kept (F := fun k => k = w.heap.size) (fun g hg => by cases hg; rfl)).below (fun k hk => by omega) (by simp))⟩

set_option maxHeartbeats 400000 in
theorem sameBytes_any (a b : Option Addr) (n ca cb : Nat) (L : List Nat) (w : World) (hL : L.length = n) (hn : n ≤ 9223372036854775807) (ha : BL w a L) (hb : BL w b L) :
    Calls Tryz.prog 14 #[.slice a n ca, .slice b n cb] w fun e w' => e = .returned (.bool true) ∧ Below w.heap.size w w' := by
  go_enter Tryz.func14, Tryz.ntmps14
  go_wp2
  go_loopg [5] n (fun q s5 wr => ∃ k : Nat, k + q = n ∧ s5 = .int .i64 k ∧ Below w.heap.size w wr)
  case atStart => exact ⟨0, by omega, rfl, Below.refl _ _⟩
  case round =>
    obtain ⟨k, hkq, rfl, hbr⟩ := hrel
    cases gk with
    | zero =>
      obtain rfl : k = n := by omega
      clear ha hb hL
      go_wp2
      go_ret
      exact ⟨rfl, hbr⟩
    | succ q =>
      have hkz : (k : Int) < (n : Int) := by omega
      have hk0 : (0 : Int) ≤ (k : Int) := by omega
      obtain ⟨g1, o1, rfl, c1⟩ := ha.cell (by omega)
      obtain ⟨g2, o2, rfl, c2⟩ := hb.cell (by omega)
      have d1 := cell_thru (c1 k (by omega)) hbr
      have d2 := cell_thru (c2 k (by omega)) hbr
      clear c1 c2 ha hb hL
      generalize L.getD k 0 = x at d1 d2
      go_upto_region 6 with fail
      go_cut [25] (fun s wx => s = .bool false ∧ Below w.heap.size w wx)
      case first =>
        go_quiet (fail)
        all_goals
          go_wp2_with fail
          go_meet
          exact ⟨rfl, below_drewN hbr _⟩
      case rest =>
        obtain ⟨rfl, hbc⟩ := hcut
        go_wp2_with fail
        go_roundg q
        case measure => omega
        case rel => exact ⟨k + 1, by omega, by go_num, hbc⟩

/-- A slice at a of len numbers holds Z. -/
def Ints (w : World) (a : Option Addr) (len : Nat) (z : Nat → Int) : Prop :=
  len = 0 ∨ ∃ b off, a = some ⟨b, off, none⟩ ∧ ∀ i, i < len → w.cell? ⟨b, off + i, none⟩ = some (.int .i64 (z i))
theorem Ints.below {w w' : World} {a : Option Addr} {len : Nat} {z : Nat → Int} (h : Ints w a len z) (hb : Below w.heap.size w w') : Ints w' a len z := by
  rcases h with h | ⟨b, off, rfl, hc⟩
  · exact .inl h
  · exact .inr ⟨b, off, rfl, fun i hi => (hb.cell (p := ⟨b, off + i, none⟩) (block_lt_of_cell (hc i hi))).trans (hc i hi)⟩
theorem Ints.kept {F : Nat → Prop} {w w' : World} {a : Option Addr} {len : Nat} {z : Nat → Int} (h : Ints w a len z) (hk : Kept F w w') (hb : ∀ g off s, a = some ⟨g, off, s⟩ → ¬ F g) : Ints w' a len z := by
  rcases h with h | ⟨g, off, rfl, hc⟩
  · exact .inl h
  · exact .inr ⟨g, off, rfl, fun i hi => hk.cell (hc i hi) (hb g off none rfl)⟩
theorem BL.kept0 {F : Nat → Prop} {w w' : World} {a : Option Addr} {L : List Nat} (h : BL w a L) (hk : Kept F w w') (hb : ∀ g off s, a = some ⟨g, off, s⟩ → 0 < L.length → ¬ F g) : BL w' a L := by
  rcases Nat.eq_zero_or_pos L.length with h0 | h0
  · exact BL.mk h.lt (.inl h0)
  · exact h.kept hk (fun g o s e => hb g o s e h0)
theorem Ints.kept0 {F : Nat → Prop} {w w' : World} {a : Option Addr} {len : Nat} {z : Nat → Int} (h : Ints w a len z) (hk : Kept F w w') (hb : ∀ g off s, a = some ⟨g, off, s⟩ → 0 < len → ¬ F g) : Ints w' a len z := by
  rcases Nat.eq_zero_or_pos len with h0 | h0
  · exact .inl h0
  · exact h.kept hk (fun g o s e => hb g o s e h0)
theorem Ints.congr {w : World} {a : Option Addr} {len : Nat} {z y : Nat → Int} (h : Ints w a len z) (e : ∀ i, i < len → z i = y i) : Ints w a len y := by
  rcases h with h | ⟨g, off, rfl, hc⟩
  · exact .inl h
  · exact .inr ⟨g, off, rfl, fun i hi => by rw [← e i hi]; exact hc i hi⟩
theorem Ints.cell {w : World} {a : Option Addr} {len : Nat} {z : Nat → Int} (h : Ints w a len z) (hn : 0 < len) : ∃ b off, a = some ⟨b, off, none⟩ ∧ ∀ i, i < len → w.cell? ⟨b, off + i, none⟩ = some (.int .i64 (z i)) := by
  rcases h with h0 | h1
  · omega
  · exact h1

set_option maxHeartbeats 400000 in
theorem sameInts_any (a b : Option Addr) (n ca cb : Nat) (z : Nat → Int) (w : World) (hn : n ≤ 9223372036854775807) (ha : Ints w a n z) (hb : Ints w b n z) :
    Calls Tryz.prog 132 #[.slice a n ca, .slice b n cb] w fun e w' => e = .returned (.bool true) ∧ Below w.heap.size w w' := by
  go_enter Tryz.func132, Tryz.ntmps132
  go_wp2
  go_loopg [5] n (fun q s5 wr => ∃ k : Nat, k + q = n ∧ s5 = .int .i64 k ∧ Below w.heap.size w wr)
  case atStart => exact ⟨0, by omega, rfl, Below.refl _ _⟩
  case round =>
    obtain ⟨k, hkq, rfl, hbr⟩ := hrel
    cases gk with
    | zero =>
      obtain rfl : k = n := by omega
      clear ha hb
      go_wp2
      go_ret
      exact ⟨rfl, hbr⟩
    | succ q =>
      have hkz : (k : Int) < (n : Int) := by omega
      have hk0 : (0 : Int) ≤ (k : Int) := by omega
      obtain ⟨g1, o1, rfl, c1⟩ := ha.cell (by omega)
      obtain ⟨g2, o2, rfl, c2⟩ := hb.cell (by omega)
      have d1 := cell_thru (c1 k (by omega)) hbr
      have d2 := cell_thru (c2 k (by omega)) hbr
      clear c1 c2 ha hb
      generalize z k = x at d1 d2
      go_upto_region 6 with fail
      go_cut [25] (fun s wx => s = .bool false ∧ Below w.heap.size w wx)
      case first =>
        go_quiet (fail)
        all_goals
          go_wp2_with fail
          go_meet
          exact ⟨rfl, below_drewN hbr _⟩
      case rest =>
        obtain ⟨rfl, hbc⟩ := hcut
        go_wp2_with fail
        go_roundg q
        case measure => omega
        case rel => exact ⟨k + 1, by omega, by go_num, hbc⟩
end Go.Proofs.YtppdbinppibjhaaGreatDoor
