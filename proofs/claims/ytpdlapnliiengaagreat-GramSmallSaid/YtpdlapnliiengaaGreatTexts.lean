/-
  Rows of texts.
-/
import Derived.Test.YtpdlapnliiengaaGreatAppendS
namespace Go.Proofs.YtpdlapnliiengaaGreat
open Go.RowKit

/-- A slice at a of len texts holds Z. -/
def Strs (w : World) (a : Option Addr) (len : Nat) (z : Nat → ByteArray) : Prop :=
  len = 0 ∨ ∃ b off, a = some ⟨b, off, none⟩ ∧ ∀ i, i < len → w.cell? ⟨b, off + i, none⟩ = some (.string (z i))
theorem Strs.below {w w' : World} {a : Option Addr} {len : Nat} {z : Nat → ByteArray} (h : Strs w a len z) (hb : Below w.heap.size w w') : Strs w' a len z := by
  rcases h with h | ⟨b, off, rfl, hc⟩
  · exact .inl h
  · exact .inr ⟨b, off, rfl, fun i hi => (hb.cell (p := ⟨b, off + i, none⟩) (block_lt_of_cell (hc i hi))).trans (hc i hi)⟩
theorem Strs.kept {F : Nat → Prop} {w w' : World} {a : Option Addr} {len : Nat} {z : Nat → ByteArray} (h : Strs w a len z) (hk : Kept F w w') (hb : ∀ g off s, a = some ⟨g, off, s⟩ → ¬ F g) : Strs w' a len z := by
  rcases h with h | ⟨g, off, rfl, hc⟩
  · exact .inl h
  · exact .inr ⟨g, off, rfl, fun i hi => hk.cell (hc i hi) (hb g off none rfl)⟩
theorem Strs.kept0 {F : Nat → Prop} {w w' : World} {a : Option Addr} {len : Nat} {z : Nat → ByteArray} (h : Strs w a len z) (hk : Kept F w w') (hb : ∀ g off s, a = some ⟨g, off, s⟩ → 0 < len → ¬ F g) : Strs w' a len z := by
  rcases Nat.eq_zero_or_pos len with h0 | h0
  · exact .inl h0
  · exact h.kept hk (fun g o s e => hb g o s e h0)
theorem Strs.congr {w : World} {a : Option Addr} {len : Nat} {z y : Nat → ByteArray} (h : Strs w a len z) (e : ∀ i, i < len → z i = y i) : Strs w a len y := by
  rcases h with h | ⟨g, off, rfl, hc⟩
  · exact .inl h
  · exact .inr ⟨g, off, rfl, fun i hi => by rw [← e i hi]; exact hc i hi⟩
theorem Strs.cell {w : World} {a : Option Addr} {len : Nat} {z : Nat → ByteArray} (h : Strs w a len z) (hn : 0 < len) : ∃ b off, a = some ⟨b, off, none⟩ ∧ ∀ i, i < len → w.cell? ⟨b, off + i, none⟩ = some (.string (z i)) := by
  rcases h with h0 | h1
  · omega
  · exact h1

set_option maxHeartbeats 400000 in
theorem sameTexts_any (a b : Option Addr) (n ca cb : Nat) (z : Nat → ByteArray) (w : World) (hn : n ≤ 9223372036854775807) (ha : Strs w a n z) (hb : Strs w b n z) :
    Calls Tryz.prog 14 #[.slice a n ca, .slice b n cb] w fun e w' => e = .returned (.bool true) ∧ Below w.heap.size w w' := by
  go_enter Tryz.func14, Tryz.ntmps14
  go_wp2
  go_loopg [5] n (fun q s5 wr => ∃ k : Nat, k + q = n ∧ s5 = .int .i64 k ∧ Below w.heap.size w wr)
  case atStart => exact ⟨0, by omega, rfl, Below.refl _ _⟩
  case round =>
    obtain ⟨k, hkq, rfl, hbr⟩ := hrel
    cases gk with
    | zero =>
      obtain rfl : k = n := by omega
      clear ha hb
      go_wp2
      go_ret
      exact ⟨rfl, hbr⟩
    | succ q =>
      have hkz : (k : Int) < (n : Int) := by omega
      have hk0 : (0 : Int) ≤ (k : Int) := by omega
      obtain ⟨g1, o1, rfl, c1⟩ := ha.cell (by omega)
      obtain ⟨g2, o2, rfl, c2⟩ := hb.cell (by omega)
      have d1 := cell_thru (c1 k (by omega)) hbr
      have d2 := cell_thru (c2 k (by omega)) hbr
      clear c1 c2 ha hb
      generalize z k = x at d1 d2
      go_upto_region 6 with fail
      go_cut [25] (fun s wx => s = .bool false ∧ Below w.heap.size w wx)
      case first =>
        go_quiet (fail)
        all_goals
          go_wp2_with fail
          go_meet
          exact ⟨rfl, below_drewN hbr _⟩
      case rest =>
        obtain ⟨rfl, hbc⟩ := hcut
        go_wp2_with fail
        go_roundg q
        case measure => omega
        case rel => exact ⟨k + 1, by omega, by go_num, hbc⟩
end Go.Proofs.YtpdlapnliiengaaGreat
