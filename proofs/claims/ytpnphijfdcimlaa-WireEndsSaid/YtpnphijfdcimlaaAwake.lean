/-
  The law's own small functions: bytes, ints, put, and the chapter's examples.
-/
import Derived.Test.YtpnphijfdcimlaaRefRdS
namespace Go.Proofs.Ytpnphijfdcimlaa
open Go.RowKit

theorem bl_new (w : World) (L : List Nat) (hL : ∀ b ∈ L, b < 256) (C : Array Value) (hC : C = (lc L).toArray) (g : Nat) (hg : g = w.heap.size) : BL (w.alloc (.cells C 5)) (some ⟨g, 0, none⟩) L := by
  subst hg hC
  refine BL.mk hL (.inr ⟨_, 0, rfl, fun i hi => ?_⟩)
  rw [Nat.zero_add, cell_of_row _ _ _ _ _ _ (heap_alloc_new _ _), List.getElem?_toArray]
  exact lc_get L i hi
theorem ints_lit (w : World) (L : List Int) (C : Array Value) (hC : C = (li L).toArray) (g : Nat) (hg : g = w.heap.size) : Ints (w.alloc (.cells C 3)) (some ⟨g, 0, none⟩) L.length (fun i => L.getD i 0) := by
  subst hg hC
  refine .inr ⟨_, 0, rfl, fun i hi => ?_⟩
  rw [Nat.zero_add, cell_of_row _ _ _ _ _ _ (heap_alloc_new _ _), List.getElem?_toArray]
  simp [li, hi]
theorem bytesEq_any (a b : Option Addr) (n ca cb : Nat) (L : List Nat) (w : World) (hL : L.length = n) (hn : n ≤ 9223372036854775807) (ha : BL w a L) (hb : BL w b L) :
    Calls Try.prog 25 #[.slice a n ca, .slice b n cb] w fun e w' => e = .returned (.bool true) ∧ Below w.heap.size w w' := by
  have hs := sameBytes_any a b n ca cb L w hL hn ha hb
  clear ha hb
  go_enter Try.func25, Try.ntmps25
  go_wp2_with fail
  refine hs.mono ?_
  rintro e w1 ⟨rfl, hb1⟩
  go_wp2_with fail
  go_ret
  exact ⟨rfl, hb1⟩
theorem intsEq_any (a b : Option Addr) (n ca cb : Nat) (z : Nat → Int) (w : World) (hn : n ≤ 9223372036854775807) (ha : Ints w a n z) (hb : Ints w b n z) :
    Calls Try.prog 26 #[.slice a n ca, .slice b n cb] w fun e w' => e = .returned (.bool true) ∧ Below w.heap.size w w' := by
  have hs := sameInts_any a b n ca cb z w hn ha hb
  clear ha hb
  go_enter Try.func26, Try.ntmps26
  go_wp2_with fail
  refine hs.mono ?_
  rintro e w1 ⟨rfl, hb1⟩
  go_wp2_with fail
  go_ret
  exact ⟨rfl, hb1⟩

/-- A writer that is just there. -/
theorem Wr.fresh (w : World) (g : Nat) (hg : g = w.heap.size) : WP (w.alloc (.cells #[.pointer none, .int .i64 0, .bool false] 47)) (.pointer (some ⟨g, 0, none⟩)) (fun k => k = w.heap.size) (some []) := by
  subst hg
  exact .inr ⟨_, rfl, rfl, by simp, .inl ⟨rfl, heap_alloc_new _ _⟩⟩
theorem putNums_lt (S : Option (List Nat)) (f : Nat → Int) (n : Nat) : szO (putNums S f n) ≤ szO S + 6 * n := putNums_sz S f n

set_option maxHeartbeats 400000 in
theorem put1_any (a : Option Addr) (n cap : Nat) (f : Nat → Int) (w : World) (hn : n ≤ 1000) (hb : Ints w a n f) (had : ∀ g off s, a = some ⟨g, off, s⟩ → g < w.heap.size) :
    Calls Try.prog 27 #[.slice a n cap] w fun e w' => ∃ v, e = .returned v ∧ w'.ownsRow w.heap.size 5 1 v (szO (putNums (some []) f n)) (lc (hasO (putNums (some []) f n))) ∧ byO (putNums (some []) f n) ∧ Below w.heap.size w w' := by
  have hfr := Wr.fresh w w.heap.size rfl
  have hab : Kept (fun _ => False) w (w.alloc (.cells #[.pointer none, .int .i64 0, .bool false] 47)) := Kept.of_below (below_alloc w _)
  have hnum := number_wp (.pointer (some ⟨w.heap.size, 0, none⟩)) (fun k => k = w.heap.size) (some []) a n cap f (w.alloc (.cells #[.pointer none, .int .i64 0, .bool false] 47)) hfr (fun k hk => by simp; omega) (fun g off s e _ h => by have := had g off s e; omega) (by omega) (by simp [szO]; omega) (hb.kept hab (fun _ _ _ _ h => h))
  have hsz := putNums_sz (some []) f n
  have hby := putNums_by (some []) f (by intro b hb; cases hb) n
  simp only [szO, List.length_nil] at hsz
  clear hb had hfr
  generalize putNums (some []) f n = S at *
  go_enter Try.func27, Try.ntmps27
  go_wp2_with fail
  refine hnum.mono ?_
  rintro e w1 ⟨rfl, h1, hK1⟩
  have hbw := bytes_wp _ _ S w1 h1 (by simp only [szO] at *; omega)
  have hs1 := hK1.size
  have hB1 : Below w.heap.size w w1 := ((hab.mono (fun _ _ h => h.elim)).trans hK1 (fun _ _ h => h)).below (fun k hk => by omega) (Nat.le_refl _)
  clear hnum
  go_wp2_with fail
  refine hbw.mono ?_
  rintro e w2 ⟨v, rfl, ho, hB⟩
  go_wp2_with fail
  go_ret
  refine ⟨v, rfl, owns_lower ho hB1.size, hby, hB1.trans (hB.mono hB1.size)⟩

theorem awake1 : putRising (some []) (fun i => [3, 4, 9].getD i 0) 3 = some [3, 3, 0, 4] := by
  simp [putRising, putNum, putRow, putGap, ahead, encN_lo, maxNum]
theorem awake2 : putNums (some []) (fun i => [0, 127, 128, 300].getD i 0) 4 = some [0, 127, 128, 1, 172, 2] := by
  simp [putNums, putNum, maxNum, encN_lo, encN_hi]
theorem awake3 : getNum 300 (some [172, 2]) = (300, some []) := by
  simp [getNum, pN, maxNum]
end Go.Proofs.Ytpnphijfdcimlaa
