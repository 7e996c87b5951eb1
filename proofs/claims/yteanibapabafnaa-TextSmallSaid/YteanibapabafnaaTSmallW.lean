/-
  TextSmall's walk.
-/
import Derived.Test.YteanibapabafnaaTTellsW
import Derived.Test.YteanibapabafnaaTSmallR
import Derived.Deep.RegionHeld3
import Derived.Deep.DeepCutAuto
namespace Go.Proofs.Yteanibapabafnaa
open Go.RowKit

/-- How many digits to the base of four. -/
def dg (k : Nat) : Nat := if h : k = 0 then 0 else dg (k / 4) + 1
termination_by k
decreasing_by omega
theorem dg_zero : dg 0 = 0 := by unfold dg; simp
theorem dg_pos {k : Nat} (h : k ≠ 0) : dg k = dg (k / 4) + 1 := by rw [dg]; simp [h]
theorem dg_eq0 {k : Nat} (h : dg k = 0) : k = 0 := by
  rcases Nat.eq_zero_or_pos k with h0 | h0
  · exact h0
  · rw [dg_pos (by omega)] at h; omega
/-- The four bytes. -/
def b4 (r : Nat) : Nat := ([97, 10, 13, 98] : List Nat).getD r 0
theorem b4_cell (w : World) (r : Nat) (hr : r < 4) : (w.alloc (.cells #[.int .u8 97, .int .u8 10, .int .u8 13, .int .u8 98] 5)).cell? ⟨w.heap.size, r, none⟩ = some (.int .u8 (b4 r : Nat)) := by
  rw [cell_of_row _ _ _ _ _ _ (heap_alloc_new _ _)]
  match r, hr with
  | 0, _ => rfl
  | 1, _ => rfl
  | 2, _ => rfl
  | 3, _ => rfl
theorem b4_lt (r : Nat) (hr : r < 4) : b4 r < 256 := by
  match r, hr with
  | 0, _ => decide
  | 1, _ => decide
  | 2, _ => decide
  | 3, _ => decide
/-- The eight numbers in their block. -/
abbrev n8c : Array Value := #[.int .i64 (-9223372036854775808), .int .i64 (-1), .int .i64 0, .int .i64 1, .int .i64 2, .int .i64 3, .int .i64 4, .int .i64 9223372036854775807]
/-- The eight numbers. -/
def n8 (i : Nat) : Int := ([-9223372036854775808, -1, 0, 1, 2, 3, 4, 9223372036854775807] : List Int).getD i 0
theorem n8_bounds (i : Nat) (hi : i < 8) : -9223372036854775808 ≤ n8 i ∧ n8 i ≤ 9223372036854775807 := by
  match i, hi with
  | 0, _ => decide
  | 1, _ => decide
  | 2, _ => decide
  | 3, _ => decide
  | 4, _ => decide
  | 5, _ => decide
  | 6, _ => decide
  | 7, _ => decide

theorem n8c_get (j : Nat) (hj : j < 8) : n8c[j]? = some (.int .i64 (n8 j)) := by
  match j, hj with
  | 0, _ => rfl
  | 1, _ => rfl
  | 2, _ => rfl
  | 3, _ => rfl
  | 4, _ => rfl
  | 5, _ => rfl
  | 6, _ => rfl
  | 7, _ => rfl
set_option maxRecDepth 100000 in
set_option maxHeartbeats 8000000 in
theorem small_any (w : World) : Calls Try.prog 4 #[] w fun e w' => e = .returned (.bool true) ∧ Below w.heap.size w w' := by
  obtain ⟨i0, hi, hq0, hq1, hq2⟩ := info_parts info_u8
  go_enter Try.func4, Try.ntmps4
  go_wp2_with fail
  go_loopg [1] 4096 (fun q s1 wr => ∃ n : Nat, n + q = 4096 ∧ s1 = .int .i64 n ∧ Below w.heap.size w wr)
  case atStart => exact ⟨0, by omega, rfl, Below.refl _ _⟩
  case round =>
    obtain ⟨n, hnq, rfl, hB⟩ := hrel
    cases gk with
    | zero =>
      obtain rfl : n = 4096 := by omega
      have hn8 : (wr.alloc (.cells n8c 3)).heap[wr.heap.size]? = some (.cells n8c 3 (0, 0)) := heap_alloc_new _ _
      have HB := hide (And.intro (below_step hB (.cells n8c 3)) hn8)
      obtain ⟨G, hG⟩ : ∃ G, wr.heap.size = G := ⟨_, rfl⟩
      rw [hG] at HB
      clear hB hn8
      go_wp2_with fail
      go_loopg [6] 8 (fun q s6 wx => ∃ i : Nat, i + q = 8 ∧ s6 = .int .i64 i ∧ Below w.heap.size w wx ∧ wx.heap[G]? = some (.cells n8c 3 (0, 0)))
      case atStart => exact ⟨0, by omega, rfl, HB.out.1, HB.out.2⟩
      case round =>
        obtain ⟨i, hiq, rfl, hBx, hG8⟩ := hrel
        clear HB hG
        cases gk with
        | zero =>
          obtain rfl : i = 8 := by omega
          have HX := hide hBx
          clear hBx hG8
          go_wp2_with fail
          refine (awake_any wr).mono ?_
          rintro e w1 ⟨rfl, hB1⟩
          have HX2 := hide (HX.out.trans (hB1.mono HX.out.size))
          clear hB1
          go_wp2_with fail
          go_ret
          exact ⟨rfl, HX2.out⟩
        | succ g2 =>
          have hi1 : (i : Int) < 8 := by omega
          have hi0 : (0 : Int) ≤ (i : Int) := by omega
          have HX := hide (And.intro hBx hG8)
          clear hBx hG8
          go_wp2_with fail
          go_loopg [7] 8 (fun q s7 wx => ∃ k : Nat, k + q = 8 ∧ s7 = .int .i64 k ∧ Below w.heap.size w wx ∧ wx.heap[G]? = some (.cells n8c 3 (0, 0)))
          case atStart => exact ⟨0, by omega, rfl, HX.out.1, HX.out.2⟩
          case round =>
            obtain ⟨k, hkq, rfl, hBx, hG8⟩ := hrel
            clear HX
            cases gk with
            | zero =>
              obtain rfl : k = 8 := by omega
              have HX := hide (And.intro hBx hG8)
              clear hBx hG8
              go_wp2_with fail
              go_roundg g2
              case measure => omega
              case rel => exact ⟨i + 1, by omega, by go_num, HX.out.1, HX.out.2⟩
            | succ g3 =>
              have hk1 : (k : Int) < 8 := by omega
              have hk0 : (0 : Int) ≤ (k : Int) := by omega
              have hG8' := hG8
              have hGl := block_lt hG8
              have hh : Hid (i < 8 ∧ k < 8) := ⟨by omega, by omega⟩
              have hci : ∀ j, j < 8 → ∀ W, MK wr.heap.size wr W → W.cell? ⟨G, j, none⟩ = some (.int .i64 (n8 j)) := fun j hj W hM => by
                rw [cell_of_row _ _ _ _ _ _ ((hM.block G hGl).trans hG8')]
                exact n8c_get j hj
              have c1 : ∀ W gb fr g2 fr2, MK wr.heap.size wr W → W.heap[gb]? = some (.cells #[.int .u8 97, .int .u8 10, .int .u8 98] 5 fr) → W.heap[g2]? = some (.cells #[.int .i64 (n8 i), .int .i64 (n8 k)] 3 fr2) → Calls Try.prog 3 #[.slice (some ⟨gb, 0, none⟩) 3 3, .slice (some ⟨g2, 0, none⟩) 2 2, .int .i64 (n8 k), .int .i64 (n8 i)] W fun e w' => e = .returned (.bool true) ∧ Below W.heap.size W w' := fun W gb fr g2 fr2 _ h1 h2 =>
                tells_any (some ⟨gb, 0, none⟩) (some ⟨g2, 0, none⟩) 3 3 2 2 (fun j => ([97, 10, 98] : List Nat).getD j 0) (fun j => ([n8 i, n8 k] : List Int).getD j 0) _ _ W (fun e => by cases e) (by omega) (fun e => by cases e) (by omega) (n8_bounds i hh.out.1).1 (n8_bounds i hh.out.1).2
                  ⟨fun j => (by
                    rcases Nat.lt_or_ge j 3 with hj | hj
                    · match j, hj with
                      | 0, _ => decide
                      | 1, _ => decide
                      | 2, _ => decide
                    · simp [List.getD_eq_getElem?_getD, List.getElem?_eq_none (show ([97, 10, 98] : List Nat).length ≤ j from hj)]), .inr ⟨_, _, rfl, fun j hj => by
                    rw [cell_of_row _ _ _ _ _ _ h1]
                    match j, hj with
                    | 0, _ => rfl
                    | 1, _ => rfl
                    | 2, _ => rfl⟩⟩
                  (.inr ⟨_, _, rfl, fun j hj => by
                    rw [cell_of_row _ _ _ _ _ _ h2]
                    match j, hj with
                    | 0, _ => rfl
                    | 1, _ => rfl⟩)
              have c2 : ∀ W g2 fr, MK wr.heap.size wr W → W.heap[g2]? = some (.cells #[.int .i64 (n8 k)] 3 fr) → Calls Try.prog 3 #[.slice none 0 0, .slice (some ⟨g2, 0, none⟩) 1 1, .int .i64 (n8 i), .int .i64 1] W fun e w' => e = .returned (.bool true) ∧ Below W.heap.size W w' := fun W g2 fr _ h2 =>
                tells_any none (some ⟨g2, 0, none⟩) 0 0 1 1 (fun _ => 0) (fun _ => n8 k) _ _ W (fun _ => rfl) (by omega) (fun e => by cases e) (by omega) (by omega) (by omega) ⟨fun _ => (by show 0 < 256; omega), .inl rfl⟩
                  (.inr ⟨_, _, rfl, fun j hj => by
                    rw [cell_of_row _ _ _ _ _ _ h2]
                    match j, hj with
                    | 0, _ => rfl⟩)
              have HX := hide (And.intro hBx (And.intro hG8 hGl))
              have HC := hide (And.intro hci (And.intro c1 c2))
              clear hBx hG8 hG8' hci c1 c2
              obtain ⟨n0, hn0⟩ : ∃ n0, n0 = wr.heap.size := ⟨_, rfl⟩
              have HN := hide hn0
              clear hn0
              go_wp2_with fail
              refine small21 n0 G i k (n8 i) (n8 k) _ _ _ rfl rfl rfl rfl HN.out hh (by rw [HN.out]; exact HC.out.1 i hh.out.1) (by rw [HN.out]; exact HC.out.1 k hh.out.2) (by rw [HN.out]; exact HC.out.2.1) (by rw [HN.out]; exact HC.out.2.2) ?_
              intro vs w4 hM4 hv4
              simp only [List.foldl_cons, List.foldl_nil, List.setIfInBounds_toArray, List.set_cons_succ, List.set_cons_zero]
              rw [hv4]
              generalize vs 52 = z52
              generalize vs 53 = z53
              generalize vs 54 = z54
              generalize vs 55 = z55
              generalize vs 56 = z56
              generalize vs 57 = z57
              generalize vs 58 = z58
              generalize vs 59 = z59
              generalize vs 60 = z60
              generalize vs 61 = z61
              generalize vs 62 = z62
              generalize vs 63 = z63
              generalize vs 64 = z64
              generalize vs 65 = z65
              generalize vs 66 = z66
              generalize vs 67 = z67
              generalize vs 68 = z68
              generalize vs 69 = z69
              generalize vs 70 = z70
              generalize vs 71 = z71
              generalize vs 72 = z72
              generalize vs 73 = z73
              generalize vs 74 = z74
              generalize vs 75 = z75
              generalize vs 76 = z76
              generalize vs 77 = z77
              generalize vs 78 = z78
              generalize vs 79 = z79
              generalize vs 80 = z80
              generalize vs 81 = z81
              generalize vs 82 = z82
              generalize vs 83 = z83
              generalize vs 84 = z84
              rw [HN.out] at hM4
              have HX4 := hide (And.intro (HX.out.1.trans (hM4.below.mono HX.out.1.size)) ((hM4.block G HX.out.2.2).trans HX.out.2.1))
              clear hM4 hv4 HX HC
              go_wp2_with fail
              go_roundg g3
              case measure => omega
              case rel => exact ⟨k + 1, by omega, by go_num, HX4.out.1, HX4.out.2⟩
    | succ g =>
      have hn1 : (n : Int) < 4096 := by omega
      have hn0 : (0 : Int) ≤ (n : Int) := by omega
      have HB := hide hB
      clear hB
      go_wp2_with fail
      go_loopg [2, 3] (dg n) (fun q s2 s3 wx => ∃ (k : Nat) (L : List Nat) (A : Option Addr) (C : Nat), dg k = q ∧ s3 = .int .i64 k ∧ s2 = .slice A L.length C ∧ wx.ownsRow w.heap.size 5 1 (.slice A L.length C) L.length (lc L) ∧ (∀ b ∈ L, b < 256) ∧ L.length + k ≤ 4096 ∧ Below w.heap.size w wx)
      case atStart => exact ⟨n, [], none, 0, rfl, rfl, rfl, World.ownsRow_nil _ _ _ _, fun b hb => by (cases hb), by simp; omega, HB.out⟩
      case round =>
        obtain ⟨k, L, A, C, hq, rfl, rfl, hown, hL, hLk, hBx⟩ := hrel
        cases gk with
        | zero =>
          obtain rfl := dg_eq0 hq
          obtain ⟨_, a', c', e', hac2, _, hac1, _, hbl, _⟩ := owns_bl hown hL
          simp only [Value.slice.injEq, true_and] at e'
          obtain ⟨rfl, rfl⟩ := e'
          have hac : (A = none → C = 0) ∧ L.length ≤ C := ⟨hac1, hac2⟩
          have HO := hide (And.intro hac (And.intro hbl hBx))
          have hll : L.length ≤ 4096 := by omega
          clear hown hL hLk hBx hac hac1 hac2 hbl
          go_wp2_with fail
          go_loopg [4] (L.length + 3) (fun q s4 wx => ∃ (t : Nat) (z : Int), t + q = L.length + 3 ∧ z + 1 = (t : Int) ∧ s4 = .int .i64 z ∧ Below w.heap.size w wx ∧ BL wx A L)
          case atStart => exact ⟨0, -1, by omega, by omega, rfl, HO.out.2.2, HO.out.2.1⟩
          case round =>
            obtain ⟨t, z, htq, hz, rfl, hBx, hbl⟩ := hrel
            cases gk with
            | zero =>
              have hz1 : ¬ (z < (L.length : Int) + 2) := by omega
              have hz2 : z = (L.length : Int) + 2 := by omega
              have HBX := hide hBx
              clear hBx hbl hz htq HO
              subst hz2
              go_wp2_with fail
              go_roundg g
              case measure => omega
              case rel => exact ⟨n + 1, by omega, by go_num, HBX.out⟩
            | succ g3 =>
              have hz1 : z < (L.length : Int) + 2 := by omega
              have hz2 : -1 ≤ z := by omega
              obtain ⟨W1, hW1⟩ : ∃ W1, wr.alloc (.cells #[.int .i64 0, .int .i64 z, .int .i64 2, .int .i64 1, .int .i64 (-1)] 3) = W1 := ⟨_, rfl⟩
              have hn1 : W1.heap[wr.heap.size]? = some (.cells #[.int .i64 0, .int .i64 z, .int .i64 2, .int .i64 1, .int .i64 (-1)] 3 (0, 0)) := by rw [← hW1]; exact heap_alloc_new _ _
              have hb1 : Below wr.heap.size wr W1 := by rw [← hW1]; exact below_alloc _ _
              have hints : Ints W1 (some ⟨wr.heap.size, 0, none⟩) 5 (fun i => ([0, z, 2, 1, -1] : List Int).getD i 0) := .inr ⟨_, _, rfl, fun i hi => by
                rw [cell_of_row _ _ _ _ _ _ hn1]
                match i, hi with
                | 0, _ => rfl
                | 1, _ => rfl
                | 2, _ => rfl
                | 3, _ => rfl
                | 4, _ => rfl⟩
              have hte := tells_any A (some ⟨wr.heap.size, 0, none⟩) L.length C 5 5 (fun i => L.getD i 0) _ z z W1 HO.out.1.1 HO.out.1.2 (fun e => by cases e) (by omega) (by omega) (by omega) (hbl.below hb1) hints
              have HX := hide (And.intro hBx (And.intro hbl hb1))
              clear hBx hbl hb1 hn1 hints HO
              go_wp2_with fail
              refine hte.mono ?_
              rintro e w2 ⟨rfl, hB2⟩
              obtain ⟨hBx, hbl, hb1⟩ := HX.out
              have hb12 : Below wr.heap.size wr w2 := hb1.trans (hB2.mono hb1.size)
              have HX2 := hide (And.intro (hBx.trans (hb12.mono hBx.size)) (hbl.below hb12))
              obtain ⟨z', hz'⟩ : ∃ z' : Int, z + 1 = z' := ⟨_, rfl⟩
              clear hte hBx hbl hb1 hb12 hB2 hW1 HX
              go_wp2_with fail
              go_roundg g3
              case measure => omega
              case rel => exact ⟨t + 1, z', by omega, by omega, by go_num, HX2.out.1, HX2.out.2⟩
        | succ g2 =>
          have hk0 : k ≠ 0 := fun h => by rw [h, dg_zero] at hq; omega
          have hk1 : (0 : Int) < (k : Int) := by omega
          have hdg : dg (k / 4) = g2 := by rw [dg_pos hk0] at hq; omega
          obtain ⟨r, hr⟩ : ∃ r, k % 4 = r := ⟨_, rfl⟩
          have hr4 : r < 4 := by omega
          have hmod : Int.tmod (k : Int) 4 = (r : Int) := by rw [Int.tmod_eq_emod_of_nonneg (by omega)]; omega
          obtain ⟨k2, hk2⟩ : ∃ k2, k / 4 = k2 := ⟨_, rfl⟩
          have hdiv : (k : Int) / 4 = (k2 : Int) := by omega
          have hc := b4_cell wr r hr4
          have hx := b4_lt r hr4
          have hLk2 : L.length + 1 + k2 ≤ 4096 := by omega
          rw [hk2] at hdg
          have hk2b : (k2 : Int) ≤ 4096 := by omega
          have hk20 : (0 : Int) ≤ (k2 : Int) := by omega
          have hll : L.length ≤ 4095 := by omega
          generalize b4 r = x at hc hx
          have hbx := hBx.size
          have hrA := owns_thru (owns_thru hown (below_alloc wr (.cells #[.int .u8 97, .int .u8 10, .int .u8 13, .int .u8 98] 5))) (below_alloc _ (.cells #[.int .u8 (x : Nat)] 5))
          have hnew := cell_one_new (wr.alloc (.cells #[.int .u8 97, .int .u8 10, .int .u8 13, .int .u8 98] 5)) (.int .u8 (x : Nat)) 5
          rw [World.size_alloc] at hnew
          have HH := hide (And.intro hown (And.intro hL (And.intro hLk2 (And.intro hBx (And.intro hdg hx)))))
          clear hown hL hLk2 hBx hdg hq hk2 hr hLk hk0
          go_wp2_with (at_builtin; go_must (refine wpList_append_foot _ rfl (.tmp 17) (.tmp 23) 22 rfl 5 i0 (.int .u8 0) 1 Try.underlying22 hi hq0 hq1 hq2 rfl w.heap.size _ L.length (lc L) rfl hrA (some ⟨wr.heap.size + 1, 0, none⟩) 1 1 [.int .u8 (x : Nat)] rfl rfl (fun e => by cases e) (fun ad e => by cases e; exact hnew) (by simp [Value.oneCell']) (by unfold maxLen; omega) (by omega) (by simp; omega) ?_); intro A' C' w1 hown' hG')
          have hG2 : Grew ((wr.alloc (.cells #[.int .u8 97, .int .u8 10, .int .u8 13, .int .u8 98] 5)).alloc (.cells #[.int .u8 (x : Nat)] 5)) w1 (.slice A L.length C) (.slice A' (L.length + 1) C') := hG'
          have hb2 : Below w.heap.size ((wr.alloc (.cells #[.int .u8 97, .int .u8 10, .int .u8 13, .int .u8 98] 5)).alloc (.cells #[.int .u8 (x : Nat)] 5)) w1 := (hG2.kept (F := fun y => (Value.slice A L.length C).ownBlock = some y) (fun _ h => h)).below (fun y hy => (owns_cells HH.out.1 y hy).2.1) (by simp; omega)
          have hb3 : Below w.heap.size w w1 := (below_step (below_step HH.out.2.2.2.1 _) _).trans hb2
          clear hG' hG2 hb2
          go_roundg g2
          case measure => omega
          case rel =>
            obtain ⟨_, hL, hLk2, _, hdg, hx⟩ := HH.out
            refine ⟨k2, L ++ [x], A', C', hdg, by go_num, by rw [List.length_append]; rfl, ?_, fun b hb => ?_, by rw [List.length_append]; exact hLk2, hb3⟩
            · rw [List.length_append, lc_append]; exact hown'
            · rcases List.mem_append.1 hb with h | h
              · exact hL b h
              · simp only [List.mem_singleton] at h; rw [h]; exact hx
end Go.Proofs.Yteanibapabafnaa
