/-
  FrameEnds's walk.
-/
import Derived.Test.YtlmjplpledilhaaGreatFEndsA
namespace Go.Proofs.YtlmjplpledilhaaGreat
open Go.RowKit
set_option linter.unusedVariables false
set_option linter.unusedSimpArgs false

theorem P3.few {w : World} {g : Nat} {P : Nat → Prt} (h : P3 w g P) (k : Nat) (hk : k ≤ 3) : Prts w (some ⟨g, 0, none⟩) k P ∧ (∀ i, i < k → (P i).B.length ≤ 200) ∧ sizeB (pts P k) ≤ 70008 := by
  refine ⟨?_, fun i hi => h.2 i (by omega), (sizeB_cnt ?_).2⟩
  · rcases h.1 with h | ⟨b, off, e, hc⟩
    · exact absurd h (by decide)
    · exact .inr ⟨b, off, e, fun i hi => hc i (by omega)⟩
  · have h0 := h.2 0 (by omega)
    have h1 := h.2 1 (by omega)
    have h2 := h.2 2 (by omega)
    have h3 := cntP_mono P hk
    have h4 : cntP P 3 = 0 + 1 + (P 0).B.length + 1 + (P 1).B.length + 1 + (P 2).B.length := rfl
    omega
def sevP (g : Nat) : Nat → Prt := fun _ => ⟨7, [9], some ⟨g, 0, none⟩, 1⟩
theorem pts_sev (g : Nat) : pts (sevP g) 1 = [(7, [9])] := by simp [pts, sevP, pt, List.range_succ]
theorem size_sev : sizeB [((7, [9]) : PT)] = 11 := by unfold sizeB; simp [bodyB, partB, headP, encN_lo (show 1 < 128 by omega)]
theorem ok_sev : ∀ p ∈ [((7, [9]) : PT)], okPart p := by
  have := ok_ab
  intro p hp
  simp only [List.mem_singleton] at hp
  subst hp
  refine ⟨?_, ?_⟩ <;> simp [maxNum]
theorem tdivN (c d : Nat) (hd : 0 < d) : Int.tdiv (c : Int) (d : Int) = ((c / d : Nat) : Int) := by
  rw [Int.tdiv_eq_ediv_of_nonneg (by omega)]; exact (Int.natCast_ediv c d).symm

set_option maxRecDepth 100000 in
set_option maxHeartbeats 4000000 in
theorem fends_walk (w : World) :
    Calls Tryz.prog 5 #[] w fun e w' => e = .returned (.bool true) ∧ Below w.heap.size w w' := by
  go_enter Tryz.func5, Tryz.ntmps5
  go_wp2_with fail
  go_loopg [1] 60 (fun q s1 wr => ∃ k : Nat, k + q = 60 ∧ s1 = .int .i64 (k : Nat) ∧ Below w.heap.size w wr)
  case atStart => exact ⟨0, by omega, rfl, Below.refl _ _⟩
  case round =>
    obtain ⟨n, hnq, rfl, hB⟩ := hrel
    have hs := hB.size
    cases gk with
    | zero =>
      obtain rfl : n = 60 := by omega
      obtain ⟨hS1, hown1⟩ := sb_lit wr [9] #[.int .u8 9] rfl (by intro b hb; simp only [List.mem_singleton] at hb; omega) (by simp)
      obtain ⟨W2, hW2⟩ : ∃ W2, wr.alloc (.cells #[.int .u8 9] 5) = W2 := ⟨_, rfl⟩
      have hB2 : Below wr.heap.size wr W2 := by rw [← hW2]; exact below_alloc _ _
      have hs2 : W2.heap.size = wr.heap.size + 1 := by rw [← hW2]; simp
      rw [hW2] at hS1
      obtain ⟨W3, hW3⟩ : ∃ W3, W2.alloc (.cells #[.int .u8 7, .slice (some ⟨wr.heap.size, 0, none⟩) 1 1] 45) = W3 := ⟨_, rfl⟩
      have hB3 : Below W2.heap.size W2 W3 := by rw [← hW3]; exact below_alloc _ _
      have hn3 : W3.heap[W2.heap.size]? = some (.cells #[.int .u8 7, .slice (some ⟨wr.heap.size, 0, none⟩) 1 1] 45 (0, 0)) := by rw [← hW3]; exact heap_alloc_new _ _
      have hPr : Prts W3 (some ⟨W2.heap.size, 0, none⟩) 1 (sevP wr.heap.size) := .inr ⟨W2.heap.size, 0, rfl, fun i hi => by
        obtain rfl : i = 0 := by omega
        exact ⟨⟨cell_of_row _ _ 0 _ _ _ hn3, cell_of_row _ _ 1 _ _ _ hn3⟩, (by decide : (7 : Nat) < 256), (by decide : 1 ≤ 1), (by decide : 1 ≤ 9223372036854775807), (fun e => by cases e), .inr ⟨_, _, rfl⟩, (hS1.below hB3).b⟩⟩
      have hp1 := refPut_any (some ⟨W2.heap.size, 0, none⟩) 1 1 (sevP wr.heap.size) W3 hPr (by omega) (by rw [pts_sev, size_sev]; omega)
      rw [pts_sev, size_sev] at hp1
      obtain ⟨L, hL⟩ : ∃ L, fileB [((7, [9]) : PT)] = L := ⟨_, rfl⟩
      have hLl : L.length = 11 := by rw [← hL, fileB_len, size_sev]
      have hlt := fileB_lt ok_sev
      rw [hL] at hp1 hlt
      have HL := hide (And.intro hLl hlt)
      have H3 := hide (hB.trans ((hB2.trans (hB3.mono hB2.size)).mono hs))
      clear hS1 hown1 hB2 hB3 hn3 hPr hL hLl hlt hB hs hs2
      go_wp2_with fail
      refine hp1.mono ?_
      rintro e w4 ⟨v4, rfl, ho4, hB4⟩
      clear hp1 hW3 hW2
      obtain ⟨hl4, A4, C4, rfl, hS4, _⟩ := SB.own ho4 HL.out.2
      rw [← hl4]
      have hB04 := H3.out.trans (hB4.mono H3.out.size)
      clear ho4 hl4 hB4 H3
      go_wp2_with fail
      go_loopg [8] 91 (fun q s8 wr => ∃ (k : Nat) (z : Int), k + q = 91 ∧ z + 1 = (k : Int) ∧ s8 = .int .i64 z ∧ Below w.heap.size w wr ∧ SB wr A4 C4 L)
      case atStart => exact ⟨0, -1, by omega, by omega, rfl, hB04, hS4⟩
      case round =>
        clear hB04 hS4
        obtain ⟨k, z, hkq, hz, rfl, hBc, hSc⟩ := hrel
        cases gk with
        | zero =>
          have hz1 : (90 : Int) ≤ z := by omega
          have hsd := sized_any wr
          clear hz
          go_wp2_with fail
          refine hsd.mono ?_
          rintro e w5 ⟨rfl, hB5⟩
          clear hsd
          have haw := awake_any w5
          have hB05 := hBc.trans (hB5.mono hBc.size)
          clear hB5 hBc
          go_wp2_with fail
          refine haw.mono ?_
          rintro e w6 ⟨rfl, hB6⟩
          clear haw
          go_wp2_with fail
          go_ret
          exact ⟨rfl, hB05.trans (hB6.mono hB05.size)⟩
        | succ g2 =>
          have hz1 : z < 90 := by omega
          have hz2 : -1 ≤ z := by omega
          have hzw : (Lit.int .i64 z).wf = true := wf64 (by omega) (by omega)
          have hbu := refBurst_any A4 C4 11 L z 2147483649 wr HL.out.1 hSc (by omega) hzw (by omega)
          obtain ⟨X, hX⟩ : ∃ X, burstL L z 2147483649 = X := ⟨_, rfl⟩
          have hXl : X.length = 11 := by rw [← hX, burstL_len]; exact HL.out.1
          have hXlt : ∀ b ∈ X, b < 256 := by rw [← hX]; exact burstL_lt HL.out.2 _ _
          rw [hX] at hbu
          have Hc := hide (And.intro hBc (And.intro hSc (And.intro hzw (And.intro hXl (And.intro hXlt (And.intro hz hkq))))))
          clear hBc hSc hzw hXl hXlt hX hz hkq
          go_wp2_with fail
          refine hbu.mono ?_
          rintro e w5 ⟨v5, rfl, ho5, hB5⟩
          clear hbu
          obtain ⟨hl5, A5, C5, rfl, hS5, _⟩ := SB.own ho5 Hc.out.2.2.2.2.1
          rw [← hl5]
          have hgt := gets_any A5 11 C5 X z 4294967295 w5 Hc.out.2.2.2.1 hS5 Hc.out.2.2.1 (by omega)
          have H5 := hide (And.intro (Hc.out.1.trans (hB5.mono Hc.out.1.size)) (Hc.out.2.1.below hB5))
          clear ho5 hl5 hS5 hB5
          go_wp2_with fail
          refine hgt.mono ?_
          rintro e w6 ⟨rfl, hB6⟩
          clear hgt
          have hB06 := H5.out.1.trans (hB6.mono H5.out.1.size)
          have hS6 := H5.out.2.below hB6
          clear hB6
          obtain ⟨z', hz'⟩ : ∃ z' : Int, z + 1 = z' := ⟨_, rfl⟩
          go_wp2_with fail
          go_roundg g2
          case measure => omega
          case rel => exact ⟨k + 1, z', by have := Hc.out.2.2.2.2.2.2; omega, by have := Hc.out.2.2.2.2.2.1; omega, by go_num, hB06, hS6⟩
    | succ g =>
      have hn0 : (0 : Int) ≤ (n : Int) := by omega
      have hn1 : (n : Int) < 60 := by omega
      obtain ⟨r3, r4, q4, m, q12, kk, hh⟩ : ∃ r3 r4 q4 m q12 kk : Nat, Hid (n < 60 ∧ n % 3 = r3 ∧ n % 4 = r4 ∧ n / 4 = q4 ∧ 120 + q4 = m ∧ n / 12 = q12 ∧ q12 % 4 = kk) := ⟨_, _, _, _, _, _, hide ⟨by omega, rfl, rfl, rfl, rfl, rfl, rfl⟩⟩
      go_wp2_with fail
      refine endsR n r3 r4 q4 m q12 kk _ _ _ rfl rfl hh ?_
      intro vs w4 hB4 ⟨g4, P, hv4, hP4⟩
      simp only [List.foldl_cons, List.foldl_nil, List.setIfInBounds_toArray, List.set_cons_succ, List.set_cons_zero]
      rw [hv4]
      generalize vs 13 = z13
      generalize vs 14 = z14
      generalize vs 15 = z15
      generalize vs 16 = z16
      generalize vs 17 = z17
      generalize vs 18 = z18
      generalize vs 19 = z19
      generalize vs 20 = z20
      generalize vs 21 = z21
      generalize vs 22 = z22
      generalize vs 23 = z23
      generalize vs 24 = z24
      generalize vs 25 = z25
      generalize vs 26 = z26
      generalize vs 27 = z27
      generalize vs 28 = z28
      generalize vs 29 = z29
      generalize vs 30 = z30
      generalize vs 31 = z31
      generalize vs 32 = z32
      generalize vs 33 = z33
      obtain ⟨hP, hPl, hsz⟩ := hP4.few kk (by have := hh.out; omega)
      have hok := pts_ok (k := kk) hP (by have := hh.out; omega) (Nat.le_refl _)
      have hlt := fileB_lt hok
      have hkk : kk ≤ 3 := by have := hh.out; omega
      have hrp := refPut_any (some ⟨g4, 0, none⟩) kk 3 P w4 hP (by omega) (by omega)
      obtain ⟨L, hL⟩ : ∃ L, fileB (pts P kk) = L := ⟨_, rfl⟩
      obtain ⟨s, hss⟩ : ∃ s, sizeB (pts P kk) = s := ⟨_, rfl⟩
      have hLs : L.length = s := by rw [← hL, fileB_len, hss]
      rw [hL] at hrp hlt
      rw [hss] at hrp hsz
      have hnw : (Lit.int .i64 (n : Int)).wf = true := wf64 (by omega) (by omega)
      have hnn : (Lit.int .i64 (-(n : Int))).wf = true := wf64 (by omega) (by omega)
      have HP := hide (And.intro hP (And.intro hPl (And.intro hLs (And.intro hlt (And.intro hsz (And.intro hnw hnn))))))
      have H4 := hide (hB.trans (hB4.mono hs))
      clear hP hPl hLs hlt hsz hok hB hB4 hP4 hv4 hL hss hh hs hnw hnn
      go_wp2_with fail
      refine hrp.mono ?_
      rintro e w5 ⟨v5, rfl, ho5, hB5⟩
      clear hrp
      obtain ⟨hl5, A5, C5, rfl, _, _⟩ := SB.own ho5 HP.out.2.2.2.1
      rw [← hl5] at ho5 ⊢
      have hpu := puts_any (some ⟨g4, 0, none⟩) kk 3 P w5 (HP.out.1.below hB5) (by omega) (fun i hi => by have := HP.out.2.1 i hi; omega)
      have h45 := hB5.size
      have H5 := hide (And.intro (H4.out.trans (hB5.mono H4.out.size)) ho5)
      clear ho5 hB5 hl5
      go_wp2_with fail
      refine hpu.mono ?_
      rintro e w6 ⟨rfl, hB6⟩
      clear hpu
      have ho6 := owns_thru H5.out.2 hB6
      obtain ⟨hl6, _, _, hv6, hS6, _⟩ := SB.own ho6 HP.out.2.2.2.1
      simp only [Value.slice.injEq] at hv6
      obtain ⟨rfl, hl6', rfl⟩ := hv6
      clear hl6 hl6'
      have hg6 := gets_any A5 s C5 L (n : Int) 1 w6 HP.out.2.2.1 hS6 HP.out.2.2.2.2.2.1 (by omega)
      have H6 := hide (And.intro (H5.out.1.trans (hB6.mono H5.out.1.size)) (And.intro ho6 (Nat.le_trans h45 hB6.size)))
      clear ho6 hS6 hB6
      go_wp2_with fail
      refine hg6.mono ?_
      rintro e w7 ⟨rfl, hB7⟩
      clear hg6
      have ho7 := owns_thru H6.out.2.1 hB7
      have hsz7 := HP.out.2.2.2.2.1
      have h57 : w4.heap.size ≤ w7.heap.size := Nat.le_trans H6.out.2.2 hB7.size
      obtain ⟨hS8, hown8⟩ := sb_lit w7 [0] #[.int .u8 0] rfl (by intro b hb; simp only [List.mem_singleton] at hb; omega) (by simp)
      have hb8 := below_alloc w7 (.cells #[.int .u8 0] 5)
      obtain ⟨W8, hW8⟩ : ∃ W8, w7.alloc (.cells #[.int .u8 0] 5) = W8 := ⟨_, rfl⟩
      rw [hW8] at hS8 hb8
      have ho8 := owns_thru ho7 hb8
      have hnews8 := owns_news (v := .slice (some ⟨w7.heap.size, 0, none⟩) 1 1) (hW8 ▸ hown8) rfl
      have hone8 := lc_one [0]
      have h48 : w4.heap.size ≤ W8.heap.size := Nat.le_trans h57 hb8.size
      obtain ⟨i0, hi, hq0, hq1, hq2⟩ := info_parts info_u8
      have H7 := hide (And.intro (H6.out.1.trans (hB7.mono H6.out.1.size)) (And.intro hb8 h57))
      clear hown8 hS8 hb8 hB7 h57 ho7
      go_wp2_with (at_builtin; go_must (refine wpList_append_keep_met _ (by rfl) (.tmp 49) (.tmp 50) 26 rfl 5 i0 (.int .u8 0) 1 Tryz.underlying26 hi hq0 hq1 hq2 rfl w4.heap.size (.slice A5 s C5) s (lc L) rfl ho8 ⟨w7.heap.size, 0, none⟩ 1 1 (lc [0]) rfl rfl (hnews8 _ rfl) hone8 (by unfold maxLen; omega) (by omega) h48 ?_); intro B1 D1 w9 hown9 hg9 ho9)
      rw [← lc_append] at hown9
      have hk9 := hg9.kept (F := fun k => w4.heap.size ≤ k) (fun g hg => (owns_cells ho8 g hg).2.1)
      obtain ⟨hl9, _, _, hv9, hS9, _⟩ := SB.own hown9 (fun b hb => (List.mem_append.1 hb).elim (HP.out.2.2.2.1 b) (fun h => by simp only [List.mem_singleton] at h; omega))
      simp only [Value.slice.injEq] at hv9
      obtain ⟨rfl, _, rfl⟩ := hv9
      have hg10 := gets_any B1 (s + 1) D1 (L ++ [0]) (-(n : Int)) 3 w9 hl9.symm hS9 HP.out.2.2.2.2.2.2 (by omega)
      have hB49 : Below w.heap.size w w9 := H7.out.1.trans (((Kept.of_below (F := fun k => w4.heap.size ≤ k) H7.out.2.1).trans hk9 (fun _ _ h => h)).below (fun _ h => Nat.le_trans H4.out.size h) H7.out.1.size)
      have H9 := hide (And.intro hB49 ho9)
      clear hown9 hg9 ho9 hk9 hl9 hS9 hB49 hi hq0 hq1 hq2 hnews8 hone8 h48 ho8 hsz7 h45
      refine hg10.mono ?_
      rintro e w10 ⟨rfl, hB10⟩
      clear hg10
      have ho10 := owns_thru H9.out.2 hB10
      obtain ⟨hl10, _, _, hv10, hS10, _⟩ := SB.own ho10 HP.out.2.2.2.1
      simp only [Value.slice.injEq] at hv10
      obtain ⟨rfl, hl10', rfl⟩ := hv10
      have hB010 := H9.out.1.trans (hB10.mono H9.out.1.size)
      clear hl10 hl10' ho10 hB10
      have hs0 : (0 : Int) ≤ (s : Int) := by omega
      go_wp2_with fail
      go_loopg [5] s (fun q s5 wr => ∃ c : Nat, q = s - c ∧ s5 = .int .i64 (c : Nat) ∧ Below w.heap.size w wr ∧ SB wr A5 C5 L)
      case atStart => exact ⟨0, by omega, rfl, hB010, hS10⟩
      case round =>
        obtain ⟨c, hcq, rfl, hBc, hSc⟩ := hrel
        have hc0 : (0 : Int) ≤ (c : Int) := by omega
        cases gk with
        | zero =>
          have hcs : (s : Int) ≤ (c : Int) := by omega
          go_wp2_with fail
          go_roundg g
          case measure => omega
          case rel => exact ⟨n + 1, by omega, by go_num, hBc⟩
        | succ g2 =>
          have hcs : (c : Int) < (s : Int) := by omega
          have hsz := HP.out.2.2.2.2.1
          obtain ⟨A6, _, s6, _, S6, _, _, _⟩ := hSc.cut c (by rw [HP.out.2.2.1]; omega)
          rw [HP.out.2.2.1] at s6
          have hcw : (Lit.int .i64 (c : Int)).wf = true := wf64 (by omega) (by omega)
          have hgc := gets_any A6 c C5 (L.take c) (c : Int) 2147483648 wr (by rw [List.length_take, HP.out.2.2.1]; omega) S6 hcw (by omega)
          have Hc := hide (And.intro hBc (And.intro hSc hcw))
          clear hBc hSc hcw S6
          go_wp2_with fail
          refine hgc.mono ?_
          rintro e w11 ⟨rfl, hB11⟩
          clear hgc s6
          have hSc1 := Hc.out.2.1.below hB11
          have hBc1 := Hc.out.1.trans (hB11.mono Hc.out.1.size)
          clear hB11
          obtain ⟨c1, c2, c3, h1, h2, h3, h4⟩ : ∃ c1 c2 c3 : Nat, (c : Int) + 1 = (c1 : Int) ∧ Int.tdiv (c : Int) 20 = (c2 : Int) ∧ (c1 : Int) + (c2 : Int) = (c3 : Int) ∧ Hid (c < c3 ∧ (c1 : Int) + (c2 : Int) = (c3 : Int) ∧ c2 ≤ 100000 ∧ c3 ≤ 200000) :=
            ⟨c + 1, c / 20, c + 1 + c / 20, by omega, tdivN c 20 (by omega), by omega, hide ⟨by omega, by omega, by omega, by omega⟩⟩
          go_wp2_with fail
          clear h1 h2 h3
          go_roundg (s - c3)
          case measure => have := h4.out.1; omega
          case rel => exact ⟨c3, rfl, by rw [w64s (c2 : Int) (by omega) (by have := h4.out.2.2.1; omega), h4.out.2.1, w64s (c3 : Int) (by omega) (by have := h4.out.2.2.2; omega)], hBc1, hSc1⟩
end Go.Proofs.YtlmjplpledilhaaGreat
