/-
  How much a manifest is; ManiBack's walk.
-/
import Derived.Test.YtppdbinppibjhaaGreatDoorMAwake
import Derived.Test.YtppdbinppibjhaaGreatDoorFBursts
import Derived.Test.YtppdbinppibjhaaGreatDoorFSafeM
import Derived.Test.YtppdbinppibjhaaGreatDoorSameB
namespace Go.Proofs.YtppdbinppibjhaaGreatDoor
open Go.RowKit Go.Shelf
set_option linter.unusedVariables false
set_option linter.unusedSimpArgs false

set_option maxHeartbeats 400000 in
theorem sameBytes_ne (a b : Option Addr) (n ca cb : Nat) (L M : List Nat) (w : World) (hL : L.length = n) (hM : M.length = n) (hn : n ≤ 9223372036854775807) (ha : BL w a L) (hb : BL w b M) (hLM : L ≠ M) :
    Calls Tryz.prog 14 #[.slice a n ca, .slice b n cb] w fun e w' => e = .returned (.bool false) ∧ Below w.heap.size w w' := by
  go_enter Tryz.func14, Tryz.ntmps14
  go_wp2
  go_loopg [5] n (fun q s5 wr => ∃ k : Nat, k + q = n ∧ s5 = .int .i64 k ∧ Below w.heap.size w wr ∧ ∀ i, i < k → L.getD i 0 = M.getD i 0)
  case atStart => exact ⟨0, by omega, rfl, Below.refl _ _, fun i hi => by omega⟩
  case round =>
    obtain ⟨k, hkq, rfl, hbr, heq⟩ := hrel
    cases gk with
    | zero =>
      refine absurd (List.ext_getElem? fun i => ?_) hLM
      by_cases hi : i < n
      · have := heq i (by omega)
        rw [List.getD_eq_getElem?_getD, List.getD_eq_getElem?_getD, List.getElem?_eq_getElem (by omega), List.getElem?_eq_getElem (by omega)] at this
        rw [List.getElem?_eq_getElem (by omega), List.getElem?_eq_getElem (by omega)]
        simpa using this
      · rw [List.getElem?_eq_none (by omega), List.getElem?_eq_none (by omega)]
    | succ q =>
      have hkz : (k : Int) < (n : Int) := by omega
      have hk0 : (0 : Int) ≤ (k : Int) := by omega
      obtain ⟨g1, o1, rfl, c1⟩ := ha.cell (by omega)
      obtain ⟨g2, o2, rfl, c2⟩ := hb.cell (by omega)
      have d1 := cell_thru (c1 k (by omega)) hbr
      have d2 := cell_thru (c2 k (by omega)) hbr
      have HE := hide heq
      clear c1 c2 ha hb hL hM heq
      obtain ⟨x, hx⟩ : ∃ x, L.getD k 0 = x := ⟨_, rfl⟩
      obtain ⟨y, hy⟩ : ∃ y, M.getD k 0 = y := ⟨_, rfl⟩
      rw [hx] at d1
      rw [hy] at d2
      have HX := hide (And.intro hx hy)
      clear hx hy
      by_cases hxy : x = y
      · subst hxy
        go_upto_region 6 with fail
        go_cut [25] (fun s wx => s = .bool false ∧ Below w.heap.size w wx)
        case first =>
          go_quiet (fail)
          all_goals
            go_wp2_with fail
            go_meet
            exact ⟨rfl, below_drewN hbr _⟩
        case rest =>
          obtain ⟨rfl, hbc⟩ := hcut
          go_wp2_with fail
          go_roundg q
          case measure => omega
          case rel => exact ⟨k + 1, by omega, by go_num, hbc, fun i hi => by
            by_cases h : i < k
            · exact HE.out i h
            · obtain rfl : i = k := by omega
              rw [HX.out.1, HX.out.2]⟩
      · have hne : ((x : Int) != (y : Int)) = true := by simp; omega
        go_upto_region 6 with fail
        go_cut [25] (fun s wx => s = .bool true ∧ Below w.heap.size w wx)
        case first =>
          go_quiet (fail)
          all_goals
            go_wp2_with fail
            go_meet
            exact ⟨rfl, below_drewN hbr _⟩
        case rest =>
          obtain ⟨rfl, hbc⟩ := hcut
          go_wp2_with fail
          go_ret
          exact ⟨rfl, hbc⟩

set_option maxRecDepth 100000 in
set_option maxHeartbeats 2000000 in
theorem manifestOf_any (G : Int) (a : Option Addr) (n cap : Nat) (P : Nat → Shd) (w : World) (hn : n ≤ 140737488351232) (hP : Shds w a n P) (hD : ∀ i, i < n → (P i).D.length ≤ 140737488351232) :
    Calls Tryz.prog 9 #[.agg #[.int .i64 G, .slice a n cap], .int .i64 3000] w fun e w' => ∃ r : Nat, e = .returned (.int .i64 (r : Nat)) ∧ Below w.heap.size w w' := by
  obtain ⟨W1, hW1⟩ : ∃ W1, w.alloc (.cells #[.int .i64 G, .slice a n cap] 24) = W1 := ⟨_, rfl⟩
  have hb1 : Below w.heap.size w W1 := by rw [← hW1]; exact below_alloc _ _
  have h1 : W1.heap[w.heap.size]? = some (.cells #[.int .i64 G, .slice a n cap] 24 (0, 0)) := by rw [← hW1]; exact heap_alloc_new _ _
  obtain ⟨m0, m1⟩ := cells2_at h1
  have hP1 := hP.below hb1
  have HW1 := hide hW1
  have HB := hide hb1
  clear hW1 hb1 h1 hP
  go_enter Tryz.func9, Tryz.ntmps9
  go_wp2_with fail
  rw [HW1.out]
  go_loopg [5, 6] n (fun q s5 s6 wr => ∃ k c : Nat, k + q = n ∧ s6 = .int .i64 k ∧ s5 = .int .i64 c ∧ c ≤ 140737488361300 ∧ wr = W1)
  case atStart => exact ⟨0, 1, by omega, rfl, rfl, by omega, rfl⟩
  case round =>
    obtain ⟨k, c, hkq, rfl, rfl, hcb, rfl⟩ := hrel
    cases gk with
    | zero =>
      obtain rfl : k = n := by omega
      clear hP1 hD
      go_wp2_with fail
      go_ret
      exact ⟨c, rfl, HB.out⟩
    | succ q =>
      have hkn : k < n := by omega
      have hkz : (k : Int) < (n : Int) := by omega
      have hk0 : (0 : Int) ≤ (k : Int) := by omega
      have hc0 : (0 : Int) ≤ (c : Int) := by omega
      by_cases hm : c ≤ 3000
      · have hmz : (c : Int) ≤ 3000 := by omega
        obtain ⟨ga, oa, rfl, ⟨x0, x1, x2, x3⟩, _⟩ := hP1.cells k hkn
        have hll := hD k hkn
        clear hP1 hD
        generalize (P k).D.length = b at *
        generalize (P k).cD = c1 at *
        generalize (P k).pD = p1 at *
        generalize (P k).N = N at *
        generalize (P k).Z = Z at *
        generalize (P k).S = S at *
        go_wp2_with fail
        go_roundg q
        case measure => omega
        case rel => exact ⟨k + 1, c + 1 + b, by omega, by go_num, by go_num, by omega, rfl⟩
      · have hmz : (3000 : Int) < (c : Int) := by omega
        clear hP1 hD
        go_wp2_with fail
        go_ret
        exact ⟨c, rfl, HB.out⟩

theorem burstM_lt {L : List Nat} (hL : ∀ b ∈ L, b < 256) (bit : Int) (m : Nat) : ∀ b ∈ burstL L bit m, b < 256 := by
  intro b hb
  unfold burstL at hb
  split at hb
  · exact hL b hb
  · simp only [tx, List.mem_map] at hb
    obtain ⟨i, _, rfl⟩ := hb
    refine turnN_lt _ _ _ (fun j => ?_) _ i
    rw [List.getD_eq_getElem?_getD]
    by_cases hj : j < L.length
    · rw [List.getElem?_eq_getElem hj]; exact hL _ (List.getElem_mem hj)
    · rw [List.getElem?_eq_none (by omega)]; simp
theorem getM_none {B : List Nat} (h : getFile B = none) : getM B = none := by
  unfold getM
  rw [h]
/-- What hurts a manifest's file. -/
theorem fileM_facts {m : MT} (hr : rightM m = true) (hS : ∀ s ∈ m.L, s.S < 4294967296) : 8 ≤ (fileM m).length ∧ wholeB (fileM m) = true ∧ getM (fileM m) = some m ∧ (∀ k, k < (fileM m).length → getM ((fileM m).take k) = none) ∧ (∀ M : List Nat, 0 < M.length → getM (fileM m ++ M) = none) := by
  obtain ⟨hl, _⟩ := fileM_ok hr hS
  have hsz : sizeB [(1, partM m)] ≤ maxDisk := by unfold fileM at hl; rw [fileB_len] at hl; unfold maxDisk; omega
  refine ⟨?_, wholeB_put _ hsz, getM_put hr hS, fun k hk => getM_none ?_, fun M h => getM_none ?_⟩
  · unfold fileM; rw [fileB_len]; unfold sizeB; omega
  · unfold fileM at hk ⊢
    rw [fileB_len] at hk
    exact getFile_cut _ k hsz hk
  · exact getFile_more _ M hsz h

theorem fileM_len {m : MT} (h : rightM m = true) (hS : ∀ s ∈ m.L, s.S < 4294967296) : (fileM m).length ≤ 970000 := by
  have hp := partM_len h hS
  unfold fileM
  rw [fileB_len]
  simp only [sizeB, bodyB, List.length_append, List.length_nil, partB, headP, List.length_cons]
  have := encN_len6 (n := (partM m).length) (by unfold maxNum; omega)
  omega
set_option maxRecDepth 100000 in
set_option maxHeartbeats 20000000 in
theorem back_walk (G : Int) (a : Option Addr) (n cap : Nat) (P : Nat → Shd) (bit cut : Int) (m : Nat) (am : Option Addr) (lm cm : Nat) (M : List Nat) (w : World) (hn : n ≤ 140737488351232) (hG : (Lit.int .i64 G).wf = true) (hP : Shds w a n P) (hD : ∀ i, i < n → (P i).D.length ≤ 140737488351232)
    (hbit : (Lit.int .i64 bit).wf = true) (hcut : (Lit.int .i64 cut).wf = true) (hm : m < 4294967296) (hM : M.length = lm) (hS : SB w am cm M) :
    Calls Tryz.prog 7 #[.agg #[.int .i64 G, .slice a n cap], .int .i64 bit, .int .u32 (m : Nat), .int .i64 cut, .slice am lm cm] w fun e w' => e = .returned (.bool true) ∧ Below w.heap.size w w' := by
  obtain ⟨W0, hW0⟩ : ∃ W0, w.alloc (.cells #[.int .i64 G, .slice a n cap] 24) = W0 := ⟨_, rfl⟩
  have hb0 : Below w.heap.size w W0 := by rw [← hW0]; exact below_alloc _ _
  have h0 : W0.heap[w.heap.size]? = some (.cells #[.int .i64 G, .slice a n cap] 24 (0, 0)) := by rw [← hW0]; exact heap_alloc_new _ _
  have hc0 := cells2_at h0
  have haw := awake25_any W0
  have HP := hide (And.intro hM (And.intro hS (And.intro hbit (And.intro hcut (And.intro hm (And.intro hn (And.intro hG hD)))))))
  have H0 := hide (And.intro hb0 (And.intro (hP.below hb0) hc0))
  have HW0 := hide hW0
  clear hP hn hG hD hM hS hbit hcut hm hW0 hb0 h0 hc0
  go_enter Tryz.func7, Tryz.ntmps7
  go_wp2_with fail
  rw [HW0.out]
  refine haw.mono ?_
  rintro e w1 ⟨rfl, hB1⟩
  have hP1 := H0.out.2.1.below hB1
  have hm0 := cell_thru H0.out.2.2.1 hB1
  have hm1 := cell_thru H0.out.2.2.2 hB1
  have hof := manifestOf_any G a n cap P w1 HP.out.2.2.2.2.2.1 hP1 HP.out.2.2.2.2.2.2.2
  have H1 := hide (And.intro (below_thru H0.out.1 hB1) (And.intro hP1 (And.intro hm0 hm1)))
  clear haw hB1 hP1 H0
  go_wp2_with fail
  refine hof.mono ?_
  rintro e w2 ⟨r, rfl, hB2⟩
  clear hm0 hm1
  by_cases hrm : 3000 < r
  · have hrz : (3000 : Int) < (r : Int) := by omega
    clear hof
    go_wp2_with fail
    go_ret
    exact ⟨rfl, below_thru H1.out.1 hB2⟩
  have hrz : (r : Int) ≤ 3000 := by omega
  by_cases hlm : 3000 < lm
  · have hlz : (3000 : Int) < (lm : Int) := by omega
    clear hof
    go_wp2_with fail
    go_ret
    exact ⟨rfl, below_thru H1.out.1 hB2⟩
  have hlz : (lm : Int) ≤ 3000 := by omega
  have hP2 := H1.out.2.1.below hB2
  have hm0 := cell_thru H1.out.2.2.1 hB2
  have hm1 := cell_thru H1.out.2.2.2 hB2
  have hpt := mput_any G a n cap P w2 (by have := HP.out.2.2.2.2.2.1; omega) HP.out.2.2.2.2.2.2.1 hP2 (fun i hi => by have := HP.out.2.2.2.2.2.2.2 i hi; omega)
  have hSt := stsN_S hP2
  have H2 := hide (And.intro (below_thru H1.out.1 hB2) (And.intro hP2 (And.intro hm0 hm1)))
  have hmr : ∀ W, Below w2.heap.size w2 W → Calls Tryz.prog 15 #[.agg #[.int .i64 G, .slice a n cap]] W fun e w' => e = .returned (.bool (rightM ⟨G, stsN P n⟩)) ∧ Below W.heap.size W w' :=
    fun W hW => mright_any G a n cap P W (by have := HP.out.2.2.2.2.2.1; omega) HP.out.2.2.2.2.2.2.1 (H2.out.2.1.below hW) (fun i hi => by have := HP.out.2.2.2.2.2.2.2 i hi; omega)
  clear hof hB2 hP2 H1
  obtain ⟨mm, hmm⟩ : ∃ mm : MT, mm = ⟨G, stsN P n⟩ := ⟨_, rfl⟩
  have hmG : mm.G = G := by rw [hmm]
  have hmL : mm.L = stsN P n := by rw [hmm]
  have hmn : mm.L.length = n := by rw [hmL, stsN_length]
  have hSt' : ∀ s ∈ mm.L, s.S < 4294967296 := by rw [hmL]; exact hSt
  rw [← hmm] at hpt hmr
  clear hSt
  by_cases hrt : rightM mm = true
  rotate_left
  · simp only [hrt, if_false] at hpt
    have hrf : rightM mm = false := by simpa using hrt
    rw [hrf] at hmr
    clear hmm hmG hmL hmn hSt' hrt hrf
    go_wp2_with fail
    refine hpt.mono ?_
    rintro e w3 ⟨rfl, hB3⟩
    have hmr3 := hmr w3 hB3
    have hy0 := cell_thru H2.out.2.2.1 hB3
    have hy1 := cell_thru H2.out.2.2.2 hB3
    have H3 := hide (below_thru H2.out.1 hB3)
    clear hpt hmr hB3 hm0 hm1
    go_wp2_with fail
    refine hmr3.mono ?_
    rintro e w4 ⟨rfl, hB4⟩
    have H4 := hide (below_thru H3.out hB4)
    clear hmr3 hB4 hy0 hy1
    go_wp2_with fail
    go_ret
    exact ⟨rfl, H4.out⟩
  simp only [hrt, if_true] at hpt
  rw [hrt] at hmr
  obtain ⟨_, hf8⟩ := fileM_ok hrt hSt'
  have hfl' := fileM_len hrt hSt'
  obtain ⟨hs8, hwh, hgp, hgc, hgm⟩ := fileM_facts hrt hSt'
  obtain ⟨L, hL⟩ : ∃ L, fileM mm = L := ⟨_, rfl⟩
  obtain ⟨s, hs⟩ : ∃ s, L.length = s := ⟨_, rfl⟩
  rw [hL] at hpt hfl' hf8 hs8 hwh hgp hgc hgm
  rw [hs] at hpt hfl' hs8 hgc
  have hfl : s ≤ 1000000 := by omega
  have HM := hide (And.intro hs (And.intro hf8 (And.intro hwh (And.intro hgp (And.intro hgc hgm)))))
  have HQ := hide (And.intro hmG (And.intro hmL hmn))
  clear hmm hmG hmL hmn hSt' hrt hf8 hwh hgp hgc hgm hL hs
  go_wp2_with fail
  refine hpt.mono ?_
  rintro e w3 ⟨⟨v3, rfl, ho3⟩, hB3⟩
  obtain ⟨hl3, A2, C2, rfl, hS3, _⟩ := SB.own ho3 HM.out.2.1
  rw [← hl3]
  have hmr3 := hmr w3 hB3
  have hy0 := cell_thru H2.out.2.2.1 hB3
  have hy1 := cell_thru H2.out.2.2.2 hB3
  have H3 := hide (And.intro (below_thru H2.out.1 hB3) (And.intro (H2.out.2.1.below hB3) (And.intro (And.intro hy0 hy1) hS3)))
  clear hpt hmr hB3 hm0 hm1 ho3 hl3 hS3 H2
  go_wp2_with fail
  refine hmr3.mono ?_
  rintro e w4 ⟨rfl, hB4⟩
  have hg4 := mget_any A2 C2 s L w4 HM.out.1.symm (H3.out.2.2.2.below hB4) hfl
  rw [HM.out.2.2.2.1] at hg4
  have H4 := hide (And.intro (below_thru H3.out.1 hB4) (And.intro (H3.out.2.1.below hB4) (And.intro (And.intro (cell_thru hy0 hB4) (cell_thru hy1 hB4)) (H3.out.2.2.2.below hB4))))
  clear hmr3 hB4 hy0 hy1 H3
  go_wp2_with fail
  refine hg4.mono ?_
  rintro e w5 ⟨hg5, hB5⟩
  obtain ⟨A5, C5, Q5, rfl, hQ5, hq5, _, _, _, _⟩ := hg5.some'
  rw [HQ.out.2.2] at hQ5 hq5 ⊢
  rw [HQ.out.1]
  obtain ⟨W6, hW6⟩ : ∃ W6, w5.alloc (.cells #[.int .i64 G, .slice A5 n C5] 24) = W6 := ⟨_, rfl⟩
  have hb6 : Below w5.heap.size w5 W6 := by rw [← hW6]; exact below_alloc _ _
  have h6 : W6.heap[w5.heap.size]? = some (.cells #[.int .i64 G, .slice A5 n C5] 24 (0, 0)) := by rw [← hW6]; exact heap_alloc_new _ _
  have hb56 := below_thru hB5 hb6
  have hsm := sameMani_any G a A5 n cap C5 P Q5 W6 (by have := HP.out.2.2.2.2.2.1; omega) (H4.out.2.1.below hb56) (hQ5.below hb6) (fun i hi => by have := HP.out.2.2.2.2.2.2.2 i hi; omega) (fun i hi => stsN_eq (by rw [hq5, HQ.out.2.1]) i hi)
  have hx0 := cell_thru H4.out.2.2.1.1 hb56
  have hx1 := cell_thru H4.out.2.2.1.2 hb56
  obtain ⟨hz0, hz1⟩ := cells2_at h6
  rw [← hW6] at hx0 hx1 hz0 hz1
  have HW6 := hide hW6
  have H6 := hide (And.intro (below_thru H4.out.1 hb56) (H4.out.2.2.2.below hb56))
  clear hg4 hg5 hB5 hQ5 hq5 hW6 hb6 h6 hb56 H4
  go_wp2_with fail
  rw [HW6.out]
  refine hsm.mono ?_
  rintro e w7 ⟨rfl, hB7⟩
  have hbu := fburst_any A2 C2 s L bit m w7 HM.out.1 (H6.out.2.below hB7) hfl HP.out.2.2.1 HP.out.2.2.2.2.1
  obtain ⟨X, hX⟩ : ∃ X, burstL L bit m = X := ⟨_, rfl⟩
  have hXl : X.length = s := by rw [← hX, burstL_len, HM.out.1]
  have hXb : X ≠ L → getM X = none := fun h => by rw [← hX]; exact getM_none (getFile_burst HM.out.2.1 HM.out.2.2.1 bit m (by rw [hX]; exact h))
  have hXlt : ∀ b ∈ X, b < 256 := by rw [← hX]; exact burstM_lt HM.out.2.1 bit m
  rw [hX] at hbu
  have H7 := hide (And.intro (below_thru H6.out.1 hB7) (H6.out.2.below hB7))
  clear hsm hB7 hx0 hx1 hz0 hz1 H6 hX
  go_wp2_with fail
  refine hbu.mono ?_
  rintro e w8 ⟨v8, rfl, ho8, hB8⟩
  obtain ⟨hl8, A8, C8, rfl, hS8, _⟩ := SB.own ho8 hXlt
  rw [← hl8]
  have hg8 := mget_any A8 C8 s X w8 hl8 hS8 hfl
  have H8 := hide (And.intro (below_thru H7.out.1 hB8) (And.intro (H7.out.2.below hB8) hS8))
  have hpl := pickN_lt cut s (by omega)
  obtain ⟨c, hc⟩ : ∃ c, pickN cut s = c := ⟨_, rfl⟩
  rw [hc] at hpl
  have hcP : ∀ w', Calls Tryz.prog 35 #[.int .i64 cut, .int .i64 (s : Nat)] w' fun e w'' => e = .returned (.int .i64 (c : Nat)) ∧ w' = w'' := fun w' => by
    rw [← hc]; exact pick_any cut s w' HP.out.2.2.2.1 (by omega) (by omega)
  have hgm0 : ∀ h : lm = 0, getM (L ++ M) = some mm := fun h => by
    have : M = [] := List.eq_nil_of_length_eq_zero (by rw [HP.out.1, h])
    rw [this, List.append_nil]; exact HM.out.2.2.2.1
  have HM2 := hide (And.intro (HM.out.2.2.2.2.1 c) (And.intro (fun h : 0 < lm => HM.out.2.2.2.2.2 M (by rw [HP.out.1]; exact h)) hgm0))
  obtain ⟨i0, hi, hq0, hq1, hq2⟩ := info_parts info_u8
  clear hbu ho8 hB8 hl8 hS8 H7 hXlt hc hgm0
  by_cases hXL : X = L
  · have hgx := HM.out.2.2.2.1
    rw [hXL] at hg8
    rw [hgx] at hg8
    have HXL := hide hXL
    clear hXb hgx hXL
    go_wp2_with fail
    refine hg8.mono ?_
    rintro e w9 ⟨hg9, hB9⟩
    obtain ⟨A9, C9, Q9, rfl, _⟩ := hg9.some'
    have hb10 := hB9.alloc hB9.size (.cells #[.int .i64 mm.G, .slice A9 mm.L.length C9] 24)
    have hsb := sameBytes_any A8 A2 s C8 C2 L _ HM.out.1 (by omega) (by rw [← HXL.out]; exact (H8.out.2.2.below hb10).b) (H8.out.2.1.below hb10).b
    have H10 := hide (And.intro (below_thru H8.out.1 hb10) (H8.out.2.1.below hb10))
    clear hg8 hg9 hB9 hb10 H8
    go_wp2_with fail
    refine hsb.mono ?_
    rintro e w7 ⟨rfl, hB7⟩
    have H7 := hide (And.intro (below_thru H10.out.1 hB7) (H10.out.2.below hB7))
    clear hsb hB7 H10
    have hpk := hcP w7
    clear hcP
    go_wp2_with fail
    refine hpk.mono ?_
    rintro e w7' ⟨rfl, rfl⟩
    obtain ⟨A8, A8', s8, s8', S8, _, _, _⟩ := H7.out.2.cut c (by rw [HM.out.1]; omega)
    rw [HM.out.1] at s8
    have hg8 := mget_any A8 C2 c (L.take c) w7 (by rw [List.length_take, HM.out.1]; omega) S8 (by omega)
    rw [HM2.out.1 hpl] at hg8
    have hcs : (c : Int) ≤ (s : Int) := by omega
    have hc0 : (0 : Int) ≤ (c : Int) := by omega
    have HK := hide hpl
    clear hpk s8' S8 hpl
    go_wp2_with fail
    refine hg8.mono ?_
    rintro e w8 ⟨hg8', hB8⟩
    obtain rfl := (show e = .returned (.tuple #[.agg #[.int .i64 0, .slice none 0 0], .int .i64 9]) from hg8')
    obtain ⟨W9, hW9⟩ : ∃ W9, w8.alloc (.cells #[.int .i64 0, .slice none 0 0] 24) = W9 := ⟨_, rfl⟩
    have hb9 : Below w8.heap.size w8 W9 := by rw [← hW9]; exact below_alloc _ _
    have hb89 := below_thru hB8 hb9
    have hB9 := below_thru H7.out.1 hb89
    have hown : (W9.alloc (.cells #[] 5)).ownsRow W9.heap.size 5 1 (.slice (some ⟨W9.heap.size, 0, none⟩) 0 0) 0 [] := World.ownsRow_made W9 #[] 0 (Nat.le_refl _) (by unfold maxLen; omega) rfl
    have hba := below_alloc W9 (.cells #[] 5)
    have hSL := (H7.out.2.below hb89).below hba
    have hnewsL := hSL.b.news
    have hSM := (HP.out.2.1.below hB9).below hba
    have hatM := HP.out.2.1.at
    have honeL := lc_one L
    have honeM := lc_one M
    have hlenL : (lc L).length = s := by rw [lc_length, HM.out.1]
    have hlenM : (lc M).length = lm := by rw [lc_length, HP.out.1]
    have hnoneL : A2 = none → s = 0 ∧ C2 = 0 := fun e => by have := hSL.n e; have := hSL.l; rw [HM.out.1] at this; omega
    have hnoneM : am = none → lm = 0 ∧ cm = 0 := fun e => by have := hSM.n e; have := hSM.l; rw [HP.out.1] at this; omega
    have hw9 : w.heap.size ≤ W9.heap.size := hB9.size
    have H9 := hide (And.intro hB9 (And.intro hba hSM))
    have HW9 := hide hW9
    have hz9 : W9.heap.size = w8.heap.size + 1 := by rw [← hW9]; simp
    rw [hz9] at hown hw9
    have HZ9 := hide hz9
    clear hg8 hg8' s8 hB8 hSL hba hSM hB9 hb9 hb89 hW9 hz9
    go_wp2_with (at_builtin; first
      | (rw [HW9.out]
         refine wpList_append_foot _ rfl (.tmp 90) (.tmp 91) 28 rfl 5 i0 (.int .u8 0) 1 Tryz.underlying28 hi hq0 hq1 hq2 rfl (w8.heap.size + 1) _ 0 [] rfl hown A2 s C2 (lc L) rfl hlenL hnoneL hnewsL honeL (by unfold maxLen; omega) (by omega) (by simp [HZ9.out]) ?_
         intro B1 D1 w10 hown1 hg1
         simp only [Nat.zero_add, List.nil_append] at hown1 hg1 ⊢
         have hk1 := hg1.kept (F := fun k => w8.heap.size + 1 ≤ k) (fun g hg => by cases hg; exact Nat.le_refl _)
         have hnewsM := (H9.out.2.2.b.kept0 hk1 (fun g o s e h0 hw => by have := hatM g o s e h0; omega)).news
         have hbs10 : w8.heap.size + 1 ≤ w10.heap.size := Nat.le_trans (by simp [HZ9.out]) hk1.size)
      | (refine wpList_append_foot _ rfl (.tmp 92) (.tmp 93) 28 rfl 5 i0 (.int .u8 0) 1 Tryz.underlying28 hi hq0 hq1 hq2 rfl (w8.heap.size + 1) (.slice B1 s D1) s (lc L) rfl hown1 am lm cm (lc M) rfl hlenM hnoneM hnewsM honeM (by unfold maxLen; omega) (by omega) hbs10 ?_
         intro B2 D2 w11 hown2 hg2))
    have hk2 := hg2.kept (F := fun k => w8.heap.size + 1 ≤ k) (fun g hg => (owns_cells hown1 g hg).2.1)
    have hB11 : Below w.heap.size w w11 := H9.out.1.trans (((Kept.of_below (F := fun k => w8.heap.size + 1 ≤ k) H9.out.2.1).trans (hk1.trans hk2 (fun _ _ h => h)) (fun _ _ h => h)).below (fun _ h => Nat.le_trans hw9 h) H9.out.1.size)
    rw [← lc_append] at hown2
    obtain ⟨hl11, A11, C11, hv11, hS11, _⟩ := SB.own hown2 (fun b hb => (List.mem_append.1 hb).elim (HM.out.2.1 b) (HP.out.2.1.b.lt b))
    rw [← hl11] at hv11
    cases hv11
    have hg11 := mget_any B2 D2 (s + lm) (L ++ M) w11 hl11 hS11 (by omega)
    have H11 := hide hB11
    clear hk1 hk2 hown hown1 hown2 hg1 hg2 hB11 hS11 hl11 hi hq0 hq1 hq2 hnewsL hnewsM honeL honeM hlenL hlenM hnoneL hnoneM hatM
    by_cases hM0 : lm = 0
    · have hz : ((lm : Int) == 0) = true := by simp; omega
      have hz2 : ¬ ((0 : Int) < (lm : Int)) := by omega
      rw [HM2.out.2.2 hM0] at hg11
      refine hg11.mono ?_
      rintro e w12 ⟨hg12, hB12⟩
      obtain ⟨A12, C12, Q12, rfl, _⟩ := hg12.some'
      clear hg11 hg12
      go_wp2_with fail
      go_ret
      exact ⟨rfl, (H11.out.trans (hB12.mono H11.out.size)).alloc (H11.out.trans (hB12.mono H11.out.size)).size _⟩
    · have hz : ((lm : Int) == 0) = false := by simp; omega
      have hz2 : (0 : Int) < (lm : Int) := by omega
      rw [HM2.out.2.1 (by omega)] at hg11
      have HZ3 := hide (show decide (0 < lm) = true by simp; omega)
      refine hg11.mono ?_
      rintro e w12 ⟨hg12, hB12⟩
      obtain rfl := (show e = .returned (.tuple #[.agg #[.int .i64 0, .slice none 0 0], .int .i64 9]) from hg12)
      clear hg11 hg12
      go_wp2_with fail
      go_ret
      exact ⟨by show Ending.returned (Value.bool (decide (0 < lm))) = _; rw [HZ3.out], (H11.out.trans (hB12.mono H11.out.size)).alloc (H11.out.trans (hB12.mono H11.out.size)).size _⟩
  · rw [hXb hXL] at hg8
    clear hXb
    go_wp2_with fail
    refine hg8.mono ?_
    rintro e w9 ⟨hg9, hB9⟩
    obtain rfl := (show e = .returned (.tuple #[.agg #[.int .i64 0, .slice none 0 0], .int .i64 9]) from hg9)
    have hb10 := hB9.alloc hB9.size (.cells #[.int .i64 0, .slice none 0 0] 24)
    have hsb := sameBytes_ne A8 A2 s C8 C2 X L _ hXl HM.out.1 (by omega) (H8.out.2.2.below hb10).b (H8.out.2.1.below hb10).b hXL
    have H10 := hide (And.intro (below_thru H8.out.1 hb10) (H8.out.2.1.below hb10))
    clear hg8 hg9 hB9 hb10 H8 hXL
    go_wp2_with fail
    refine hsb.mono ?_
    rintro e w7 ⟨rfl, hB7⟩
    have H7 := hide (And.intro (below_thru H10.out.1 hB7) (H10.out.2.below hB7))
    clear hsb hB7 H10
    have hpk := hcP w7
    clear hcP
    go_wp2_with fail
    refine hpk.mono ?_
    rintro e w7' ⟨rfl, rfl⟩
    obtain ⟨A8, A8', s8, s8', S8, _, _, _⟩ := H7.out.2.cut c (by rw [HM.out.1]; omega)
    rw [HM.out.1] at s8
    have hg8 := mget_any A8 C2 c (L.take c) w7 (by rw [List.length_take, HM.out.1]; omega) S8 (by omega)
    rw [HM2.out.1 hpl] at hg8
    have hcs : (c : Int) ≤ (s : Int) := by omega
    have hc0 : (0 : Int) ≤ (c : Int) := by omega
    have HK := hide hpl
    clear hpk s8' S8 hpl
    go_wp2_with fail
    refine hg8.mono ?_
    rintro e w8 ⟨hg8', hB8⟩
    obtain rfl := (show e = .returned (.tuple #[.agg #[.int .i64 0, .slice none 0 0], .int .i64 9]) from hg8')
    obtain ⟨W9, hW9⟩ : ∃ W9, w8.alloc (.cells #[.int .i64 0, .slice none 0 0] 24) = W9 := ⟨_, rfl⟩
    have hb9 : Below w8.heap.size w8 W9 := by rw [← hW9]; exact below_alloc _ _
    have hb89 := below_thru hB8 hb9
    have hB9 := below_thru H7.out.1 hb89
    have hown : (W9.alloc (.cells #[] 5)).ownsRow W9.heap.size 5 1 (.slice (some ⟨W9.heap.size, 0, none⟩) 0 0) 0 [] := World.ownsRow_made W9 #[] 0 (Nat.le_refl _) (by unfold maxLen; omega) rfl
    have hba := below_alloc W9 (.cells #[] 5)
    have hSL := (H7.out.2.below hb89).below hba
    have hnewsL := hSL.b.news
    have hSM := (HP.out.2.1.below hB9).below hba
    have hatM := HP.out.2.1.at
    have honeL := lc_one L
    have honeM := lc_one M
    have hlenL : (lc L).length = s := by rw [lc_length, HM.out.1]
    have hlenM : (lc M).length = lm := by rw [lc_length, HP.out.1]
    have hnoneL : A2 = none → s = 0 ∧ C2 = 0 := fun e => by have := hSL.n e; have := hSL.l; rw [HM.out.1] at this; omega
    have hnoneM : am = none → lm = 0 ∧ cm = 0 := fun e => by have := hSM.n e; have := hSM.l; rw [HP.out.1] at this; omega
    have hw9 : w.heap.size ≤ W9.heap.size := hB9.size
    have H9 := hide (And.intro hB9 (And.intro hba hSM))
    have HW9 := hide hW9
    have hz9 : W9.heap.size = w8.heap.size + 1 := by rw [← hW9]; simp
    rw [hz9] at hown hw9
    have HZ9 := hide hz9
    clear hg8 hg8' s8 hB8 hSL hba hSM hB9 hb9 hb89 hW9 hz9
    go_wp2_with (at_builtin; first
      | (rw [HW9.out]
         refine wpList_append_foot _ rfl (.tmp 90) (.tmp 91) 28 rfl 5 i0 (.int .u8 0) 1 Tryz.underlying28 hi hq0 hq1 hq2 rfl (w8.heap.size + 1) _ 0 [] rfl hown A2 s C2 (lc L) rfl hlenL hnoneL hnewsL honeL (by unfold maxLen; omega) (by omega) (by simp [HZ9.out]) ?_
         intro B1 D1 w10 hown1 hg1
         simp only [Nat.zero_add, List.nil_append] at hown1 hg1 ⊢
         have hk1 := hg1.kept (F := fun k => w8.heap.size + 1 ≤ k) (fun g hg => by cases hg; exact Nat.le_refl _)
         have hnewsM := (H9.out.2.2.b.kept0 hk1 (fun g o s e h0 hw => by have := hatM g o s e h0; omega)).news
         have hbs10 : w8.heap.size + 1 ≤ w10.heap.size := Nat.le_trans (by simp [HZ9.out]) hk1.size)
      | (refine wpList_append_foot _ rfl (.tmp 92) (.tmp 93) 28 rfl 5 i0 (.int .u8 0) 1 Tryz.underlying28 hi hq0 hq1 hq2 rfl (w8.heap.size + 1) (.slice B1 s D1) s (lc L) rfl hown1 am lm cm (lc M) rfl hlenM hnoneM hnewsM honeM (by unfold maxLen; omega) (by omega) hbs10 ?_
         intro B2 D2 w11 hown2 hg2))
    have hk2 := hg2.kept (F := fun k => w8.heap.size + 1 ≤ k) (fun g hg => (owns_cells hown1 g hg).2.1)
    have hB11 : Below w.heap.size w w11 := H9.out.1.trans (((Kept.of_below (F := fun k => w8.heap.size + 1 ≤ k) H9.out.2.1).trans (hk1.trans hk2 (fun _ _ h => h)) (fun _ _ h => h)).below (fun _ h => Nat.le_trans hw9 h) H9.out.1.size)
    rw [← lc_append] at hown2
    obtain ⟨hl11, A11, C11, hv11, hS11, _⟩ := SB.own hown2 (fun b hb => (List.mem_append.1 hb).elim (HM.out.2.1 b) (HP.out.2.1.b.lt b))
    rw [← hl11] at hv11
    cases hv11
    have hg11 := mget_any B2 D2 (s + lm) (L ++ M) w11 hl11 hS11 (by omega)
    have H11 := hide hB11
    clear hk1 hk2 hown hown1 hown2 hg1 hg2 hB11 hS11 hl11 hi hq0 hq1 hq2 hnewsL hnewsM honeL honeM hlenL hlenM hnoneL hnoneM hatM
    by_cases hM0 : lm = 0
    · have hz : ((lm : Int) == 0) = true := by simp; omega
      have hz2 : ¬ ((0 : Int) < (lm : Int)) := by omega
      rw [HM2.out.2.2 hM0] at hg11
      refine hg11.mono ?_
      rintro e w12 ⟨hg12, hB12⟩
      obtain ⟨A12, C12, Q12, rfl, _⟩ := hg12.some'
      clear hg11 hg12
      go_wp2_with fail
      go_ret
      exact ⟨rfl, (H11.out.trans (hB12.mono H11.out.size)).alloc (H11.out.trans (hB12.mono H11.out.size)).size _⟩
    · have hz : ((lm : Int) == 0) = false := by simp; omega
      have hz2 : (0 : Int) < (lm : Int) := by omega
      rw [HM2.out.2.1 (by omega)] at hg11
      have HZ3 := hide (show decide (0 < lm) = true by simp; omega)
      refine hg11.mono ?_
      rintro e w12 ⟨hg12, hB12⟩
      obtain rfl := (show e = .returned (.tuple #[.agg #[.int .i64 0, .slice none 0 0], .int .i64 9]) from hg12)
      clear hg11 hg12
      go_wp2_with fail
      go_ret
      exact ⟨by show Ending.returned (Value.bool (decide (0 < lm))) = _; rw [HZ3.out], (H11.out.trans (hB12.mono H11.out.size)).alloc (H11.out.trans (hB12.mono H11.out.size)).size _⟩
end Go.Proofs.YtppdbinppibjhaaGreatDoor
