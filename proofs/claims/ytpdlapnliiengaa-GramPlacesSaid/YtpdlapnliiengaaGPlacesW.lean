/-
  GramPlaces' walk.
-/
import Derived.Test.YtpdlapnliiengaaGPlacesR
import Derived.Test.YtpdlapnliiengaaGPlacesQ
namespace Go.Proofs.Ytpdlapnliiengaa
open Go.RowKit Go.Shelf

theorem pocl_get (ks : List Nat) (vf : Nat → Value) (k : Nat) (h : k < ks.length) : (pocl ks vf)[k * 2]? = some (.string (gts (ks.getD k 0))) ∧ (pocl ks vf)[k * 2 + 1]? = some (vf (ks.getD k 0)) := by
  induction ks generalizing k with
  | nil => simp at h
  | cons x r ih =>
    have e : pocl (x :: r) vf = gtx x :: vf x :: pocl r vf := by simp [pocl]
    cases k with
    | zero => rw [e]; exact ⟨rfl, rfl⟩
    | succ k =>
      have := ih k (by simp only [List.length_cons] at h; omega)
      rw [e, show (k + 1) * 2 = k * 2 + 1 + 1 by omega]
      simpa using this
theorem pcl_get (l : List Nat) (k : Nat) (h : k < l.length) : (pcl l)[k * 2]? = some (.int .i64 0) ∧ (pcl l)[k * 2 + 1]? = some (.int .i64 ((l.getD k 0 : Nat) : Int)) := by
  induction l generalizing k with
  | nil => simp at h
  | cons x r ih =>
    have e : pcl (x :: r) = .int .i64 0 :: .int .i64 (x : Int) :: pcl r := by simp [pcl]
    cases k with
    | zero => rw [e]; exact ⟨rfl, rfl⟩
    | succ k =>
      have := ih k (by simp only [List.length_cons] at h; omega)
      rw [e, show (k + 1) * 2 = k * 2 + 1 + 1 by omega]
      simpa using this
/-- A cell of a row, the row's address told. -/
theorem owns_at {w : World} {B n c i size : Nat} {g : Nat} {u : Value} {xs : List Value} {e : TypeId} (h : w.ownsRow B e size (.slice (some ⟨g, 0, none⟩) n c) n xs) (hi : xs[i]? = some u) : w.cell? ⟨g, i, none⟩ = some u ∧ w.frozen? ⟨g, i, none⟩ = false := by
  obtain ⟨b, C, e1, h1, h2, _⟩ := owns_cellS h hi
  cases e1
  exact ⟨h1, h2⟩
theorem owns_addr {w : World} {B n c size : Nat} {a : Option Addr} {xs : List Value} {e : TypeId} (h : w.ownsRow B e size (.slice a n c) n xs) (hn : 0 < n) : ∃ g, a = some ⟨g, 0, none⟩ ∧ n ≤ c ∧ c ≤ 9223372036854775807 ∧ B ≤ g ∧ g < w.heap.size := by
  obtain ⟨_, ⟨h1, h2⟩ | ⟨g, cap, cur, h1, h2, h3, h4, h5, _⟩⟩ := h
  · omega
  · cases h1
    unfold maxLen at h5
    exact ⟨g, rfl, h4, h5, h2, block_lt h3⟩

set_option maxRecDepth 100000 in
set_option maxHeartbeats 2000000 in
theorem placesL_any (a : Option Addr) (n cap : Nat) (z : Nat → Nat) (fr te : Int) (w : World) (hn : n ≤ cap) (hz : Byt w a n z) (hn2 : n ≤ 140737488355328) (hfr : -9223372036854775808 ≤ fr ∧ fr ≤ 9223372036854775807) (hto : -9223372036854775808 ≤ te ∧ te ≤ 9223372036854775807) :
    Calls Try.prog 4 #[.slice a n cap, .int .i64 fr, .int .i64 te] w fun e w' => e = .returned (.bool true) ∧ Below w.heap.size w w' := by
  by_cases hbad : 2000 < n
  · have h1 : (2000 : Int) < (n : Int) := by omega
    go_enter Try.func4, Try.ntmps4
    go_wp2_with fail
    refine (awake_any w).mono ?_
    rintro e w1 ⟨rfl, hB1⟩
    go_wp2_with fail
    go_ret
    exact ⟨rfl, hB1⟩
  · have h1 : (n : Int) ≤ 2000 := by omega
    go_enter Try.func4, Try.ntmps4
    go_wp2_with fail
    refine (awake_any w).mono ?_
    rintro e w1 ⟨rfl, hB1⟩
    have hpl := places_any a n cap z w1 (by omega) (hz.below hB1)
    have hz1 := hz.below hB1
    have HB1 := hide hB1
    clear hz hB1
    go_wp2_with fail
    refine hpl.mono ?_
    rintro e w2 ⟨vP, vf, rfl, hP, hB2⟩
    have hgr := grams_any a n cap z w2 (by omega) (hz1.below hB2)
    have hz2 := hz1.below hB2
    obtain ⟨m, hm⟩ : ∃ m, n - 2 = m := ⟨_, rfl⟩
    rw [hm] at hP hgr
    have HB2 := hide hB2
    have HP2 := hide hP
    obtain ⟨aP, cP, rfl⟩ := owns_slice hP.row
    clear hpl hz1 hB2 hP
    go_wp2_with fail
    refine hgr.mono ?_
    rintro e w3 ⟨vG, rfl, hoG, hB3⟩
    have hz3 := hz2.below hB3
    have HP3 := hide (HP2.out.below hB3)
    rw [show sortK (esL z (List.range m)) = gset z m from rfl, show (esL z (List.range m)).length = (gset z m).length from (sortK_len _).symm] at hoG
    rw [gset_strs] at hoG
    obtain ⟨aG, cG, rfl, -, hmG, hcG, hsG⟩ := owns_strs hoG
    have HB3 := hide hB3
    have HG := hide hsG
    have hnl := gset_len z m
    obtain ⟨N, hN⟩ : ∃ N, (gset z m).length = N := ⟨_, rfl⟩
    rw [hN] at hmG hnl
    have HZ := hide hz3
    have hmx : max ((n : Int) - 2) 0 = (m : Int) := by omega
    clear hgr hB3 hoG hsG hz2 hz3 HP2
    rw [hN]
    obtain ⟨i0, hi, hq0, hq1, hq2⟩ := info_parts info_bool
    have hmk := run_make (P := Try.prog) w3 34 4 i0 (.bool false) Try.underlying34 hi hq0 .i64 .i64 (m : Nat) (m : Nat) (by omega) (by omega) (by rw [hq2]; omega) (by omega)
    rw [hq1] at hmk
    simp only [Int.toNat_natCast, Nat.mul_one] at hmk
    obtain ⟨W4, hW4⟩ : ∃ W4, w3.alloc (.cells (madeCells (Value.bool false).cells m) 4) = W4 := ⟨_, rfl⟩
    have hB4 : Below w3.heap.size w3 W4 := by rw [← hW4]; exact below_alloc _ _
    have hS4 : W4.ownsRow w3.heap.size 4 1 (.slice (some ⟨w3.heap.size, 0, none⟩) m m) m (bcl (seenB z m 0 0) m) := by
      rw [← hW4]
      refine ⟨by simp [bcl], .inr ⟨w3.heap.size, m, _, rfl, Nat.le_refl _, heap_alloc_new _ _, Nat.le_refl _, by unfold maxLen; omega, by simp [size_madeCells], ?_⟩⟩
      rw [show (Value.bool false).cells = #[.bool false] from rfl, toList_madeCells_one, List.take_of_length_le (by simp)]
      apply List.ext_getElem?
      intro j
      by_cases hj : j < m
      · rw [bcl_get _ _ _ hj, seen_zero]
        simp [hj]
      · rw [List.getElem?_eq_none (by simp; omega), List.getElem?_eq_none (by simp [bcl]; omega)]
    rw [hW4] at hmk
    have HI := hide (And.intro hS4 hB4)
    clear hi hq0 hq1 hq2 hW4 hS4 hB4
    go_wp2_with fail
    go_loopg [10, 11, 12, 13, 14] N (fun q s10 s11 s12 s13 s14 wr => ∃ i : Nat, i + q = N ∧ s10 = .int .i64 (i : Nat) ∧ wr.ownsRow w3.heap.size 4 1 (.slice (some ⟨w3.heap.size, 0, none⟩) m m) m (bcl (seenB z m i 0) m) ∧ Below w3.heap.size w3 wr)
    case atStart => exact ⟨0, by omega, rfl, HI.out⟩
    case round =>
      obtain ⟨i, hiq, rfl, hS, hB⟩ := hrel
      cases gk with
      | zero =>
        obtain rfl : i = N := by omega
        have hiz : ¬ ((i : Int) < (i : Int)) := by omega
        have hcs : m = 0 ∨ ∃ b off, (some ⟨w3.heap.size, 0, none⟩ : Option Addr) = some ⟨b, off, none⟩ ∧ ∀ p, p < m → wr.cell? ⟨b, off + p, none⟩ = some (.bool true) := .inr ⟨_, _, rfl, fun p hp => by
          have h := (owns_at hS (bcl_get (seenB z m i 0) m p hp)).1
          rw [seen_all HZ.out.1 hN.symm hp] at h
          rwa [Nat.zero_add]⟩
        have hcon := containsBool_any (some ⟨w3.heap.size, 0, none⟩) m m wr (by omega) hcs
        have hzr := HZ.out.below hB
        have HBw := hide hB
        have hz0 := HZ.out.1
        have hend : ∀ W, Below w3.heap.size w3 W → Below w.heap.size w W := fun W hW => by
          have e1 := HB1.out
          have e2 := HB2.out
          have e3 := HB3.out
          have s1 := e1.size
          have s2 := e2.size
          have s3 := e3.size
          exact ((e1.trans (e2.mono s1)).trans (e3.mono (by omega))).trans (hW.mono (by omega))
        have HE := hide hend
        clear hS hB hcs hmk hend HI
        go_wp2_with fail
        refine hcon.mono ?_
        rintro e w5 ⟨rfl, rfl⟩
        clear hcon
        by_cases hpart : fr < 0 ∨ (n : Int) < te ∨ te < fr
        · rcases (show fr < 0 ∨ (0 ≤ fr ∧ (n : Int) < te) ∨ (0 ≤ fr ∧ te ≤ (n : Int) ∧ te < fr) by omega) with h | ⟨h, h2⟩ | ⟨h, h2, h3⟩
          all_goals
            clear hpart
            go_wp2_with fail
            go_ret
            exact ⟨rfl, HE.out _ HBw.out⟩
        · obtain ⟨f, rfl⟩ : ∃ f : Nat, fr = (f : Int) := ⟨fr.toNat, by omega⟩
          obtain ⟨t, rfl⟩ : ∃ t : Nat, te = (t : Int) := ⟨te.toNat, by omega⟩
          have h3 : (0 : Int) ≤ (f : Int) := by omega
          have h4 : (t : Int) ≤ (n : Int) := by omega
          have h5 : (f : Int) ≤ (t : Int) := by omega
          have hft : f ≤ t := by omega
          have htn : t ≤ n := by omega
          clear hpart
          obtain ⟨A, hA, hAz⟩ := mid_at a n cap f t hft htn hn
          have hgr2 := grams_any A (t - f) (cap - f) (fun j => z (f + j)) w5 (by omega) (hAz w5 z hzr)
          obtain ⟨mp, hmp⟩ : ∃ mp, t - f - 2 = mp := ⟨_, rfl⟩
          rw [hmp] at hgr2
          clear hAz hzr
          go_wp2_with fail
          refine hgr2.mono ?_
          rintro e w6 ⟨vQ, rfl, hoQ, hB6⟩
          rw [show sortK (esL (fun j => z (f + j)) (List.range mp)) = gset (fun j => z (f + j)) mp from rfl, show (esL (fun j => z (f + j)) (List.range mp)).length = (gset (fun j => z (f + j)) mp).length from (sortK_len _).symm, gset_strs] at hoQ
          obtain ⟨aQ, cQ, rfl, -, hmQ, hcQ, hsQ⟩ := owns_strs hoQ
          have hBe : Below w3.heap.size w3 w6 := HBw.out.trans (hB6.mono HBw.out.size)
          obtain ⟨NQ, hNQ⟩ : ∃ NQ, (gset (fun j => z (f + j)) mp).length = NQ := ⟨_, rfl⟩
          have hNQ2 := gset_len (fun j => z (f + j)) mp
          rw [hNQ] at hmQ hsQ hNQ2 ⊢
          have hmemG : ∀ j, j < NQ → (gset (fun j => z (f + j)) mp).getD j 0 ∈ gset z m := fun j hj => by
            obtain ⟨y, hy, e⟩ := (gset_mem (z := fun j => z (f + j)) (fun j => hz0 _) mp _).1 (getD_mem (show j < (gset (fun j => z (f + j)) mp).length by omega))
            rw [← e]
            exact (gset_mem hz0 m _).2 ⟨f + y, by omega, by unfold gN; simp only [Nat.add_assoc]⟩
          have hsG := HG.out.below hBe
          rw [hN] at hsG
          have HH := hide (And.intro hsQ (And.intro hBe (And.intro hmemG hsG)))
          clear hgr2 hoQ hsQ hB6 hBe hmemG hsG hA
          go_wp2_with fail
          go_loopg [16] NQ (fun q s16 wx => ∃ j, j + q = NQ ∧ s16 = .int .i64 (j : Nat) ∧ w6 = wx)
          case atStart => exact ⟨0, by omega, rfl, rfl⟩
          case round =>
            obtain ⟨j, hjq, rfl, rfl⟩ := hrel
            cases gk with
            | zero =>
              obtain rfl : j = NQ := by omega
              have hjz : ¬ ((j : Int) < (j : Int)) := by omega
              go_wp2_with fail
              go_ret
              exact ⟨rfl, HE.out _ HH.out.2.1⟩
            | succ q2 =>
              have hjk : (j : Int) < (NQ : Int) := by omega
              have hj0 : (0 : Int) ≤ (j : Int) := by omega
              have hjl : j < (gset (fun j => z (f + j)) mp).length := by omega
              obtain ⟨hsQ, hBe, hmemG, hsG⟩ := HH.out
              obtain ⟨bQ, oQ, rfl, hcQ2⟩ := hsQ.cell (by omega)
              have c1 : w6.cell? ⟨bQ, oQ + j, none⟩ = some (.string (gts ((gset (fun j => z (f + j)) mp).getD j 0))) := by
                rw [hcQ2 j (by omega)]
                simp [List.getD_eq_getElem?_getD, hjl]
              have hi1 : 0 < i := by
                have := List.length_pos_of_mem (hmemG j (by omega))
                omega
              obtain ⟨bG, oG, rfl, hcG2⟩ := hsG.cell hi1
              have hcon := Try.slices_Contains_string bG oG i cG ((gset z m).map gts) (gts ((gset (fun j => z (f + j)) mp).getD j 0)) w6 (by rw [List.length_map]; omega) (by omega) (fun j hj => hcG2 j (by rw [List.length_map] at hj; omega))
              have hin : Lib.containsS (((gset z m).map gts).take i) (gts ((gset (fun j => z (f + j)) mp).getD j 0)) = true := by
                rw [Lib.containsS_iff, List.take_of_length_le (by rw [List.length_map]; omega)]
                exact List.mem_map.2 ⟨_, hmemG j (by omega), rfl⟩
              rw [hin] at hcon
              clear hsQ hBe hmemG hsG hcQ2 hcG2 hin hjl
              go_wp2_with fail
              refine hcon.mono ?_
              rintro e w7 ⟨rfl, rfl⟩
              go_wp2_with fail
              go_roundg q2
              case measure => omega
              case rel => exact ⟨j + 1, by omega, by go_num, rfl⟩
      | succ q =>
        have hiN : i < N := by omega
        have hiz : (i : Int) < (N : Int) := by omega
        have hi0 : (0 : Int) ≤ (i : Int) := by omega
        have hgi : i < (gset z m).length := by omega
        have hPw := HP3.out
        have hrow := hPw.row
        rw [hN] at hrow
        obtain ⟨gP, rfl, hcP1, hcP2, _, _⟩ := owns_addr hrow (by omega)
        obtain ⟨bG, oG, rfl, hcG2⟩ := HG.out.cell (by omega)
        obtain ⟨k0, k1⟩ := pocl_get (gset z m) vf i hgi
        have c0 := (owns_at hrow k0).1
        have c1 := (owns_at hrow k1).1
        have g1 : wr.cell? ⟨bG, oG + i, none⟩ = some (.string (gts ((gset z m).getD i 0))) := by
          refine cell_thru ?_ hB
          rw [hcG2 i (by omega)]
          simp [List.getD_eq_getElem?_getD, hgi]
        have hxm := getD_mem hgi
        have hpos := plL_pos HZ.out.1 hxm
        have hplr := hPw.places _ hxm
        obtain ⟨aX, cX, hvX⟩ := owns_slice hplr
        rw [hvX] at hplr c1
        obtain ⟨np, hnp⟩ : ∃ np, (plL z (List.range m) ((gset z m).getD i 0)).length = np := ⟨_, rfl⟩
        rw [hnp] at hplr c1 hpos
        have hnp2 : np ≤ m := by
          rw [← hnp]
          have := List.length_filter_le (fun j => gN z j == (gset z m).getD i 0) (List.range m)
          rwa [List.length_range] at this
        obtain ⟨gX, rfl, hcX1, hcX2, _, _⟩ := owns_addr hplr hpos
        have p0 := cell_thru c0 hB
        have p1 := cell_thru c1 hB
        have HSB := hide (And.intro hS hB)
        have HPL := hide (And.intro hplr (And.intro c0 c1))
        have HX := hide (And.intro hgi (And.intro hxm (And.intro hnp hvX)))
        have hlt : ∀ j, i = j + 1 → wr.cell? ⟨gP, j * 2, none⟩ = some (.string (gts ((gset z m).getD j 0))) ∧ Op.bytesLess (gts ((gset z m).getD j 0)).toList (gts ((gset z m).getD i 0)).toList = true := fun j hj => by
          obtain ⟨l0, _⟩ := pocl_get (gset z m) vf j (by omega)
          have ok : ∀ x ∈ gset z m, Okg x := fun x hx => by
            obtain ⟨y, _, e⟩ := (gset_mem HZ.out.1 m x).1 hx
            rw [← e]; exact gN_ok HZ.out.1 y
          refine ⟨cell_thru (owns_at hrow l0).1 hB, ?_⟩
          rw [gts_less (ok _ (getD_mem (by omega))) (ok _ hxm), decide_eq_true_eq]
          exact asc_get (gset_asc HZ.out.1 m) (by omega) hgi
        have hnp0 : ¬ ((np : Int) = 0) := by omega
        clear hS hB hPw hrow hcG2 k0 k1 hxm hplr hnp hvX hgi c0 c1
        generalize hT : gts ((gset z m).getD i 0) = T at *
        go_upto_region 10 with fail
        go_cut [79] (fun s wx => s = .bool false ∧ Below wr.heap.size wr wx)
        case first =>
          by_cases hi1 : i = 0
          · subst hi1
            rw [Nat.zero_mul] at p0 p1
            rw [Nat.zero_add] at p1
            rw [Nat.add_zero] at g1
            refine (wpIn_wide (n := 0)).1 (gpaF wide_plain gP bG oG gX N cP cG np cX T _ _ _ _ rfl rfl rfl rfl hiN (by omega) p0 p1 g1 hpos ?_)
            intro vs W hb h79
            simp only [List.foldl_cons, List.foldl_nil, List.setIfInBounds_toArray, List.set_cons_succ, List.set_cons_zero]
            rw [h79]
            generalize vs 37 = z37
            generalize vs 38 = z38
            generalize vs 39 = z39
            generalize vs 40 = z40
            generalize vs 41 = z41
            generalize vs 42 = z42
            generalize vs 43 = z43
            generalize vs 44 = z44
            generalize vs 45 = z45
            generalize vs 46 = z46
            generalize vs 47 = z47
            generalize vs 48 = z48
            generalize vs 49 = z49
            generalize vs 50 = z50
            generalize vs 51 = z51
            generalize vs 52 = z52
            generalize vs 53 = z53
            generalize vs 54 = z54
            generalize vs 55 = z55
            generalize vs 56 = z56
            generalize vs 57 = z57
            generalize vs 58 = z58
            generalize vs 59 = z59
            generalize vs 60 = z60
            generalize vs 61 = z61
            generalize vs 62 = z62
            generalize vs 63 = z63
            generalize vs 64 = z64
            generalize vs 65 = z65
            generalize vs 66 = z66
            generalize vs 67 = z67
            generalize vs 68 = z68
            generalize vs 69 = z69
            generalize vs 70 = z70
            generalize vs 71 = z71
            generalize vs 72 = z72
            generalize vs 73 = z73
            generalize vs 74 = z74
            generalize vs 75 = z75
            generalize vs 76 = z76
            generalize vs 77 = z77
            generalize vs 78 = z78
            clear vs hlt p0 p1 g1 h79
            go_wp2_with fail
            go_meet
            exact ⟨rfl, hb⟩
          · obtain ⟨j, rfl⟩ : ∃ j, i = j + 1 := ⟨i - 1, by omega⟩
            obtain ⟨l0, hless⟩ := hlt j rfl
            refine (wpIn_wide (n := 0)).1 (gpaL wide_plain gP bG oG gX N cP cG np cX j T (gts ((gset z m).getD j 0)) _ _ _ _ rfl rfl rfl (by simp) hiN (by omega) p0 p1 g1 hpos l0 hless ?_)
            intro vs W hb h79
            simp only [List.foldl_cons, List.foldl_nil, List.setIfInBounds_toArray, List.set_cons_succ, List.set_cons_zero]
            rw [h79]
            generalize vs 37 = z37
            generalize vs 38 = z38
            generalize vs 39 = z39
            generalize vs 40 = z40
            generalize vs 41 = z41
            generalize vs 42 = z42
            generalize vs 43 = z43
            generalize vs 44 = z44
            generalize vs 45 = z45
            generalize vs 46 = z46
            generalize vs 47 = z47
            generalize vs 48 = z48
            generalize vs 49 = z49
            generalize vs 50 = z50
            generalize vs 51 = z51
            generalize vs 52 = z52
            generalize vs 53 = z53
            generalize vs 54 = z54
            generalize vs 55 = z55
            generalize vs 56 = z56
            generalize vs 57 = z57
            generalize vs 58 = z58
            generalize vs 59 = z59
            generalize vs 60 = z60
            generalize vs 61 = z61
            generalize vs 62 = z62
            generalize vs 63 = z63
            generalize vs 64 = z64
            generalize vs 65 = z65
            generalize vs 66 = z66
            generalize vs 67 = z67
            generalize vs 68 = z68
            generalize vs 69 = z69
            generalize vs 70 = z70
            generalize vs 71 = z71
            generalize vs 72 = z72
            generalize vs 73 = z73
            generalize vs 74 = z74
            generalize vs 75 = z75
            generalize vs 76 = z76
            generalize vs 77 = z77
            generalize vs 78 = z78
            clear vs hlt p0 p1 g1 h79 l0 hless
            go_wp2_with fail
            go_meet
            exact ⟨rfl, hb⟩
        case rest =>
          obtain ⟨rfl, hbc⟩ := hcut
          clear hlt p0 p1 g1
          obtain ⟨hplr, c0, c1⟩ := HPL.out
          obtain ⟨hgi, hxm, hnp, hvX⟩ := HX.out
          have hbw : Below w3.heap.size w3 wc := HSB.out.2.trans (hbc.mono HSB.out.2.size)
          have hI0 := HSB.out.1
          have HI2 := hide (And.intro (owns_thruS hI0 hbc) hbw)
          have p1 := cell_thru c1 hbw
          have HC := hide (And.intro c0 c1)
          have HQ := hide hplr
          clear hplr c0 c1 hxm hvX hbw hI0 hbc HI HSB
          go_wp2_with fail
          go_loopg [11, 12, 13, 14] np (fun q s11 s12 s13 s14 wr => ∃ k : Nat, k + q = np ∧ s11 = .int .i64 (k : Nat) ∧ wr.ownsRow w3.heap.size 4 1 (.slice (some ⟨w3.heap.size, 0, none⟩) m m) m (bcl (seenB z m i k) m) ∧ Below w3.heap.size w3 wr)
          case atStart => exact ⟨0, by omega, rfl, HI2.out⟩
          case round =>
            clear p1
            obtain ⟨k, hkq, rfl, hS, hB⟩ := hrel
            have p1 := cell_thru HC.out.2 hB
            cases gk with
            | zero =>
              obtain rfl : k = np := by omega
              have hkz : ¬ ((k : Int) < (k : Int)) := by omega
              have HI3 := hide (And.intro hS hB)
              clear hS hB
              go_wp2_with fail
              go_roundg q
              case measure => omega
              case rel =>
                have e := seen_next (z := z) (m := m) (i := i) hgi
                rw [hnp] at e
                rw [e] at HI3
                exact ⟨i + 1, by omega, by go_num, HI3.out⟩
            | succ q2 =>
              have hkn : k < np := by omega
              have hkz : (k : Int) < (np : Int) := by omega
              have hk0 : (0 : Int) ≤ (k : Int) := by omega
              have hkl : k < (plL z (List.range m) ((gset z m).getD i 0)).length := by omega
              obtain ⟨e0, e1⟩ := pcl_get _ k hkl
              have d0 := cell_thru (owns_at HQ.out e0).1 hB
              have d1 := cell_thru (owns_at HQ.out e1).1 hB
              have hsn := seen_not HZ.out.1 hgi hkl
              have hst := seen_step (z := z) (m := m) (i := i) hgi hkl
              have hqm := (plL_mem z m _ _).1 (getD_mem hkl)
              have hl0 : ∀ r, k = r + 1 → wr.cell? ⟨gX, r * 2 + 1, none⟩ = some (.int .i64 (((plL z (List.range m) ((gset z m).getD i 0)).getD r 0 : Nat) : Int)) ∧ (plL z (List.range m) ((gset z m).getD i 0)).getD r 0 < (plL z (List.range m) ((gset z m).getD i 0)).getD k 0 := fun r hr => by
                obtain ⟨_, e2⟩ := pcl_get _ r (show r < (plL z (List.range m) ((gset z m).getD i 0)).length by omega)
                exact ⟨cell_thru (owns_at HQ.out e2).1 hB, asc_get (plL_asc z m _) (by omega) hkl⟩
              obtain ⟨qq, hqq⟩ : ∃ qq, (plL z (List.range m) ((gset z m).getD i 0)).getD k 0 = qq := ⟨_, rfl⟩
              rw [hqq] at d1 hsn hst hqm
              have hs0 := owns_at hS (bcl_get _ _ _ hqm.1)
              rw [hsn] at hs0
              have hB3 := hB.size
              have HI3 := hide (And.intro hS hB)
              have HST := hide hst
              have HL0 := hide hl0
              have HQQ := hide hqq
              have hqm1 := hqm.1
              have HQM := hide hqm.2
              clear e0 e1 hsn hst hl0 hS hB hqm hqq hkl
              go_upto_region 16 with fail
              obtain ⟨W5, hW5⟩ : ∃ W5, wr.alloc (.cells #[.int .i64 0, .int .i64 (qq : Nat)] 39) = W5 := ⟨_, rfl⟩
              have hB5 : Below wr.heap.size wr W5 := by rw [← hW5]; exact below_alloc _ _
              have b0 : W5.cell? ⟨wr.heap.size, 0, none⟩ = some (.int .i64 0) := by rw [← hW5]; simp
              have b1 : W5.cell? ⟨wr.heap.size, 1, none⟩ = some (.int .i64 (qq : Nat)) := by rw [← hW5]; simp
              rw [hW5]
              clear hW5
              go_cut [138] (fun s wx => s = .bool false ∧ Below W5.heap.size W5 wx)
              case first =>
                by_cases hk1 : k = 0
                · subst hk1
                  refine (wpIn_wide (n := 0)).1 (gpbF wide_plain gP gX N cP np cX w3.heap.size m wr.heap.size i qq _ _ _ W5 rfl rfl rfl rfl rfl rfl hqm1 (by omega) b0 b1 (cell_thru hs0.1 hB5) ?_)
                  intro vs W hb h138
                  simp only [List.foldl_cons, List.foldl_nil, List.setIfInBounds_toArray, List.set_cons_succ, List.set_cons_zero]
                  rw [h138]
                  generalize vs 98 = z98
                  generalize vs 99 = z99
                  generalize vs 100 = z100
                  generalize vs 101 = z101
                  generalize vs 102 = z102
                  generalize vs 103 = z103
                  generalize vs 104 = z104
                  generalize vs 105 = z105
                  generalize vs 106 = z106
                  generalize vs 107 = z107
                  generalize vs 108 = z108
                  generalize vs 109 = z109
                  generalize vs 110 = z110
                  generalize vs 111 = z111
                  generalize vs 112 = z112
                  generalize vs 113 = z113
                  generalize vs 114 = z114
                  generalize vs 115 = z115
                  generalize vs 116 = z116
                  generalize vs 117 = z117
                  generalize vs 118 = z118
                  generalize vs 119 = z119
                  generalize vs 120 = z120
                  generalize vs 121 = z121
                  generalize vs 122 = z122
                  generalize vs 123 = z123
                  generalize vs 124 = z124
                  generalize vs 125 = z125
                  generalize vs 126 = z126
                  generalize vs 127 = z127
                  generalize vs 128 = z128
                  generalize vs 129 = z129
                  generalize vs 130 = z130
                  generalize vs 131 = z131
                  generalize vs 132 = z132
                  generalize vs 133 = z133
                  generalize vs 134 = z134
                  generalize vs 135 = z135
                  generalize vs 136 = z136
                  generalize vs 137 = z137
                  clear vs p1 d0 d1 b0 b1 h138 hs0
                  go_wp2_with fail
                  go_meet
                  exact ⟨rfl, hb⟩
                · obtain ⟨r, rfl⟩ : ∃ r, k = r + 1 := ⟨k - 1, by omega⟩
                  obtain ⟨l0, l1⟩ := HL0.out r rfl
                  rw [HQQ.out] at l1
                  refine (wpIn_wide (n := 0)).1 (gpbL wide_plain gP gX N cP np cX w3.heap.size m wr.heap.size i r qq _ _ _ _ W5 rfl rfl rfl rfl (by simp) rfl hqm1 (by omega) b0 b1 (cell_thru hs0.1 hB5) hiN (by omega) hkn (by omega) (cell_thru p1 hB5) (cell_thru l0 hB5) l1 ?_)
                  intro vs W hb h138
                  simp only [List.foldl_cons, List.foldl_nil, List.setIfInBounds_toArray, List.set_cons_succ, List.set_cons_zero]
                  rw [h138]
                  generalize vs 98 = z98
                  generalize vs 99 = z99
                  generalize vs 100 = z100
                  generalize vs 101 = z101
                  generalize vs 102 = z102
                  generalize vs 103 = z103
                  generalize vs 104 = z104
                  generalize vs 105 = z105
                  generalize vs 106 = z106
                  generalize vs 107 = z107
                  generalize vs 108 = z108
                  generalize vs 109 = z109
                  generalize vs 110 = z110
                  generalize vs 111 = z111
                  generalize vs 112 = z112
                  generalize vs 113 = z113
                  generalize vs 114 = z114
                  generalize vs 115 = z115
                  generalize vs 116 = z116
                  generalize vs 117 = z117
                  generalize vs 118 = z118
                  generalize vs 119 = z119
                  generalize vs 120 = z120
                  generalize vs 121 = z121
                  generalize vs 122 = z122
                  generalize vs 123 = z123
                  generalize vs 124 = z124
                  generalize vs 125 = z125
                  generalize vs 126 = z126
                  generalize vs 127 = z127
                  generalize vs 128 = z128
                  generalize vs 129 = z129
                  generalize vs 130 = z130
                  generalize vs 131 = z131
                  generalize vs 132 = z132
                  generalize vs 133 = z133
                  generalize vs 134 = z134
                  generalize vs 135 = z135
                  generalize vs 136 = z136
                  generalize vs 137 = z137
                  clear vs p1 d0 d1 b0 b1 h138 hs0 l0 l1
                  go_wp2_with fail
                  go_meet
                  exact ⟨rfl, hb⟩
              case rest =>
                obtain ⟨rfl, hbd⟩ := hcut
                have hB6 : Below wr.heap.size wr wc := hB5.trans (hbd.mono hB5.size)
                have b1 := cell_thru b1 hbd
                have hS6 := owns_thruS HI3.out.1 hB6
                have hs6 := owns_at hS6 (bcl_get _ _ _ hqm1)
                have hf6 := hs6.2
                have hs6 := hs6.1
                have hS7 := owns_setS hS6 (b := w3.heap.size) (i := qq) rfl (.bool true)
                rw [HST.out] at hS7
                obtain ⟨W7, hW7⟩ : ∃ W7, wc.setCell ⟨w3.heap.size, qq, none⟩ (.bool true) = W7 := ⟨_, rfl⟩
                have hk7 : Kept (fun y => y = w3.heap.size) wc W7 := by rw [← hW7]; exact (Kept.refl (fun y => y = w3.heap.size) wc).setCell (p := ⟨w3.heap.size, qq, none⟩) (.inl rfl) _
                rw [hW7] at hS7
                have hB36 : Below w3.heap.size w3 wc := HI3.out.2.trans (hB6.mono hB3)
                have hB37 : Below w3.heap.size w3 W7 := hB36.trans (hk7.below (fun y hy => by omega) (by have := hB36.size; omega))
                have b7 : W7.cell? ⟨wr.heap.size, 1, none⟩ = some (.int .i64 (qq : Nat)) := hk7.cell b1 (by show ¬ wr.heap.size = w3.heap.size; have := (owns_cells HI3.out.1 w3.heap.size rfl).1; omega)
                have hat := gat_any a n cap z (qq : Int) W7 (by omega) hn (HZ.out.below hB37) (by omega)
                unfold atV at hat
                rw [if_pos (by omega), Int.toNat_natCast, HQM.out, gtx_eq, hT] at hat
                have p0 := cell_thru HC.out.1 hB37
                have htt : (T.toList == T.toList) = true := beq_self_eq_true _
                have HI7 := hide (And.intro hS7 hB37)
                have HW7 := hide hW7
                clear hS6 hS7 hW7 hk7 hB36 hB37 hB6 hbd hB5 hs0 b0 d0 d1 p1
                go_upto_region 19 with fail
                rw [HW7.out]
                go_wp2_with fail
                refine hat.mono ?_
                rintro e w8 ⟨rfl, rfl⟩
                go_wp2_with fail
                go_roundg q2
                case measure => omega
                case rel => exact ⟨k + 1, by omega, by go_num, HI7.out⟩
end Go.Proofs.Ytpdlapnliiengaa
