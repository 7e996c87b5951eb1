/-
  GramStands' walk.
-/
import Derived.Test.YtpdlapnliiengaaGStandsM
import Derived.Test.YtpdlapnliiengaaGAwake
import Derived.Test.YtpdlapnliiengaaShelf
namespace Go.Proofs.Ytpdlapnliiengaa
open Go.RowKit Go.Shelf

theorem rnl_strs (z : Nat → Nat) (l : List Nat) : rnl z l = (l.map fun i => gts (gN z i)).map .string := by
  unfold rnl
  rw [List.map_map]
  rfl
theorem gset_strs (l : List Nat) : l.map gtx = (l.map gts).map .string := by
  rw [List.map_map]
  rfl
theorem byt_in {w : World} {a : Option Addr} {n : Nat} {z : Nat → Nat} (h : Byt w a n z) : Lib.BytesIn w a n ((List.range n).map fun j => ((z j : Nat) : Int)) := fun hn => by
  rcases h.2 with h0 | ⟨b, off, rfl, hc⟩
  · omega
  · refine ⟨b, off, rfl, fun i hi => ?_⟩
    rw [hc i hi]
    simp [hi]

set_option maxRecDepth 100000 in
set_option maxHeartbeats 2000000 in
theorem stands_any (a : Option Addr) (n cap : Nat) (z : Nat → Nat) (S : ByteArray) (i : Int) (w : World) (hn : n ≤ cap) (ha : cap = 0 ∨ ∃ b off, a = some ⟨b, off, none⟩) (hz : Byt w a n z) (hn2 : n ≤ 140737488355328) (hS : S.size ≤ 140737488355328) (hi : -9223372036854775808 ≤ i ∧ i ≤ 9223372036854775807) :
    Calls Try.prog 3 #[.slice a n cap, .string S, .int .i64 i] w fun e w' => e = .returned (.bool true) ∧ Below w.heap.size w w' := by
  obtain ⟨s, hs⟩ : ∃ s, S.size = s := ⟨_, rfl⟩
  rw [hs] at hS
  by_cases hbad : 2000 < n + s ∨ s < 3 ∨ i < 0 ∨ (n : Int) < i
  · go_enter Try.func3, Try.ntmps3
    go_wp2_with fail
    refine (awake_any w).mono ?_
    rintro e w1 ⟨rfl, hB1⟩
    rcases (show (2000 : Int) < (n : Int) + (s : Int) ∨ ((n : Int) + (s : Int) ≤ 2000 ∧ (s : Int) < 3) ∨ ((n : Int) + (s : Int) ≤ 2000 ∧ 3 ≤ (s : Int) ∧ i < 0) ∨ ((n : Int) + (s : Int) ≤ 2000 ∧ 3 ≤ (s : Int) ∧ 0 ≤ i ∧ (n : Int) < i) by omega) with h | ⟨h, h2⟩ | ⟨h, h2, h3⟩ | ⟨h, h2, h3, h4⟩
    all_goals
      clear hbad
      go_wp2_with fail
      go_ret
      exact ⟨rfl, hB1⟩
  · obtain ⟨k0, rfl⟩ : ∃ k0 : Nat, i = (k0 : Int) := ⟨i.toNat, by omega⟩
    obtain ⟨m, hm⟩ : ∃ m, s - 2 = m := ⟨_, rfl⟩
    have h1 : (n : Int) + (s : Int) ≤ 2000 := by omega
    have h2 : 3 ≤ (s : Int) := by omega
    have h3 : (0 : Int) ≤ (k0 : Int) := by omega
    have h4 : (k0 : Int) ≤ (n : Int) := by omega
    have h5 : s = m + 2 := by omega
    clear hbad hi hm
    subst h5
    go_enter Try.func3, Try.ntmps3
    go_wp2_with fail
    refine (awake_any w).mono ?_
    rintro e w1 ⟨rfl, hB1⟩
    have hrun := run_any S w1 (by omega)
    rw [hs, Nat.add_sub_cancel] at hrun
    have hz1 := hz.below hB1
    have HB1 := hide hB1
    clear hz hB1
    go_wp2_with fail
    refine hrun.mono ?_
    rintro e w2 ⟨vR, rfl, hoR, hB2⟩
    rw [rnl_strs] at hoR
    obtain ⟨aR, cR, rfl, -, hmR, hcR, hsR⟩ := owns_strs hoR
    have hgr := grams_any a n cap z w2 (by omega) (hz1.below hB2)
    have hz2 := hz1.below hB2
    have HB2 := hide hB2
    clear hrun hz1 hB2 hoR
    go_wp2_with fail
    refine hgr.mono ?_
    rintro e w3 ⟨vG, rfl, hoG, hB3⟩
    have hsR3 := hsR.below hB3
    have hz3 := hz2.below hB3
    rw [show sortK (esL z (List.range (n - 2))) = gset z (n - 2) from rfl, gset_strs] at hoG
    obtain ⟨nG, hnG⟩ : ∃ nG, (esL z (List.range (n - 2))).length = nG := ⟨_, rfl⟩
    rw [hnG] at hoG
    obtain ⟨aG, cG, rfl, hnG2, hmG, hcG, hsG⟩ := owns_strs hoG
    rw [List.length_map] at hnG2
    have HB3 := hide hB3
    have HG := hide (And.intro hsG hnG2)
    have HS := hide hs
    clear hgr hB3 hoG hsR hz2 hsG hnG2 hnG
    have hss : S.size = m + 2 := HS.out
    go_wp2_with fail
    go_loopg [9, 10, 11, 12] m (fun q s9 s10 s11 s12 wr => ∃ k, k + q = m ∧ s10 = .int .i64 (k : Nat) ∧ s9 = .bool (soB z (zS S) n k0 k) ∧ wr = w3)
    case atStart => exact ⟨0, by omega, rfl, by simp [soB], rfl⟩
    case round =>
      obtain ⟨k, hkq, rfl, rfl, rfl⟩ := hrel
      cases gk with
      | zero =>
        obtain rfl : k = m := by omega
        obtain ⟨A1, A2, _, hsl, _, hz4⟩ := slices_at a n k0 cap z wr (by omega) hn ha hz3
        have hcv := Lib.run_convert_string_bytes (P := Try.prog) wr 9 22 5 S Try.underlying9 Try.underlying22 Try.underlying5
        have hold := Lib.bytesWorld_at_old wr 5 S
        have hsz1 := Lib.bytesWorld_size wr 5 S
        have hbyt := bytes_byt wr S
        have hB4 : Below wr.heap.size wr (Lib.bytesWorld wr 5 S) := ⟨rfl, rfl, rfl, by omega, hold⟩
        have hcp : k + 2 ≤ grownCap wr S.size 0 5 := by rw [← HS.out]; exact grownCap_ge _ _ _ _
        rw [HS.out] at hcv hbyt hcp
        generalize grownCap wr (k + 2) 0 5 = cp at hcv hcp
        generalize Lib.bytesWorld wr 5 S = W4 at hcv hold hsz1 hbyt hB4
        have hpf := Try.bytes_HasPrefix_all A2 (some ⟨wr.heap.size, 0, none⟩) (n - k0) (cap - k0) (k + 2) cp _ _ W4 (by simp) (by simp) (by omega) (byt_in (hz4.below hB4)) (byt_in hbyt)
        rw [← so_prefix hz3.1 (zS_lt S) n k0 (k + 2) (by omega) (by omega), Nat.add_sub_cancel] at hpf
        have HB4 := hide hB4
        have HR := hide (hsR3.below hB4)
        have hkk : ¬ ((k : Int) < (k : Int)) := by omega
        have HSO := hide (rfl : soB z (zS S) n k0 k = soB z (zS S) n k0 k)
        obtain ⟨bb, hbb⟩ : ∃ bb, soB z (zS S) n k0 k = bb := ⟨_, rfl⟩
        rw [hbb] at hpf ⊢
        have HBB := hide hbb
        have hz30 := hz3.1
        clear hz4 hold hsz1 hbyt hB4 hz3 hsR3 HSO hbb hss
        have hend : ∀ W, Below wr.heap.size wr W → Below w.heap.size w W := fun W hW => by
          have e1 := HB1.out
          have e2 := HB2.out
          have e3 := HB3.out
          have s1 := e1.size
          have s2 := e2.size
          have s3 := e3.size
          exact ((e1.trans (e2.mono s1)).trans (e3.mono (by omega))).trans (hW.mono (by omega))
        have HE := hide hend
        clear hend
        cases bb
        · go_wp2_with fail
          refine hpf.mono ?_
          rintro e w5 ⟨rfl, rfl⟩
          go_wp2_with fail
          go_loopg [13] 0 (fun q s13 wx => q = 0 ∧ s13 = .int .i64 0 ∧ wx = w5)
          case atStart => exact ⟨rfl, rfl, rfl⟩
          case round =>
            obtain ⟨rfl, rfl, rfl⟩ := hrel
            go_wp2_with fail
            go_ret
            exact ⟨rfl, HE.out _ HB4.out⟩
        · go_wp2_with fail
          refine hpf.mono ?_
          rintro e w5 ⟨rfl, rfl⟩
          go_wp2_with fail
          have hso : ∀ j, j < k → k0 + j + 2 < n ∧ gN z (k0 + j) = gN (zS S) j := of_decide_eq_true HBB.out
          obtain ⟨hsG, hnG2⟩ := HG.out
          have hmemG : ∀ j, j < k → Lib.containsS (((gset z (n - 2)).map gts).take nG) (gts (gN (zS S) j)) = true := fun j hj => by
            rw [Lib.containsS_iff, List.take_of_length_le (by rw [List.length_map]; omega)]
            refine List.mem_map.2 ⟨_, ?_, rfl⟩
            exact (gset_mem hz30 _ _).2 ⟨k0 + j, by have := (hso j hj).1; omega, (hso j hj).2⟩
          have hnG0 : 0 < nG := by
            have h0 := (gset_mem hz30 (n - 2) _).2 ⟨k0 + 0, by have := (hso 0 (by omega)).1; omega, rfl⟩
            rw [hnG2]
            exact List.length_pos_of_mem h0
          obtain ⟨bG, oG, rfl, hcG2⟩ := (hsG.below HB4.out).cell hnG0
          have hcon := fun (x : ByteArray) => Try.slices_Contains_string bG oG nG cG ((gset z (n - 2)).map gts) x w5 (by rw [List.length_map]; omega) (by omega) (fun j hj => hcG2 j (by rw [List.length_map] at hj; omega))
          obtain ⟨bR, oR, rfl, hcR2⟩ := HR.out.cell (by omega)
          have HC := hide (And.intro hmemG hcR2)
          clear hso hsG hnG2 hmemG hnG0 hcG2 hcR2
          go_loopg [13] k (fun q s13 wx => ∃ j, j + q = k ∧ s13 = .int .i64 (j : Nat) ∧ wx = w5)
          case atStart => exact ⟨0, by omega, rfl, rfl⟩
          case round =>
            obtain ⟨j, hjq, rfl, rfl⟩ := hrel
            cases gk with
            | zero =>
              obtain rfl : j = k := by omega
              clear hcon
              go_wp2_with fail
              go_ret
              exact ⟨rfl, HE.out _ HB4.out⟩
            | succ q2 =>
              have hjk : (j : Int) < (k : Int) := by omega
              have hj0 : (0 : Int) ≤ (j : Int) := by omega
              have c1 : wr.cell? ⟨bR, oR + j, none⟩ = some (.string (gts (gN (zS S) j))) := by
                rw [HC.out.2 j (by omega)]
                simp [show j < k by omega]
              have hcj := hcon (gts (gN (zS S) j))
              rw [HC.out.1 j (by omega)] at hcj
              clear hcon
              go_wp2_with fail
              refine hcj.mono ?_
              rintro e w6 ⟨rfl, rfl⟩
              go_wp2_with fail
              go_roundg q2
              case measure => omega
              case rel => exact ⟨j + 1, by omega, by go_num, rfl⟩
      | succ q =>
        have hkm : k < m := by omega
        have hkz : (k : Int) < (m : Int) := by omega
        have hk0 : (0 : Int) ≤ (k : Int) := by omega
        have hat := gat_any a n cap z ((k0 : Int) + (k : Int)) wr (by omega) hn hz3 (by omega)
        obtain ⟨b, off, rfl, hcR2⟩ := hsR3.cell (by omega)
        have c1 : wr.cell? ⟨b, off + k, none⟩ = some (.string (gts (gN (zS S) k))) := by
          rw [hcR2 k hkm]
          simp [hkm]
        have hsu := soB_succ z (zS S) n k0 k
        have ok1 := gN_ok hz3.1 (k0 + k)
        have ok2 := gN_ok (zS_lt S) k
        have HSU := hide hsu
        have HOK := hide (And.intro ok1 ok2)
        have HZ := hide (And.intro hz3 hsR3)
        clear hcR2 hsu ok1 ok2 hz3 hsR3
        unfold atV at hat
        rw [show ((k0 : Int) + (k : Int)).toNat = k0 + k by omega] at hat
        by_cases hin : k0 + k + 2 < n
        · rw [if_pos (by omega), gtx_eq] at hat
          generalize hb : soB z (zS S) n k0 k = bb at *
          cases bb
          · go_wp2_with fail
            refine hat.mono ?_
            rintro e w' ⟨rfl, rfl⟩
            go_wp2_with fail
            go_roundg q
            case measure => omega
            case rel =>
              refine ⟨k + 1, by omega, by go_num, ?_, rfl⟩
              rw [HSU.out]; rfl
          · go_wp2_with fail
            refine hat.mono ?_
            rintro e w' ⟨rfl, rfl⟩
            go_wp2_with fail
            go_roundg q
            case measure => omega
            case rel =>
              refine ⟨k + 1, by omega, by go_num, ?_, rfl⟩
              rw [HSU.out, gts_beq HOK.out.1 HOK.out.2, Bool.true_and]
              simp only [hin, true_and]
        · rw [if_neg (by omega)] at hat
          generalize hb : soB z (zS S) n k0 k = bb at *
          cases bb
          all_goals
            go_wp2_with fail
            refine hat.mono ?_
            rintro e w' ⟨rfl, rfl⟩
            go_wp2_with fail
            go_roundg q
            case measure => omega
            case rel =>
              refine ⟨k + 1, by omega, by go_num, ?_, rfl⟩
              rw [HSU.out, decide_eq_false (fun h => hin h.1), Bool.and_false]
end Go.Proofs.Ytpdlapnliiengaa
