/-
  LangKnown's walk.
-/
import Derived.Test.YteignimfggkgnaaLKnownM
import Derived.Test.YteignimfggkgnaaLKnownR
namespace Go.Proofs.Yteignimfggkgnaa
open Go.RowKit Go.Shelf

attribute [local go_sem] Oper.semAt_some

set_option maxRecDepth 100000 in
set_option maxHeartbeats 4000000 in
theorem langKnown_any (L : List UInt8) (w : World) (hL : L.length ≤ 140737488351232) :
    Calls Try.prog 5 #[by8 L] w fun e w' => e = .returned (.bool true) ∧ Below w.heap.size w w' := by
  have hsz : (⟨L.toArray⟩ : ByteArray).size = L.length := by simp [ByteArray.size]
  unfold by8
  go_enter Try.func5, Try.ntmps5
  go_wp2_with fail
  refine (awake_any w).mono ?_
  rintro e w1 ⟨rfl, hb1⟩
  have R1 := hide hb1
  clear hb1
  by_cases hm : L.length ≤ 4000
  case neg =>
    have hm1 : (4000 : Int) < (L.length : Int) := by omega
    go_wp2_with fail
    go_ret
    exact ⟨rfl, R1.out⟩
  have hm1 : ¬ (4000 : Int) < (L.length : Int) := by omega
  have hm2 : (L.length : Int) ≤ 4000 := by omega
  go_wp2_with fail
  refine (all_any w1).mono ?_
  rintro e w2 ⟨g, C, rfl, hgl, hcells, hb2⟩
  have R2 := hide (R1.out.trans (hb2.mono R1.out.size))
  rw [all_len] at hcells ⊢
  have HC := hide hcells
  clear hb2 hcells
  go_wp2_with fail
  refine (of_any L w2 (by omega)).mono ?_
  rintro e w3 ⟨rfl, hb3⟩
  have R3 := hide (R2.out.trans (hb3.mono R2.out.size))
  have HC3 := hide (fun j (hj : j < 17) => cell_thru (HC.out j hj) hb3)
  clear hb3
  obtain ⟨q, hq⟩ : ∃ q, ofL L = q := ⟨_, rfl⟩
  have HQ := hide hq
  rw [hq]
  clear hq
  unfold by8
  go_wp2_with fail
  go_loopg [5] 16 (fun r s5 wr => ∃ m : Nat, m + r = 16 ∧ s5 = .int .i64 ((m : Int) + 1) ∧ Below w3.heap.size w3 wr)
  case atStart => exact ⟨0, by omega, rfl, Below.refl _ _⟩
  case round =>
    obtain ⟨m, hmr, rfl, hbr⟩ := hrel
    have HB := hide hbr
    clear hbr
    cases gk with
    | succ r =>
      have hlt : (m : Int) + 1 < 17 := by omega
      go_wp2_with fail
      refine (wpIn_wide (n := 0)).1 (lkn9 wide_plain g C 17 m (allL.getD m []) (allL.getD (m + 1) []) _ _ _ _ rfl rfl rfl (by omega) (by omega) (cell_thru (HC3.out m (by omega)) HB.out) (cell_thru (HC3.out (m + 1) (by omega)) HB.out) (all_rise m (by omega)) ?_)
      intro vs w4 hb4 h29
      simp only [List.foldl_cons, List.foldl_nil, List.setIfInBounds_toArray, List.set_cons_succ, List.set_cons_zero]
      rw [h29]
      have HB4 := hide (HB.out.trans (hb4.mono HB.out.size))
      clear hb4 h29
      go_wp2_with fail
      go_roundg r
      case measure => omega
      case rel => exact ⟨m + 1, by omega, by go_num, HB4.out⟩
    | zero =>
      obtain rfl : m = 16 := by omega
      have R4 := hide (R3.out.trans (HB.out.mono R3.out.size))
      rcases List.eq_nil_or_concat L with h0 | ⟨M, c, hMc⟩
      · subst h0
        obtain rfl : q = [] := by rw [← HQ.out]; decide +kernel
        go_wp2_with fail
        go_ret
        exact ⟨rfl, R4.out⟩
      rw [List.concat_eq_append] at hMc
      have hlk : L.length = M.length + 1 := by rw [hMc]; simp
      have hlk1 : ((M.length : Int) + 1) - 1 = (M.length : Int) := by omega
      have hlk2 : (L.length : Int) = (M.length : Int) + 1 := by omega
      have hlz : L.isEmpty = false := by rw [hMc]; simp
      have hbk : ((⟨L.toArray⟩ : ByteArray)[M.length]'(by rw [hsz]; omega)) = c := by
        simp [ByteArray.getElem_eq_getElem_data, hMc]
      have h63 := IntWalk.i64_in (M.length : Int) (by omega)
      have HMC := hide hMc
      clear hMc
      by_cases hc : c = 47
      · subst hc
        obtain rfl : q = [] := by rw [← HQ.out, HMC.out]; exact of_slash M
        go_wp2_with fail
        go_ret
        exact ⟨rfl, R4.out⟩
      · have HLS := hide (show lastP (partsL L) ≠ [] by rw [HMC.out]; exact last_some M c hc)
        have hcn : ((c.toNat : Int) == 47) = false := by
          rw [beq_eq_false_iff_ne]
          intro e
          exact hc (UInt8.toNat_inj.1 (by show c.toNat = 47; omega))
        by_cases hq0 : q = []
        · subst hq0
          go_wp2_with fail
          have hcat1 : (⟨L.toArray⟩ : ByteArray) ++ ⟨#[46, 114, 115]⟩ = ⟨(L ++ [46, 114, 115]).toArray⟩ := by
            apply ByteArray.ext
            apply Array.toList_inj.1
            simp
          have hcat2 : (⟨L.toArray⟩ : ByteArray) ++ ⟨#[46, 110, 111, 110, 101]⟩ = ⟨(L ++ [46, 110, 111, 110, 101]).toArray⟩ := by
            apply ByteArray.ext
            apply Array.toList_inj.1
            simp
          rw [hcat1]
          refine (of_any (L ++ [46, 114, 115]) wr (by rw [List.length_append]; simp; omega)).mono ?_
          rintro e w8 ⟨rfl, hb8⟩
          have R8 := hide (R4.out.trans (hb8.mono R4.out.size))
          clear hb8
          rw [of_rs L HLS.out]
          rw [show by8 [114, 117, 115, 116] = .string ⟨#[114, 117, 115, 116]⟩ from rfl]
          go_wp2_with fail
          try rw [hcat2]
          refine (of_any (L ++ [46, 110, 111, 110, 101]) w8 (by rw [List.length_append]; simp; omega)).mono ?_
          rintro e w9 ⟨rfl, hb9⟩
          have R9 := hide (R8.out.trans (hb9.mono R8.out.size))
          clear hb9
          rw [of_none L HLS.out]
          rw [show by8 [] = .string ⟨#[]⟩ from rfl]
          go_wp2_with fail
          go_ret
          exact ⟨rfl, R9.out⟩
        ·
          have hne : ((⟨q.toArray⟩ : ByteArray) == ⟨#[]⟩) = false := by
            rw [show (⟨#[]⟩ : ByteArray) = ⟨([] : List UInt8).toArray⟩ from rfl, by8_beq]
            simpa using hq0
          have hie : q.isEmpty = false := by cases q; exact absurd rfl hq0; rfl
          have hmem : q ∈ allL := by rw [← HQ.out]; exact name_in _ (by rw [← show ofL L = nameL (extL (lastP (partsL L))) from rfl, HQ.out]; exact hq0)
          have hpt : (46 : UInt8) ∈ L := has_point L (by rw [HQ.out]; exact hq0)
          have hix := index_has L 46 hpt
          have hcon := Try.slices_Contains_string g 0 17 C (allL.map fun l => (⟨l.toArray⟩ : ByteArray)) ⟨q.toArray⟩ wr (by rw [List.length_map, all_len]; exact Nat.le_refl _) (by omega) (fun j hj => by
            rw [List.length_map, all_len] at hj
            rw [Nat.zero_add, cell_thru (HC3.out j hj) HB.out]
            simp only [by8, List.getD_eq_getElem?_getD, List.getElem?_map, List.getElem?_eq_getElem (show j < allL.length by rw [all_len]; exact hj), Option.map_some, Option.getD_some])
          have htr : Lib.containsS ((allL.map fun l => (⟨l.toArray⟩ : ByteArray)).take 17) ⟨q.toArray⟩ = true := by
            rw [List.take_of_length_le (by rw [List.length_map, all_len]; exact Nat.le_refl _)]
            exact (Lib.containsS_iff _ _).2 (List.mem_map.2 ⟨q, hmem, rfl⟩)
          rw [htr] at hcon
          have hone := Try.strings_Contains_one ⟨L.toArray⟩ 46 wr
          rw [show decide (0 ≤ Lib.indexByte (⟨L.toArray⟩ : ByteArray).data.toList 46) = true from decide_eq_true hix] at hone
          clear htr hix hpt hmem
          go_wp2_with fail
          refine hcon.mono ?_
          rintro e w6 ⟨rfl, rfl⟩
          go_wp2_with fail
          refine hone.mono ?_
          rintro e w7 ⟨rfl, rfl⟩
          go_wp2_with fail
          have hcat1 : (⟨L.toArray⟩ : ByteArray) ++ ⟨#[46, 114, 115]⟩ = ⟨(L ++ [46, 114, 115]).toArray⟩ := by
            apply ByteArray.ext
            apply Array.toList_inj.1
            simp
          have hcat2 : (⟨L.toArray⟩ : ByteArray) ++ ⟨#[46, 110, 111, 110, 101]⟩ = ⟨(L ++ [46, 110, 111, 110, 101]).toArray⟩ := by
            apply ByteArray.ext
            apply Array.toList_inj.1
            simp
          rw [hcat1]
          refine (of_any (L ++ [46, 114, 115]) w7 (by rw [List.length_append]; simp; omega)).mono ?_
          rintro e w8 ⟨rfl, hb8⟩
          have R8 := hide (R4.out.trans (hb8.mono R4.out.size))
          clear hb8
          rw [of_rs L HLS.out]
          rw [show by8 [114, 117, 115, 116] = .string ⟨#[114, 117, 115, 116]⟩ from rfl]
          go_wp2_with fail
          try rw [hcat2]
          refine (of_any (L ++ [46, 110, 111, 110, 101]) w8 (by rw [List.length_append]; simp; omega)).mono ?_
          rintro e w9 ⟨rfl, hb9⟩
          have R9 := hide (R8.out.trans (hb9.mono R8.out.size))
          clear hb9
          rw [of_none L HLS.out]
          rw [show by8 [] = .string ⟨#[]⟩ from rfl]
          go_wp2_with fail
          go_ret
          exact ⟨rfl, R9.out⟩
end Go.Proofs.Yteignimfggkgnaa
