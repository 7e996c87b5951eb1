/-
  DocBack's walk (written by tools/gen-dbackw.py).
-/
import Derived.Test.YtpmldopbjlnknaaDAwake
import Derived.Test.YtpmldopbjlnknaaDBackR
import Derived.Test.YtpmldopbjlnknaaDBase
namespace Go.Proofs.Ytpmldopbjlnknaa
open Go.RowKit Go.Shelf

theorem map_paths (f : Nat → Fil) (n : Nat) : ((filesL f n).map docF).map DT.P = pathsN (fun i => (f i).P) n := by
  unfold filesL pathsN
  rw [List.map_map, List.map_map]
  rfl
theorem rise_of {f : Nat → Fil} {n : Nat} (h : rightF (filesL f n) = true) : riseP [] (pathsN (fun i => (f i).P) n) = true ∧ n ≤ 4000 := by
  rw [rightF_eq] at h
  simp only [Bool.and_eq_true, decide_eq_true_eq] at h
  exact ⟨h.1.2, h.1.1⟩
theorem files_at {f : Nat → Fil} {n i : Nat} (h : i < n) : ((filesL f n).map docF)[i]? = some (docF ((f i).P, (f i).B)) := by
  simp [filesL, h]

set_option maxRecDepth 100000 in
set_option maxHeartbeats 8000000 in
theorem docBack_any (a : Option Addr) (n ca : Nat) (f : Nat → Fil) (ab : Option Addr) (lb cb : Nat) (L : List Nat) (w : World) (hn : n ≤ 140737488351232) (hfl : Fils w a n f) (hl : ∀ i, i < n → (f i).P.length ≤ 140737488351232 ∧ (f i).B.length ≤ 140737488351232)
    (hL : L.length = lb) (hlb : lb ≤ cb) (_ : cb ≤ 9223372036854775807) (hnb : ab = none → cb = 0) (hbl : BL w ab L) :
    Calls Try.prog 5 #[.slice a n ca, .slice ab lb cb] w fun e w' => e = .returned (.bool true) ∧ Below w.heap.size w w' := by
  have HF := hide (And.intro hfl hl)
  clear hfl hl
  go_enter Try.func5, Try.ntmps5
  go_wp2_with fail
  refine (awake22_any w).mono ?_
  rintro e w1 ⟨rfl, hb1⟩
  have HB1 := hide hb1
  have hcn := filesOf_any a n ca f w1 hn (HF.out.1.below hb1) HF.out.2
  clear hb1
  go_wp2_with fail
  refine hcn.mono ?_
  rintro e w2 ⟨⟨r, rfl, hr⟩, hb2⟩
  have HB2 := hide (HB1.out.trans (hb2.mono HB1.out.size))
  clear hcn hb2
  by_cases hbig : 4000 < r
  · have hz : (4000 : Int) < (r : Int) := by omega
    clear hr
    go_wp2_with fail
    go_ret
    exact ⟨rfl, HB2.out⟩
  have hc := hr (by omega)
  have hz : (r : Int) ≤ 4000 := by omega
  clear hr
  by_cases hbig2 : 4000 < lb
  · have hz2 : (4000 : Int) < (lb : Int) := by omega
    go_wp2_with fail
    go_ret
    exact ⟨rfl, HB2.out⟩
  have hz2 : (lb : Int) ≤ 4000 := by omega
  obtain ⟨hcl, hci⟩ := cntF_le f n
  have hP : ∀ i, i < n → (f i).P.length ≤ 1000000 := fun i hi => by have := hci i hi; omega
  have hn4 : n ≤ 4000 := by omega
  have HP := hide (And.intro hP hc)
  clear hcl hci hc
  cases hrf : rightF (filesL f n) with
  | false =>
    have hof := docOf_bad a n ca f w2 (by omega) (HF.out.1.below HB2.out) hP hrf
    have HRF := hide hrf
    clear hP hrf
    go_wp2_with fail
    refine hof.mono ?_
    rintro e w3 ⟨rfl, hb3⟩
    have HB3 := hide (HB2.out.trans (hb3.mono HB2.out.size))
    have hfi := rightFiles_l a n ca f w3 (by omega) (HF.out.1.below HB3.out) HP.out.1
    rw [HRF.out] at hfi
    clear hof hb3
    go_wp2_with fail
    refine hfi.mono ?_
    rintro e w4 ⟨rfl, hb4⟩
    have HX := hide (HB3.out.trans (hb4.mono HB3.out.size))
    clear hfi hb4
    -- the bytes
    have hBX := HX.out
    have hgt := docGet_any ab lb cb L w4 hL (by omega) hlb hnb (hbl.below hBX)
    go_wp2_with fail
    refine hgt.mono ?_
    rintro e w20 ⟨⟨v20, rfl, ho20, hno20⟩, hb20⟩
    have HB20 := hide (hBX.trans (hb20.mono hBX.size))
    obtain ⟨A20, C20, rfl, hd20, _, _, _⟩ := ho20.docs
    cases hgd : getDocs L with
    | none =>
      obtain ⟨e1, e2⟩ := getD_none hgd
      rw [e2] at hd20 ⊢
      rw [e1]
      have hpt := docPut_ok A20 C20 [] w20 (by simp) hd20 (fun d hd => by cases hd) (fun d hd => by cases hd) (by decide +kernel)
      clear hgt ho20 hno20 hb20 hgd e1 e2 hBX hd20
      simp only [List.length_nil] at hpt ⊢
      go_wp2_with fail
      refine hpt.mono ?_
      rintro e w21 ⟨⟨v21, rfl, ho21⟩, hb21⟩
      have HB21 := hide (HB20.out.trans (hb21.mono HB20.out.size))
      clear hpt ho21 hb21
      go_wp2_with fail
      go_ret
      exact ⟨rfl, HB21.out⟩
    | some es =>
      obtain ⟨e1, e2⟩ := getD_some hgd
      obtain ⟨t1, t2, t3⟩ := getDocs_is hbl.lt hgd
      have hel : es.length ≤ 4000 := by
        unfold rightD at t2
        simp only [Bool.and_eq_true, decide_eq_true_eq] at t2
        exact t2.1.1
      rw [e2] at hd20 ⊢
      rw [e1]
      have hpt := docPut_ok A20 C20 es w20 (by omega) hd20 (fun d hd => by have := (t3 d hd).1; omega) (fun d hd => (t3 d hd).2.2.1) t2
      rw [t1, hL] at hpt
      clear hgt ho20 hno20 hb20 hgd e1 e2 hBX hd20 t1 t2 t3
      go_wp2_with fail
      refine hpt.mono ?_
      rintro e w21 ⟨⟨v21, rfl, ho21⟩, hb21⟩
      obtain ⟨hle21, A21, C21, rfl, _, _, _, _, hbl21, _⟩ := owns_bl ho21 hbl.lt
      have hsb := sameBytes_any A21 ab lb C21 cb L w21 hL (by omega) hbl21 (hbl.below (HB20.out.trans (hb21.mono HB20.out.size)))
      have HB21 := hide (HB20.out.trans (hb21.mono HB20.out.size))
      clear hpt ho21 hb21 hbl21 hle21
      go_wp2_with fail
      refine hsb.mono ?_
      rintro e w22 ⟨rfl, hb22⟩
      have HB22 := hide (HB21.out.trans (hb22.mono HB21.out.size))
      clear hsb hb22
      go_wp2_with fail
      go_ret
      exact ⟨rfl, HB22.out⟩
  | true =>
    have hof := docOf_ok a n ca f w2 (by omega) (HF.out.1.below HB2.out) hP hrf
    have HRF := hide hrf
    clear hP hrf
    go_wp2_with fail
    refine hof.mono ?_
    rintro e w3 ⟨⟨v3, rfl, ho3⟩, hb3⟩
    have HB3 := hide (HB2.out.trans (hb3.mono HB2.out.size))
    have hfi := rightFiles_l a n ca f w3 (by omega) (HF.out.1.below HB3.out) HP.out.1
    rw [HRF.out] at hfi
    obtain ⟨A3, C3, rfl, hd3, _, _, _⟩ := ho3.docs
    have hdl : ((filesL f n).map docF).length = n := by rw [List.length_map, filesL_length]
    have hrd := rightD_of HRF.out
    have hmp : ∀ d ∈ (filesL f n).map docF, ∃ i, i < n ∧ d = docF ((f i).P, (f i).B) := fun d hd => by
      obtain ⟨p, hp, rfl⟩ := List.mem_map.1 hd
      obtain ⟨i, hi, rfl⟩ := List.mem_map.1 hp
      exact ⟨i, List.mem_range.1 hi, rfl⟩
    have hdS : ∀ d ∈ (filesL f n).map docF, d.S < 4294967296 := fun d hd => by
      obtain ⟨i, _, rfl⟩ := hmp d hd
      exact crcL_lt _
    have hdP : ∀ d ∈ (filesL f n).map docF, d.P.length ≤ 1000000 := fun d hd => by
      obtain ⟨i, hi, rfl⟩ := hmp d hd
      exact HP.out.1 i hi
    obtain ⟨ds, hds⟩ : ∃ ds, (filesL f n).map docF = ds := ⟨_, rfl⟩
    rw [hds] at hd3 hdl hrd hdS hdP ⊢
    have HD := hide (And.intro hds (And.intro hrd (And.intro hdS hdP)))
    have HD3 := hide (And.intro hd3 hdl)
    rw [hdl]
    clear hof hb3 ho3 hd3 hds hrd hdS hdP hmp hdl
    go_wp2_with fail
    refine hfi.mono ?_
    rintro e w4 ⟨rfl, hb4⟩
    have HB4 := hide (HB3.out.trans (hb4.mono HB3.out.size))
    have hd4 := HD3.out.1.below hb4
    have hpt := docPut_ok A3 C3 ds w4 (by rw [HD3.out.2]; omega) hd4 HD.out.2.2.2 HD.out.2.2.1 HD.out.2.1
    rw [HD3.out.2] at hpt
    have HD4 := hide hd4
    clear hfi hb4 hd4
    go_wp2_with fail
    refine hpt.mono ?_
    rintro e w5 ⟨⟨v5, rfl, ho5⟩, hb5⟩
    obtain ⟨hl5, A5, C5, rfl, hlc5, hmc5, hnc5, _, hbl5, _⟩ := owns_bl ho5 (tableD_lt ds)
    have hB5 := HB4.out.trans (hb5.mono HB4.out.size)
    have hok := (rightD_ok HD.out.2.1 HD.out.2.2.1).1
    have htl : (tableD ds).length ≤ 1000000 := by
      have h1 := bodyD_len ds hok
      rw [HD3.out.2] at h1
      have h2 := encN_len6 (n := ds.length) (by rw [HD3.out.2]; unfold maxNum; omega)
      unfold tableD
      rw [List.length_append]
      omega
    obtain ⟨tl, htl2⟩ : ∃ t, (tableD ds).length = t := ⟨_, rfl⟩
    rw [htl2] at htl hlc5 ⊢
    have hgt := docGet_any A5 tl C5 (tableD ds) w5 htl2 (by omega) hlc5 hnc5 hbl5
    obtain ⟨e1, e2⟩ := getD_some (getDocs_put HD.out.2.1 HD.out.2.2.1)
    rw [e1, e2] at hgt
    have HB5 := hide hB5
    have HD5 := hide (HD4.out.below hb5)
    clear hpt ho5 hb5 hbl5 hB5 hok e1 e2 hl5 htl2
    go_wp2_with fail
    refine hgt.mono ?_
    rintro e w6 ⟨⟨v6, rfl, ho6, _⟩, hb6⟩
    obtain ⟨A6, C6, rfl, hd6, _, _, _⟩ := ho6.docs
    rw [HD3.out.2]
    have HB6 := hide (HB5.out.trans (hb6.mono HB5.out.size))
    have HD6 := hide (And.intro (HD5.out.below hb6) hd6)
    have hrt := rightDocs_l A3 C3 ds w6 (by rw [HD3.out.2]; omega) HD6.out.1 HD.out.2.2.2
    rw [HD.out.2.1, HD3.out.2] at hrt
    clear hgt ho6 hb6 hd6
    go_wp2_with fail
    refine hrt.mono ?_
    rintro e w7 ⟨rfl, hb7⟩
    have HB7 := hide (HB6.out.trans (hb7.mono HB6.out.size))
    have hsd := sameDocs_any A6 A3 C6 C3 ds w7 (by rw [HD3.out.2]; omega) (HD6.out.2.below hb7) (HD6.out.1.below hb7)
    rw [HD3.out.2] at hsd
    have HD7 := hide (HD6.out.1.below hb7)
    clear hrt hb7
    go_wp2_with fail
    refine hsd.mono ?_
    rintro e w8 ⟨rfl, hb8⟩
    have HB8 := hide (HB7.out.trans (hb8.mono HB7.out.size))
    have HD8 := hide (HD7.out.below hb8)
    clear hsd hb8
    go_wp2_with fail
    go_loopg [11] n (fun q s11 wr => ∃ k : Nat, k + q = n ∧ s11 = .int .i64 k ∧ Below w8.heap.size w8 wr)
    case atStart => exact ⟨0, by omega, rfl, Below.refl _ _⟩
    case round =>
      obtain ⟨k, hkq, rfl, hBr⟩ := hrel
      have HX := hide (HB8.out.trans (hBr.mono HB8.out.size))
      have HDr := hide (HD8.out.below hBr)
      have HBr := hide hBr
      clear hBr
      cases gk with
      | zero =>
        obtain rfl : k = n := by omega
        -- the bytes
        have hBX := HX.out
        have hgt := docGet_any ab lb cb L wr hL (by omega) hlb hnb (hbl.below hBX)
        go_wp2_with fail
        refine hgt.mono ?_
        rintro e w20 ⟨⟨v20, rfl, ho20, hno20⟩, hb20⟩
        have HB20 := hide (hBX.trans (hb20.mono hBX.size))
        obtain ⟨A20, C20, rfl, hd20, _, _, _⟩ := ho20.docs
        cases hgd : getDocs L with
        | none =>
          obtain ⟨e1, e2⟩ := getD_none hgd
          rw [e2] at hd20 ⊢
          rw [e1]
          have hpt := docPut_ok A20 C20 [] w20 (by simp) hd20 (fun d hd => by cases hd) (fun d hd => by cases hd) (by decide +kernel)
          clear hgt ho20 hno20 hb20 hgd e1 e2 hBX hd20
          simp only [List.length_nil] at hpt ⊢
          go_wp2_with fail
          refine hpt.mono ?_
          rintro e w21 ⟨⟨v21, rfl, ho21⟩, hb21⟩
          have HB21 := hide (HB20.out.trans (hb21.mono HB20.out.size))
          clear hpt ho21 hb21
          go_wp2_with fail
          go_ret
          exact ⟨rfl, HB21.out⟩
        | some es =>
          obtain ⟨e1, e2⟩ := getD_some hgd
          obtain ⟨t1, t2, t3⟩ := getDocs_is hbl.lt hgd
          have hel : es.length ≤ 4000 := by
            unfold rightD at t2
            simp only [Bool.and_eq_true, decide_eq_true_eq] at t2
            exact t2.1.1
          rw [e2] at hd20 ⊢
          rw [e1]
          have hpt := docPut_ok A20 C20 es w20 (by omega) hd20 (fun d hd => by have := (t3 d hd).1; omega) (fun d hd => (t3 d hd).2.2.1) t2
          rw [t1, hL] at hpt
          clear hgt ho20 hno20 hb20 hgd e1 e2 hBX hd20 t1 t2 t3
          go_wp2_with fail
          refine hpt.mono ?_
          rintro e w21 ⟨⟨v21, rfl, ho21⟩, hb21⟩
          obtain ⟨hle21, A21, C21, rfl, _, _, _, _, hbl21, _⟩ := owns_bl ho21 hbl.lt
          have hsb := sameBytes_any A21 ab lb C21 cb L w21 hL (by omega) hbl21 (hbl.below (HB20.out.trans (hb21.mono HB20.out.size)))
          have HB21 := hide (HB20.out.trans (hb21.mono HB20.out.size))
          clear hpt ho21 hb21 hbl21 hle21
          go_wp2_with fail
          refine hsb.mono ?_
          rintro e w22 ⟨rfl, hb22⟩
          have HB22 := hide (HB21.out.trans (hb22.mono HB21.out.size))
          clear hsb hb22
          go_wp2_with fail
          go_ret
          exact ⟨rfl, HB22.out⟩
      | succ q =>
        have hkn : k < n := by omega
        have hkz : (k : Int) < (n : Int) := by omega
        have hat : ds[k]? = some (docF ((f k).P, (f k).B)) := by rw [← HD.out.1]; exact files_at hkn
        have hri := rise_of HRF.out
        have hfind : findN (f k).P 0 (pathsN (fun i => (dAt ds i).P) n) = (k : Int) := by
          have e : pathsN (fun i => (dAt ds i).P) n = pathsN (fun i => (f i).P) n := by
            rw [← map_paths, HD.out.1]
            conv => rhs; rw [← docsN_at ds]
            rw [HD3.out.2]
            unfold pathsN docsN
            rw [List.map_map]
            rfl
          rw [e]
          have := findN_rise (f k).P (pathsN (fun i => (f i).P) n) [] 0 k hri.1 (by simp [pathsN, hkn])
          simpa using this
        have hrow := HDr.out.row
        rw [HD3.out.2] at hrow
        obtain ⟨gD, oD, rfl, d0, d1, d2, d3⟩ := HDr.out.cells hat
        obtain ⟨gF, oF, rfl, ⟨f0, f1⟩, hokk⟩ := (HF.out.1.below HX.out).cells k hkn
        have HK := hide (And.intro d0 (And.intro d1 (And.intro d2 (And.intro d3 (And.intro f0 (And.intro f1 (And.intro hokk (And.intro hrow hfind))))))))
        clear hat hri hfind hrow d0 d1 d2 d3 f0 f1 hokk
        go_wp2_with fail
        refine (wpIn_wide (n := 0)).1 (dbk16 wide_plain gD oD gF oF n C3 ca k (f k).P (f k).pB (f k).B (f k).cB (dAt ds) _ _ _ _ rfl rfl rfl rfl hkn hn4 HK.out.1 HK.out.2.1 HK.out.2.2.1 HK.out.2.2.2.1 HK.out.2.2.2.2.1 HK.out.2.2.2.2.2.1 (HP.out.1 k hkn) HK.out.2.2.2.2.2.2.1.lB HK.out.2.2.2.2.2.2.1.mB HK.out.2.2.2.2.2.2.1.bB HK.out.2.2.2.2.2.2.2.1 HK.out.2.2.2.2.2.2.2.2 ?_)
        intro vs W9 hb9 h142
        simp only [List.foldl_cons, List.foldl_nil, List.setIfInBounds_toArray, List.set_cons_succ, List.set_cons_zero]
        rw [h142]
        have H9 := hide (HBr.out.trans (hb9.mono HBr.out.size))
        clear h142 hb9
        go_wp2_with fail
        go_roundg q
        case measure => omega
        case rel => exact ⟨k + 1, by omega, by go_num, H9.out⟩
end Go.Proofs.Ytpmldopbjlnknaa
