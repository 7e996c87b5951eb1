/-
  mudlarkref22's Right, of documents that fit.
-/
import Derived.Test.YtpmldopbjlnknaaDRefG
import Derived.Test.YtpmldopbjlnknaaRefRdS
namespace Go.Proofs.Ytpmldopbjlnknaa
open Go.RowKit Go.Shelf

theorem nil_ltP {p : List UInt8} (h : rightP p = true) : ltP [] p = true := by
  cases p with
  | nil => exact absurd rfl (rightP_ne h)
  | cons x r => exact (ltP_iff _ _).2 (by simp)
theorem rise_succ (P : Nat → List UInt8) (k : Nat) : riseP [] (pathsN P (k + 1)) = (riseP [] (pathsN P k) && (ltP (lastOf [] (pathsN P k)) (P k) && rightP (P k))) := by
  rw [pathsN_succ, riseP_snoc]
theorem last_succ (P : Nat → List UInt8) (j : Nat) : lastOf [] (pathsN P (j + 1)) = P j := by
  rw [pathsN_succ, lastOf_snoc]
/-- What a reference's round finds. -/
theorem rise_round (P : Nat → List UInt8) (k n : Nat) (hk : k < n) (hg : riseP [] (pathsN P k) = true) :
    (rightP (P k) = false → riseP [] (pathsN P n) = false) ∧ (rightP (P k) = true → k = 0 → riseP [] (pathsN P (k + 1)) = true) ∧
    (∀ j, k = j + 1 → ltP (P j) (P k) = false → riseP [] (pathsN P n) = false) ∧ (∀ j, k = j + 1 → rightP (P k) = true → ltP (P j) (P k) = true → riseP [] (pathsN P (k + 1)) = true) := by
  obtain ⟨r, hr⟩ := pathsN_split P hk
  refine ⟨fun h => ?_, fun h h0 => ?_, fun j hj h => ?_, fun j hj h h2 => ?_⟩
  · rw [hr]; exact riseP_bad (by rw [h, Bool.and_false])
  · rw [rise_succ, hg, h, h0]
    rw [h0] at h
    exact by rw [show lastOf [] (pathsN P 0) = [] from rfl, nil_ltP h]; rfl
  · rw [hr]
    refine riseP_bad ?_
    rw [hj, last_succ, ← hj, h]
    rfl
  · rw [rise_succ, hg, h]
    conv => lhs; rw [hj, last_succ, ← hj, h2]
    rfl
set_option maxRecDepth 100000 in
set_option maxHeartbeats 4000000 in
theorem refRightFit_any (a : Option Addr) (n ca : Nat) (f : Nat → DT) (w : World) (hn : n ≤ 140737488351232) (hrow : RowK w a 4 n (fun i => cellD (f i))) (hP : ∀ i, i < n → (f i).P.length ≤ 1000000) (hfit : ∀ i, i < n → fitD (f i) = true) :
    Calls Try.prog 45 #[.slice a n ca] w fun e w' => e = .returned (.bool (rightD (docsN f n))) ∧ Below w.heap.size w w' := by
  have hres : rightD (docsN f n) = (decide (n ≤ 4000) && riseP [] (pathsN (fun i => (f i).P) n)) := by
    rw [rightD_eq, show ((List.range n).all fun i => fitD (f i)) = true from List.all_eq_true.2 (fun i hi => hfit i (List.mem_range.1 hi)), Bool.and_true]
  have HR := hide hrow
  have HH := hide (And.intro hP (And.intro hfit hres))
  clear hrow hP hfit hres
  go_enter Try.func45, Try.ntmps45
  go_wp2_with fail
  go_loopg [3] n (fun q s3 wr => ∃ k : Nat, k + q = n ∧ s3 = .int .i64 k ∧ riseP [] (pathsN (fun i => (f i).P) k) = true ∧ Below w.heap.size w wr)
  case atStart => exact ⟨0, by omega, rfl, rfl, Below.refl _ _⟩
  case round =>
    obtain ⟨k, hkq, rfl, hg, hB⟩ := hrel
    have HC := hide (And.intro hg hB)
    clear hg
    cases gk with
    | zero =>
      obtain rfl : k = n := by omega
      clear hB
      go_wp2_with fail
      go_ret
      refine ⟨?_, HC.out.2⟩
      rw [HH.out.2.2, HC.out.1, Bool.and_true]
      have : decide ((k : Int) ≤ 4000) = decide (k ≤ 4000) := by rw [decide_eq_decide]; omega
      rw [← this]
      rfl
    | succ q =>
      have hkn : k < n := by omega
      have hkz : (k : Int) < (n : Int) := by omega
      have hb := HR.out.below hB
      obtain ⟨g, o, rfl, d0, d1, d2, d3⟩ := hb.at4 hkn
      have hfk := HH.out.2.1 k hkn
      unfold fitD at hfk
      simp only [Bool.and_eq_true, decide_eq_true_eq] at hfk
      obtain ⟨r1, r2, r3, r4⟩ := rise_round (fun i => (f i).P) k n hkn HC.out.1
      have hl2 : (!((f k).L == ofL (f k).P)) = false := by rw [hfk.1]; simp
      have hl3 : decide ((f k).Z < 0) = false := decide_eq_false (by omega)
      have hl4 : decide ((1048576 : Int) < (f k).Z) = false := decide_eq_false (by omega)
      have HX := hide (And.intro d0 (And.intro d1 (And.intro d3 (And.intro hl2 (And.intro hl3 (And.intro hl4 (HH.out.1 k hkn)))))))
      have HD := hide (And.intro r1 (And.intro r2 (And.intro r3 r4)))
      have HB := hide hb
      clear hB hb d0 d1 d2 d3 hfk hl2 hl3 hl4 r1 r2 r3 r4
      cases hrt : rightP (f k).P with
      | false =>
        have H1 := hide hrt
        clear hrt
        go_wp2_with fail
        refine (wpIn_wide (n := 0)).1 (drrC wide_plain g o n ca k 0 (f k) (f k).P [] _ _ _ _ rfl rfl rfl hkn hn HX.out.1 HX.out.2.2.2.2.2.2 H1.out ?_)
        intro vs W5 hb5 h64
        simp only [List.foldl_cons, List.foldl_nil, List.setIfInBounds_toArray, List.set_cons_succ, List.set_cons_zero]
        rw [h64]
        have H5 := hide (HC.out.2.trans (hb5.mono HC.out.2.size))
        clear h64 hb5
        go_wp2_with fail
        go_ret
        exact ⟨by rw [HH.out.2.2, HD.out.1 H1.out, Bool.and_false]; rfl, H5.out⟩
      | true =>
        have H1 := hide hrt
        clear hrt
        rcases Nat.eq_zero_or_pos k with h0 | h0
        · have h00 : decide (0 < k) = false := decide_eq_false (by omega)
          have H0 := hide (And.intro h0 h00)
          clear h0 h00
          go_wp2_with fail
          refine (wpIn_wide (n := 0)).1 (drrA wide_plain g o n ca k 0 (f k) (f k).P [] _ _ _ _ rfl rfl rfl hkn hn HX.out.1 HX.out.2.2.2.2.2.2 H1.out HX.out.2.1 HX.out.2.2.2.1 HX.out.2.2.1 HX.out.2.2.2.2.1 HX.out.2.2.2.2.2.1 H0.out.2 ?_)
          intro vs W5 hb5 h64
          simp only [List.foldl_cons, List.foldl_nil, List.setIfInBounds_toArray, List.set_cons_succ, List.set_cons_zero]
          rw [h64]
          have H5 := hide (HC.out.2.trans (hb5.mono HC.out.2.size))
          clear h64 hb5
          go_wp2_with fail
          go_roundg q
          case measure => omega
          case rel => exact ⟨k + 1, by omega, by go_num, HD.out.2.1 H1.out H0.out.1, H5.out⟩
        · obtain ⟨j, hj⟩ : ∃ j, k = j + 1 := ⟨k - 1, by omega⟩
          have h00 : decide (0 < k) = true := decide_eq_true h0
          have hjn : j < n := by omega
          obtain ⟨g2, o2, e2, c0, _⟩ := HB.out.at4 hjn
          cases e2
          cases hlt : ltP (f j).P (f k).P with
          | false =>
            have h6 : (!Op.bytesLess (f j).P (f k).P) = true := by rw [less_raw, hlt]; rfl
            have H0 := hide (And.intro hj (And.intro h00 (And.intro c0 (And.intro h6 hlt))))
            clear h0 h00 hj c0 h6 hlt
            go_wp2_with fail
            refine (wpIn_wide (n := 0)).1 (drrG wide_plain g o n ca k j (f k) (f k).P (f j).P _ _ _ _ rfl rfl rfl hkn hn HX.out.1 HX.out.2.2.2.2.2.2 H1.out HX.out.2.1 HX.out.2.2.2.1 HX.out.2.2.1 HX.out.2.2.2.2.1 HX.out.2.2.2.2.2.1 H0.out.2.1 (hide H0.out.1) H0.out.2.2.1 H0.out.2.2.2.1 ?_)
            intro vs W5 hb5 h64
            simp only [List.foldl_cons, List.foldl_nil, List.setIfInBounds_toArray, List.set_cons_succ, List.set_cons_zero]
            rw [h64]
            have H5 := hide (HC.out.2.trans (hb5.mono HC.out.2.size))
            clear h64 hb5
            go_wp2_with fail
            go_ret
            exact ⟨by rw [HH.out.2.2, HD.out.2.2.1 j H0.out.1 H0.out.2.2.2.2, Bool.and_false]; rfl, H5.out⟩
          | true =>
            have h6 : (!Op.bytesLess (f j).P (f k).P) = false := by rw [less_raw, hlt]; rfl
            have H0 := hide (And.intro hj (And.intro h00 (And.intro c0 (And.intro h6 hlt))))
            clear h0 h00 hj c0 h6 hlt
            go_wp2_with fail
            refine (wpIn_wide (n := 0)).1 (drrB wide_plain g o n ca k j (f k) (f k).P (f j).P _ _ _ _ rfl rfl rfl hkn hn HX.out.1 HX.out.2.2.2.2.2.2 H1.out HX.out.2.1 HX.out.2.2.2.1 HX.out.2.2.1 HX.out.2.2.2.2.1 HX.out.2.2.2.2.2.1 H0.out.2.1 (hide H0.out.1) H0.out.2.2.1 H0.out.2.2.2.1 ?_)
            intro vs W5 hb5 h64
            simp only [List.foldl_cons, List.foldl_nil, List.setIfInBounds_toArray, List.set_cons_succ, List.set_cons_zero]
            rw [h64]
            have H5 := hide (HC.out.2.trans (hb5.mono HC.out.2.size))
            clear h64 hb5
            go_wp2_with fail
            go_roundg q
            case measure => omega
            case rel => exact ⟨k + 1, by omega, by go_num, HD.out.2.2.2 j H0.out.1 H1.out H0.out.2.2.2.2, H5.out⟩
end Go.Proofs.Ytpmldopbjlnknaa

/-
  mudlarkref22.Get.
-/
namespace Go.Proofs.Ytpmldopbjlnknaa
open Go.RowKit Go.Shelf

theorem docsG_none1 : ∀ k, docsG k none = ([], none)
  | 0 => rfl
  | _ + 1 => rfl
theorem docsG_fit : ∀ (k : Nat) (S : Option (List Nat)), ∀ d ∈ (docsG k S).1, fitD d = true
  | 0, S => fun d hd => by cases hd
  | k + 1, none => fun d hd => by cases hd
  | k + 1, some M => fun d hd => by
    rw [docsG_step] at hd
    rcases List.mem_cons.1 hd with rfl | hd
    · unfold fitD
      simp only [decide_true, Bool.true_and, decide_eq_true_eq]
      refine ⟨by omega, ?_⟩
      cases e : (getNum 1048576 (getFix (getText 200 (some M)).2).2).2 with
      | none => rw [getNum_none0 _ _ e]; omega
      | some L' => exact (getNum_more _ _ L' e).2.1
    · exact docsG_fit k _ d hd
theorem RR.kept0 {w w' : World} {p C : Nat} {A : Option Addr} {L : List Nat} {S : Option (List Nat)} {G : Nat → Prop} (h : RR w p A C L S) (hk : Kept G w w') (hp : ¬ G p) (hA : ∀ g off s, A = some ⟨g, off, s⟩ → 0 < L.length → ¬ G g) : RR w' p A C L S := by
  obtain ⟨a, h1, h2, h3, h4, h5, h6, h7, h8, h9⟩ := h
  exact ⟨a, h1, hk.heap h2 hp, h3, h4.kept0 hk hA, h5, h6, h7, h8, h9⟩
theorem RR.lt {w : World} {p C : Nat} {A : Option Addr} {L M : List Nat} (h : RR w p A C L (some M)) : (∀ b ∈ M, b < 256) ∧ p < w.heap.size := by
  obtain ⟨a, h1, h2, h3, h4, h5, h6, h7, h8, h9⟩ := h
  exact ⟨fun b hb => h4.lt b (by rw [h9 M rfl] at hb; exact List.mem_of_mem_drop hb), block_lt h2⟩
set_option maxRecDepth 100000 in
set_option maxHeartbeats 4000000 in
theorem refDocGet_any (a : Option Addr) (len cap : Nat) (L : List Nat) (w : World) (hL : L.length = len) (hl : len ≤ 1000000) (hlc : len ≤ cap) (hm : cap ≤ 9223372036854775807) (hn : a = none → cap = 0) (ho : cap = 0 ∨ ∃ b off, a = some ⟨b, off, none⟩) (h : BL w a L) :
    Calls Try.prog 17 #[.slice a len cap] w fun e w' => (∃ v, e = .returned (.tuple #[v, .int .i64 (errD L)]) ∧ OwnD w' w.heap.size v (outD L)) ∧ Below w.heap.size w w' := by
  have hn4 : (getNum 4000 (some L)).1 ≤ 4000 := by
    cases e : (getNum 4000 (some L)).2 with
    | none => rw [getNum_none0 _ _ e]; omega
    | some L' => have := (getNum_more 4000 (some L) L' e).2.1; omega
  obtain ⟨W1, hW1⟩ : ∃ W1, w.alloc (.cells #[.slice a len cap, .int .i64 0, .bool false] 69) = W1 := ⟨_, rfl⟩
  have hb1 : Below w.heap.size w W1 := by rw [← hW1]; exact below_alloc _ _
  have hs1 : W1.heap.size = w.heap.size + 1 := by rw [← hW1]; simp
  have hat : ∀ g off s, a = some ⟨g, off, s⟩ → 0 < L.length → g < w.heap.size := fun g off s e h0 => by
    obtain ⟨b, o, e', hc⟩ := h.cell h0
    rw [e] at e'; cases e'
    exact block_lt_of_cell (hc 0 h0)
  have hr1 : RR W1 w.heap.size a cap L (some L) := by
    refine ⟨0, Nat.zero_le _, by rw [← hW1, hL]; exact heap_alloc_new _ _, fun g o s e h0 => by have := hat g o s e h0; omega, h.below hb1, by omega, hm, hn, ho, fun M e => by cases e; rfl⟩
  have hnm := refNum_any w.heap.size a cap L (some L) 4000 W1 hr1 (by decide)
  have HW := hide hW1
  have HB := hide (And.intro hb1 hat)
  obtain ⟨n, hnn⟩ : ∃ n, (getNum 4000 (some L)).1 = n := ⟨_, rfl⟩
  obtain ⟨S1, hS1⟩ : ∃ S1, (getNum 4000 (some L)).2 = S1 := ⟨_, rfl⟩
  have hGN := hide (And.intro hnn hS1)
  rw [hnn] at hn4
  rw [hnn, hS1] at hnm
  clear hW1 hr1 hb1 hat hnn hS1 h
  go_enter Try.func17, Try.ntmps17
  go_wp2_with fail
  rw [HW.out]
  refine hnm.mono ?_
  rintro e w2 ⟨rfl, hr2, hk2⟩
  have hs2 := hk2.size
  have H2 := hide (And.intro hr2 (HB.out.1.trans (hk2.below (fun k e => by subst e; exact Nat.le_refl _) (by omega))))
  clear hnm hr2 hk2
  go_wp2_with fail
  go_loopg [6, 7] n (fun q s6 s7 wr => ∃ (k : Nat) (done : List DT) (S2 : Option (List Nat)) (A : Option Addr) (C : Nat), k + q = n ∧ s6 = .slice A k C ∧ s7 = .int .i64 k ∧ OwnD wr w2.heap.size (.slice A k C) done ∧ RR wr w.heap.size a cap L S2 ∧ Below w.heap.size w wr ∧ w2.heap.size ≤ wr.heap.size ∧ done.length = k ∧ szO S2 ≤ L.length ∧ docsG n S1 = (done ++ (docsG q S2).1, (docsG q S2).2))
  case atStart => exact ⟨0, [], S1, none, 0, by omega, rfl, rfl, OwnD.nil _ _, H2.out.1, H2.out.2, Nat.le_refl _, rfl, by rw [← hGN.out.2]; exact (getNum_lt 4000 (some L)).2, rfl⟩
  case round =>
    obtain ⟨k, done, S2, A, C, hkq, rfl, rfl, hod, hr, hB, hsz, hdk, hS2, hG⟩ := hrel
    have HO := hide (And.intro hod (And.intro hr (And.intro hB hG)))
    have HDK := hide hdk
    clear hdk
    cases gk with
    | zero =>
      obtain rfl : k = n := by omega
      have hG' : docsG (getNum 4000 (some L)).1 (getNum 4000 (some L)).2 = (done, S2) := by rw [hGN.out.1, hGN.out.2, hG]; simp [docsG]
      obtain ⟨hfl, hff⟩ := hr.flag
      have HE := hide (And.intro (getDocs_end hG') hff)
      have hlf := refLeft_any w.heap.size a cap L S2 wr hr
      obtain ⟨A0, C0, hA0, hdr, _, _, _⟩ := hod.docs
      injection hA0 with hA1 hA2 hA3
      subst hA1 hA3
      clear hA2
      have hdn : ∀ d ∈ done, d.P.length ≤ 1000000 ∧ fitD d = true := fun d hd => by
        have h1 := (docsG_facts (getNum 4000 (some L)).1 (getNum 4000 (some L)).2).2.1
        have h2 := docsG_fit (getNum 4000 (some L)).1 (getNum 4000 (some L)).2
        rw [hG'] at h1 h2
        exact ⟨by have := h1 d hd; omega, h2 d hd⟩
      have HDN := hide (And.intro hdn hdr)
      clear hod hr hB hG hG' hff hdn hdr
      cases S2 with
      | none =>
        simp only [Option.isNone_none] at hfl
        clear hlf
        go_wp2_with fail
        go_ret2
        obtain ⟨e1, e2⟩ := getD_none (L := L) HE.out.1
        rw [e1, e2]
        exact ⟨⟨_, rfl, OwnD.nil _ _⟩, HO.out.2.2.1⟩
      | some M =>
        simp only [Option.isNone_some] at hfl
        cases M with
        | cons x r =>
          have hM0 : (0 : Int) < (szO (some (x :: r)) : Nat) := by simp [szO]
          generalize szO (some (x :: r)) = sz at hlf hM0
          go_wp2_with fail
          refine hlf.mono ?_
          rintro e w6 ⟨rfl, m, rfl⟩
          clear hlf
          go_wp2_with fail
          go_ret2
          obtain ⟨e1, e2⟩ := getD_none (L := L) HE.out.1
          rw [e1, e2]
          exact ⟨⟨_, rfl, OwnD.nil _ _⟩, belowDrewN HO.out.2.2.1 m⟩
        | nil =>
          have hlf : Calls Try.prog 44 #[.pointer (some ⟨w.heap.size, 0, none⟩)] wr fun e w' => e = .returned (.int .i64 0) ∧ ∃ m, w' = wr.drewN m := hlf
          go_wp2_with fail
          refine hlf.mono ?_
          rintro e w6 ⟨rfl, m, rfl⟩
          have hrt := refRightFit_any A k C (dAt done) (wr.drewN m) (by omega) (by rw [← HDK.out]; exact Docs.row HDN.out.2) (fun i hi => (HDN.out.1 _ (dAt_mem (by rw [HDK.out]; exact hi))).1) (fun i hi => (HDN.out.1 _ (dAt_mem (by rw [HDK.out]; exact hi))).2)
          rw [show docsN (dAt done) k = done by rw [← HDK.out]; exact docsN_at done] at hrt
          clear hlf
          have hge : getDocs L = endD done (some []) := HE.out.1
          rw [show endD done (some []) = (if rightD done then some done else none) from rfl] at hge
          cases hrd : rightD done with
          | false =>
            rw [hrd] at hrt hge
            have H2' := hide hge
            clear hrd hge
            go_wp2_with fail
            refine hrt.mono ?_
            rintro e w7 ⟨rfl, hb7⟩
            have H7 := hide ((belowDrewN HO.out.2.2.1 m).trans (hb7.mono HO.out.2.2.1.size))
            clear hrt hb7
            go_wp2_with fail
            go_ret2
            obtain ⟨e1, e2⟩ := getD_none (L := L) H2'.out
            rw [e1, e2]
            exact ⟨⟨_, rfl, OwnD.nil _ _⟩, H7.out⟩
          | true =>
            rw [hrd] at hrt hge
            have H2' := hide hge
            clear hrd hge
            go_wp2_with fail
            refine hrt.mono ?_
            rintro e w7 ⟨rfl, hb7⟩
            have H7 := hide (And.intro ((belowDrewN HO.out.2.2.1 m).trans (hb7.mono HO.out.2.2.1.size)) (OwnD.thru (w := wr.drewN m) HO.out.1 hb7))
            clear hrt hb7
            go_wp2_with fail
            go_ret2
            obtain ⟨e1, e2⟩ := getD_some (L := L) H2'.out
            rw [e1, e2]
            exact ⟨⟨_, rfl, owns_lower H7.out.2 (by omega)⟩, H7.out.1⟩
    | succ q =>
      have hk1 : (k : Int) < (n : Int) := by omega
      obtain ⟨hfl, hff⟩ := hr.flag
      cases S2 with
      | none =>
        simp only [Option.isNone_none] at hfl
        have hG' : docsG (getNum 4000 (some L)).1 (getNum 4000 (some L)).2 = (done, none) := by rw [hGN.out.1, hGN.out.2, hG]; simp [docsG]
        have HE := hide (getDocs_end hG')
        clear hod hr hB hG hG' hff
        go_wp2_with fail
        go_ret2
        obtain ⟨e1, e2⟩ := getD_none (L := L) HE.out
        rw [e1, e2]
        exact ⟨⟨_, rfl, OwnD.nil _ _⟩, HO.out.2.2.1⟩
      | some M =>
        simp only [Option.isNone_some] at hfl
        have htx := rrText_any w.heap.size a cap L (some M) 200 wr hr (by decide) (by omega)
        obtain ⟨hby, hpl⟩ := hr.lt
        obtain ⟨t1, t2, t3⟩ := getText_facts M
        have hszM : szO (some M) = M.length := rfl
        clear hod hr hB hG hff
        go_wp2_with fail
        refine htx.mono ?_
        rintro e w5 ⟨v5, rfl, ho5, hr5, hk5⟩
        obtain ⟨_, A5, C5, rfl, _, _, _, _, hbl5, _⟩ := owns_bl ho5 (fun b hb => hby b (t1 b hb))
        have hcv : (convert 34 9 (.slice A5 (getText 200 (some M)).1.length C5)).run Try.prog w5 = .ok (.string ⟨(Go.Proofs.Ytpmldopbjlnknaa.u8 (getText 200 (some M)).1).toArray⟩) w5 := by
          have h := conv_byt (c := C5) hbl5
          rw [show tx (fun i => (getText 200 (some M)).1.getD i 0) (getText 200 (some M)).1.length = (getText 200 (some M)).1 from tx_all _, txt_by8] at h
          exact h
        have hGs := docsG_step q M
        have hfz := getFix_sz (getText 200 (some M)).2
        have hnz := (getNum_lt 1048576 (getFix (getText 200 (some M)).2).2).2
        have hplen : (Go.Proofs.Ytpmldopbjlnknaa.u8 (getText 200 (some M)).1).length ≤ 1000000 := by rw [u8_length]; omega
        obtain ⟨P5, hP5⟩ : ∃ P, Go.Proofs.Ytpmldopbjlnknaa.u8 (getText 200 (some M)).1 = P := ⟨_, rfl⟩
        obtain ⟨T5, hT5⟩ : ∃ T, (getText 200 (some M)).2 = T := ⟨_, rfl⟩
        rw [hP5] at hcv hplen hGs
        rw [hT5] at hr5 hGs hfz hnz t3
        have hk5s := hk5.size
        have hsp := hide (owns_keptS HO.out.1 hk5 (fun g hg e => by have h1 := (owns_cells HO.out.1 g hg).2.1; omega))
        have hB5 := hide (HO.out.2.2.1.trans (hk5.below (fun k e => by omega) HO.out.2.2.1.size))
        obtain ⟨W6, hW6⟩ : ∃ W, w5.alloc (.cells #[.string ⟨P5.toArray⟩, .string ⟨#[]⟩, .int .u32 0, .int .i64 0] 44) = W := ⟨_, rfl⟩
        have g6 : W6.heap[w5.heap.size]? = some (.cells #[.string ⟨P5.toArray⟩, .string ⟨#[]⟩, .int .u32 0, .int .i64 0] 44 (0, 0)) := by rw [← hW6]; exact heap_alloc_new _ _
        have hb6 : Below w5.heap.size w5 W6 := by rw [← hW6]; exact below_alloc _ _
        have hr6 := RR.kept0 hr5 (Kept.of_below (F := fun _ => False) hb6) (fun h => h) (fun _ _ _ _ _ h => h)
        have HW6 := hide hW6
        obtain ⟨sL, hsL⟩ : ∃ s, by8 (ofL P5) = .string s := ⟨_, rfl⟩
        have hof := refOf_any P5 W6 hplen
        rw [hsL] at hof
        have H5 := hide (And.intro hGs (And.intro hfz (And.intro hnz (And.intro hsL (And.intro g6 (And.intro hb6 hr6))))))
        clear htx ho5 hbl5 hr5 hk5 hP5 hT5 hGs hfz hnz hplen hby t1 hsL g6 hb6 hr6 hW6
        go_wp2_with fail
        rw [HW6.out]
        refine hof.mono ?_
        rintro e w7 ⟨rfl, hb7⟩
        have g7 : w7.heap[w5.heap.size]? = _ := (hb7.block _ (block_lt H5.out.2.2.2.2.1)).trans H5.out.2.2.2.2.1
        have hr7 := RR.kept0 H5.out.2.2.2.2.2.2 (Kept.of_below (F := fun _ => False) hb7) (fun h => h) (fun _ _ _ _ _ h => h)
        have c1 := (cellsAt4 g7).2.1
        have f1 : w7.frozen? ⟨w5.heap.size, 1, none⟩ = false := frozen_of_row _ _ _ _ _ g7
        obtain ⟨W8, hW8⟩ : ∃ W, w7.setCell ⟨w5.heap.size, 1, none⟩ (.string sL) = W := ⟨_, rfl⟩
        have g8 : W8.heap[w5.heap.size]? = some (.cells #[.string ⟨P5.toArray⟩, .string sL, .int .u32 0, .int .i64 0] 44 (0, 0)) := by rw [← hW8]; exact heap_setCell_same _ _ 1 _ _ _ g7
        have hk8 : Kept (fun k => k = w5.heap.size) w7 W8 := by rw [← hW8]; exact (Kept.refl (fun k => k = w5.heap.size) w7).setCell (p := ⟨w5.heap.size, 1, none⟩) (.inl rfl) _
        have hat8 : ∀ g off s, a = some ⟨g, off, s⟩ → 0 < L.length → ¬ g = w5.heap.size := fun g off s e h0 => by have := HB.out.2 g off s e h0; omega
        have hr8 := RR.kept0 hr7 hk8 (fun e => by omega) hat8
        have hfx := refFix_any w.heap.size a cap L T5 W8 hr8
        have hB8 : Below w5.heap.size w5 W8 := H5.out.2.2.2.2.2.1.trans ((hb7.mono H5.out.2.2.2.2.2.1.size).trans (hk8.below (fun k e => by omega) (by have := hb7.size; have := H5.out.2.2.2.2.2.1.size; omega)))
        have HAT := hide hat8
        have H8 := hide (And.intro g8 hB8)
        clear hof hb7 g7 hr7 hk8 hr8 hat8 g8 hB8
        go_wp2_with fail
        refine hfx.mono ?_
        rintro e w9 ⟨rfl, hr9, hk9⟩
        have g9 : w9.heap[w5.heap.size]? = _ := hk9.heap H8.out.1 (by omega)
        have c2 := (cellsAt4 g9).2.2.1
        have f2 : w9.frozen? ⟨w5.heap.size, 2, none⟩ = false := frozen_of_row _ _ _ _ _ g9
        obtain ⟨W10, hW10⟩ : ∃ W, w9.setCell ⟨w5.heap.size, 2, none⟩ (.int .u32 ((getFix T5).1 : Nat)) = W := ⟨_, rfl⟩
        have g10 : W10.heap[w5.heap.size]? = some (.cells #[.string ⟨P5.toArray⟩, .string sL, .int .u32 ((getFix T5).1 : Nat), .int .i64 0] 44 (0, 0)) := by rw [← hW10]; exact heap_setCell_same _ _ 2 _ _ _ g9
        have hk10 : Kept (fun k => k = w5.heap.size) w9 W10 := by rw [← hW10]; exact (Kept.refl (fun k => k = w5.heap.size) w9).setCell (p := ⟨w5.heap.size, 2, none⟩) (.inl rfl) _
        have hr10 := RR.kept0 hr9 hk10 (fun e => by omega) HAT.out
        have hnm2 := refNum_any w.heap.size a cap L (getFix T5).2 1048576 W10 hr10 (by decide)
        have hk810 : Kept (fun k => k = w.heap.size ∨ k = w5.heap.size) W8 W10 := (hk9.mono (fun _ _ h => .inl h)).trans hk10 (fun _ _ h => .inr h)
        have H10 := hide (And.intro g10 hk810)
        clear hfx hr9 hk9 g9 hk10 hr10 g10 hk810 c1 f1 hW8
        go_wp2_with fail
        refine hnm2.mono ?_
        rintro e w11 ⟨rfl, hr11, hk11⟩
        have g11 : w11.heap[w5.heap.size]? = _ := hk11.heap H10.out.1 (by omega)
        have c3 := (cellsAt4 g11).2.2.2
        have f3 : w11.frozen? ⟨w5.heap.size, 3, none⟩ = false := frozen_of_row _ _ _ _ _ g11
        obtain ⟨W12, hW12⟩ : ∃ W, w11.setCell ⟨w5.heap.size, 3, none⟩ (.int .i64 ((getNum 1048576 (getFix T5).2).1 : Nat)) = W := ⟨_, rfl⟩
        have g12 : W12.heap[w5.heap.size]? = some (.cells #[.string ⟨P5.toArray⟩, .string sL, .int .u32 ((getFix T5).1 : Nat), .int .i64 ((getNum 1048576 (getFix T5).2).1 : Nat)] 44 (0, 0)) := by rw [← hW12]; exact heap_setCell_same _ _ 3 _ _ _ g11
        have hk12 : Kept (fun k => k = w5.heap.size) w11 W12 := by rw [← hW12]; exact (Kept.refl (fun k => k = w5.heap.size) w11).setCell (p := ⟨w5.heap.size, 3, none⟩) (.inl rfl) _
        have hr12 := RR.kept0 hr11 hk12 (fun e => by omega) HAT.out
        have hk812 : Kept (fun k => k = w.heap.size ∨ k = w5.heap.size) W8 W12 := H10.out.2.trans ((hk11.mono (fun _ _ h => .inl h)).trans hk12 (fun _ _ h => .inr h)) (fun _ _ h => h)
        obtain ⟨m0, m1, m2, m3⟩ := cellsAt4 g12
        have H12 := hide (And.intro hr12 hk812)
        clear hnm2 hr11 hk11 g11 hk12 hr12 g12 hk812 c2 f2 hW10
        have hk512 : Kept (fun k => k = w.heap.size ∨ k = w5.heap.size) w5 W12 := (Kept.of_below H8.out.2).trans H12.out.2 (fun _ _ h => h)
        have hs12 := hk512.size
        have hown12 := owns_keptS hsp.out hk512 (fun g hg e => by
          have h1 := (owns_cells hsp.out g hg).2.1
          have h2 := (owns_cells hsp.out g hg).1
          omega)
        obtain ⟨W13, hW13⟩ : ∃ W, W12.alloc (.cells #[.string ⟨P5.toArray⟩, .string sL, .int .u32 ((getFix T5).1 : Nat), .int .i64 ((getNum 1048576 (getFix T5).2).1 : Nat)] 44) = W := ⟨_, rfl⟩
        have hb13 : Below W12.heap.size W12 W13 := by rw [← hW13]; exact below_alloc _ _
        have hown13 := owns_thruS hown12 hb13
        rw [HDK.out] at hown13
        have g13 : W13.heap[W12.heap.size]? = some (.cells #[by8 P5, by8 (ofL P5), .int .u32 ((getFix T5).1 : Nat), .int .i64 ((getNum 1048576 (getFix T5).2).1 : Nat)] 44 (0, 0)) := by
          rw [← hW13, H5.out.2.2.2.1]; exact heap_alloc_new _ _
        have hnews13 := doc_news (d := ⟨P5, ofL P5, (getFix T5).1, ((getNum 1048576 (getFix T5).2).1 : Int)⟩) g13
        have hnews13' : ∀ j u, [Value.string ⟨P5.toArray⟩, .string sL, .int .u32 ((getFix T5).1 : Nat), .int .i64 ((getNum 1048576 (getFix T5).2).1 : Nat)][j]? = some u → W13.cell? ((⟨W12.heap.size, 0, none⟩ : Addr).add j) = some u := by
          have e : cellD ⟨P5, ofL P5, (getFix T5).1, ((getNum 1048576 (getFix T5).2).1 : Int)⟩ = [Value.string ⟨P5.toArray⟩, .string sL, .int .u32 ((getFix T5).1 : Nat), .int .i64 ((getNum 1048576 (getFix T5).2).1 : Nat)] := by
            unfold cellD
            rw [H5.out.2.2.2.1]
            rfl
          rw [← e]; exact hnews13
        have HNW := hide (And.intro hown13 (And.intro hnews13' (And.intro hb13 hk512)))
        obtain ⟨i0, hi0, hq0, hq1, hq2⟩ := info_partsD info_doc
        have hsz13 : w2.heap.size ≤ W13.heap.size := by have := hb13.size; omega
        clear hk512 hown12 hown13 g13 hnews13 hnews13' hb13
        go_wp2_with (at_builtin; go_must (refine wpList_append_keepS _ rfl (.tmp 40) (.tmp 42) 26 rfl 44 i0 (.agg #[.string ⟨#[]⟩, .string ⟨#[]⟩, .int .u32 0, .int .i64 0]) 4 48 Try.underlying26 hi0 hq0 hq1 hq2 rfl (by omega) w2.heap.size (.slice A k C) k (cellsD done) rfl HNW.out.1 ⟨W12.heap.size, 0, none⟩ 1 1 _ rfl rfl HNW.out.2.1 (by simp [Value.oneCell']) (by unfold maxLen; omega) (by omega) hsz13 ?_); intro A' C' w14 hown14 hg14 hold14)
        have hk14 := hg14.kept (F := fun y => (Value.slice A k C).ownBlock = some y) (fun _ h => h)
        have hob := fun (y : Nat) (hy : (Value.slice A k C).ownBlock = some y) => (owns_cells HNW.out.1 y hy).2.1
        have hr14 : RR w14 w.heap.size a cap L (getNum 1048576 (getFix T5).2).2 :=
          RR.kept0 (RR.kept0 H12.out.1 (Kept.of_below (F := fun _ => False) HNW.out.2.2.1) (fun h => h) (fun _ _ _ _ _ h => h)) hk14 (fun e => by have := hob _ e; omega) (fun g off s e h0 h1 => by have := hob _ h1; have := HB.out.2 g off s e h0; omega)
        have hB14 : Below w.heap.size w w14 := by
          have h1 := hB5.out.trans ((HNW.out.2.2.2.below (B := w.heap.size) (fun k e => by rcases e with e | e <;> omega) (by have := hB5.out.size; omega)))
          have h2 := h1.trans (HNW.out.2.2.1.mono (by omega))
          exact h2.trans (hk14.below (fun y hy => by have := hob y hy; omega) (by omega))
        have hs14 := hk14.size
        have H14 := hide (And.intro hown14 (And.intro hr14 (And.intro hB14 hs14)))
        clear hown14 hg14 hold14 hk14 hob hr14 hB14
        go_roundg q
        case measure => omega
        case rel =>
          have h8 := H14.out.1
          have e : [Value.string ⟨P5.toArray⟩, .string sL, .int .u32 ((getFix T5).1 : Nat), .int .i64 ((getNum 1048576 (getFix T5).2).1 : Nat)] = cellD ⟨P5, ofL P5, (getFix T5).1, ((getNum 1048576 (getFix T5).2).1 : Int)⟩ := by
            unfold cellD
            rw [H5.out.2.2.2.1]
            rfl
          rw [e, ← cellsD_snoc] at h8
          refine ⟨k + 1, done ++ [⟨P5, ofL P5, (getFix T5).1, ((getNum 1048576 (getFix T5).2).1 : Int)⟩], (getNum 1048576 (getFix T5).2).2, A', C', by omega, rfl, by go_num, ?_, H14.out.2.1, H14.out.2.2.1, by have := H14.out.2.2.2; omega, by simp [HDK.out], by have := H5.out.2.1; have := H5.out.2.2.1; omega, ?_⟩
          · unfold OwnD
            rw [List.length_append, HDK.out]
            exact h8
          · rw [HO.out.2.2.2, H5.out.1]
            simp
end Go.Proofs.Ytpmldopbjlnknaa
