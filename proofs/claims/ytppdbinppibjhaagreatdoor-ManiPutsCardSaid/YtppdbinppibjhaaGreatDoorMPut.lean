/-
  mani.Put.
-/
import Derived.Test.YtppdbinppibjhaaGreatDoorMRights
import Derived.Test.YtppdbinppibjhaaGreatDoorSolo
import Derived.Test.YtppdbinppibjhaaGreatDoorFPuts
import Derived.Test.YtppdbinppibjhaaGreatDoorFOwn
set_option maxHeartbeats 4000000
set_option maxRecDepth 100000
set_option linter.unusedVariables false
set_option linter.unusedSimpArgs false
namespace Go.Proofs.YtppdbinppibjhaaGreatDoor
open Go.RowKit Go.Shelf
theorem putNums_two (xs : List Nat) (a b : Int) (ha : 0 ≤ a) (ha' : a ≤ maxNum) (hb : 0 ≤ b) (hb' : b ≤ maxNum) : putNums (some xs) (fun i => if i = 0 then a else b) 2 = some (xs ++ encN a.toNat ++ encN b.toNat) := by
 show putNum (putNum (some xs) a) b = _
 rw [putNum_some xs a ha ha', putNum_some _ b hb hb']
theorem ints_two {w : World} {b : Nat} {x y : Int} {t : TypeId} {fr : Nat × Nat} (h : w.heap[b]? = some (.cells #[.int .i64 x, .int .i64 y] t fr)) : Ints w (some ⟨b, 0, none⟩) 2 (fun i => if i = 0 then x else y) := by
 obtain ⟨h0, h1⟩ := cells2_at h
 refine .inr ⟨b, 0, rfl, fun i hi => ?_⟩
 match i, hi with
 | 0, _ => exact h0
 | 1, _ => exact h1
theorem Shds.lt {w : World} {a : Option Addr} {n : Nat} {P : Nat → Shd} (h : Shds w a n P) : 0 < n → ∀ k, (∃ o s, a = some ⟨k, o, s⟩) → k < w.heap.size := h.row.lt (fun _ _ => cellS_ne _)
theorem Shds.ok {w : World} {a : Option Addr} {n : Nat} {P : Nat → Shd} (h : Shds w a n P) {i : Nat} (hi : i < n) : (P i).Ok w := by
 obtain ⟨_, _, _, _, h⟩ := h.cells i hi
 exact h
theorem stsN_mem {P : Nat → Shd} {n : Nat} {s : ST} (h : s ∈ stsN P n) : ∃ i, i < n ∧ s = (P i).st := by
 obtain ⟨i, hi, rfl⟩ := List.mem_map.1 h
 exact ⟨i, List.mem_range.1 hi, rfl⟩
theorem stsN_S {w : World} {a : Option Addr} {n : Nat} {P : Nat → Shd} (h : Shds w a n P) : ∀ s ∈ stsN P n, s.S < 4294967296 := fun s hs => by
 obtain ⟨i, hi, rfl⟩ := stsN_mem hs
 exact (h.ok hi).lS
theorem encS_st (P : Shd) : encS P.st = encN P.N.toNat ++ encN P.Z.toNat ++ fixB P.S ++ encRise P.D := by simp [encS, Shd.st]
theorem mput_any (G : Int) (a : Option Addr) (n cap : Nat) (P : Nat → Shd) (w : World) (hn : n ≤ 140737488355328) (hG : (Lit.int .i64 G).wf = true) (hP : Shds w a n P) (hD : ∀ i, i < n → (P i).D.length ≤ 140737488355328) :
  Calls Tryz.prog 12 #[.agg #[.int .i64 G, .slice a n cap]] w fun e w' => (if rightM ⟨G, stsN P n⟩ = true then ∃ v, e = .returned (.tuple #[v, .int .i64 0]) ∧ w'.ownsRow w.heap.size 5 1 v (fileM ⟨G, stsN P n⟩).length (lc (fileM ⟨G, stsN P n⟩)) else e = .returned (.tuple #[.slice none 0 0, .int .i64 2])) ∧ Below w.heap.size w w' := by
 obtain ⟨W0, hW0⟩ : ∃ W0, w.alloc (.cells #[.int .i64 G, .slice a n cap] 24) = W0 := ⟨_, rfl⟩
 have hb0 : Below w.heap.size w W0 := by rw [← hW0]; exact below_alloc _ _
 obtain ⟨m0, m1⟩ := cells2_at (show W0.heap[w.heap.size]? = some (.cells #[.int .i64 G, .slice a n cap] 24 (0, 0)) by rw [← hW0]; exact heap_alloc_new _ _)
 have hP0 := hP.below hb0
 have h1 := mright_any G a n cap P W0 hn hG hP0 hD
 have hS := stsN_S hP
 have HP := hide hP0
 have HW := hide hW0
 clear hP hP0 hW0
 cases hr : rightM ⟨G, stsN P n⟩ with
 | false =>
   rw [hr] at h1
   clear hr
   go_enter Tryz.func12, Tryz.ntmps12
   go_wp2_with fail
   rw [HW.out]
   go_wp2_with fail
   refine h1.mono ?_
   rintro e w2 ⟨rfl, hb2⟩
   have HB := hide (below_thru hb0 hb2)
   clear h1 hb2
   go_wp2_with fail
   go_ret2
   exact ⟨rfl, HB.out⟩
 | true =>
   rw [hr] at h1
   obtain ⟨hok, hG0, hG1, hn40⟩ := rightM_ok hr hS
   have hlen := partM_len hr hS
   have hlt := partM_lt ⟨G, stsN P n⟩
   simp only [stsN_length] at hn40 hG0 hG1
   have HOK := hide (show ∀ i, i < n → okST (P i).st from fun i hi => hok _ (List.mem_map.2 ⟨i, List.mem_range.2 hi, rfl⟩))
   have HL := hide (And.intro hlen hlt)
   clear hr hD hS hok hlen hlt
   go_enter Tryz.func12, Tryz.ntmps12
   go_wp2_with fail
   rw [HW.out]
   go_wp2_with fail
   refine h1.mono ?_
   rintro e w2 ⟨rfl, hb2⟩
   have hB2 := hide hb2
   have m20 := cell_thru m0 hb2
   have m21 := cell_thru m1 hb2
   obtain ⟨w3, hw3⟩ : ∃ w3, w2.alloc (.cells #[.pointer none, .int .i64 0, .bool false] 72) = w3 := ⟨_, rfl⟩
   have hso := Solo.fresh w2 w2.heap.size rfl
   rw [hw3] at hso
   have hb3 : Below w2.heap.size w2 w3 := by rw [← hw3]; exact below_alloc _ _
   have m30 := cell_thru m20 hb3
   have m31 := cell_thru m21 hb3
   obtain ⟨w4, hw4⟩ : ∃ w4, w3.alloc (.cells #[.int .i64 G, .int .i64 (n : Nat)] 3) = w4 := ⟨_, rfl⟩
   have hb4 : Below w3.heap.size w3 w4 := by rw [← hw4]; exact below_alloc _ _
   have hi4 := ints_two (show w4.heap[w3.heap.size]? = some (.cells #[.int .i64 G, .int .i64 (n : Nat)] 3 (0, 0)) by rw [← hw4]; exact heap_alloc_new _ _)
   have hs3 : w3.heap.size = w2.heap.size + 1 := by rw [← hw3]; simp
   have hnum := solo_nums (some ⟨w3.heap.size, 0, none⟩) 2 2 _ hso hb4 (fun g off s e _ => by cases e; exact .inr (Nat.le_refl _)) (by omega) (by simp [szO]) hi4
   rw [putNums_two [] G (n : Int) hG0 hG1 (by omega) (by unfold maxNum; omega), List.nil_append] at hnum
   have HB3 := hide hb3
   have HW3 := hide (And.intro hw3 (And.intro hs3 hw4))
   clear h1 hb2 hw3 hw4 hb4 hi4 m20 m21 hso hb3 hs3
   rw [HW3.out.2.1] at hnum
   have l30 : (w2.alloc (.cells #[.pointer none, .int .i64 0, .bool false] 72)).cell? ⟨w.heap.size, 0, none⟩ = some (.int .i64 G) := by rw [HW3.out.1]; exact m30
   have l31 : (w2.alloc (.cells #[.pointer none, .int .i64 0, .bool false] 72)).cell? ⟨w.heap.size, 1, none⟩ = some (.slice a n cap) := by rw [HW3.out.1]; exact m31
   go_wp2_with fail
   rw [HW3.out.1, HW3.out.2.2]
   clear l30 l31
   refine hnum.mono ?_
   rintro e w5 ⟨rfl, hso5, hk5⟩
   have hb5 : Below w2.heap.size w2 w5 := HB3.out.trans (soloF_below hk5 HB3.out.size)
   have m50 := hk5.cell m30 (fun h => by have h1 := h.1; have h2 : w.heap.size < W0.heap.size := block_lt_of_cell m0; have := hB2.out.size; simp only at h1; omega)
   have m51 := hk5.cell m31 (fun h => by have h1 := h.1; have h2 : w.heap.size < W0.heap.size := block_lt_of_cell m0; have := hB2.out.size; simp only at h1; omega)
   have HB5 := hide hb5
   clear hnum hk5 m30 m31 hb5
   go_wp2_with fail
   go_loopg [20] n (fun q s20 wr => ∃ k : Nat, k + q = n ∧ s20 = .int .i64 k ∧ Solo w2.heap.size (fun _ => False) (.pointer (some ⟨w2.heap.size, 0, none⟩)) (some (encN G.toNat ++ encN n ++ bodyS (stsN P k))) wr ∧ Below w2.heap.size w2 wr)
   case atStart => exact ⟨0, by omega, rfl, by simpa [stsN, bodyS] using hso5, HB5.out⟩
   case round =>
    clear hso5 m50 m51
    obtain ⟨k, hkq, rfl, hso, hB⟩ := hrel
    have HB := hide hB
    have hbl : (bodyS (stsN P k)).length ≤ 24022 * k := by
     have := bodyS_len (stsN P k) (fun d hd => by obtain ⟨i, hi, rfl⟩ := stsN_mem hd; exact HOK.out i (by omega))
     rwa [stsN_length] at this
    have hel := encN_len6 (n := n) (by unfold maxNum; omega)
    have hel2 := encN_len6 (n := G.toNat) (by omega)
    cases gk with
    | zero =>
      obtain rfl : k = n := by omega
      have hby := solo_bytes hso (by simp [szO]; omega)
      have hpm : hasO (some (encN G.toNat ++ encN k ++ bodyS (stsN P k))) = partM ⟨G, stsN P k⟩ := by simp [partM, hasO, stsN_length]
      have hpl : szO (some (encN G.toNat ++ encN k ++ bodyS (stsN P k))) = (partM ⟨G, stsN P k⟩).length := by rw [← hasO_len, hpm]
      rw [hpm, hpl] at hby
      clear hso hB hpm hpl
      go_wp2_with fail
      refine hby.mono ?_
      rintro e w6 ⟨v6, rfl, ho6, hb6⟩
      obtain ⟨_, A6, C6, rfl, hS6, _⟩ := SB.own ho6 HL.out.2
      obtain ⟨w7, hw7⟩ : ∃ w7, w6.alloc (.cells #[.int .u8 1, .slice A6 (partM ⟨G, stsN P k⟩).length C6] 40) = w7 := ⟨_, rfl⟩
      have hb7 : Below w6.heap.size w6 w7 := by rw [← hw7]; exact below_alloc _ _
      obtain ⟨p0, p1⟩ := cells2_at (show w7.heap[w6.heap.size]? = some (.cells #[.int .u8 1, .slice A6 (partM ⟨G, stsN P k⟩).length C6] 40 (0, 0)) by rw [← hw7]; exact heap_alloc_new _ _)
      have hPr : Prts w7 (some ⟨w6.heap.size, 0, none⟩) 1 (fun _ => ⟨1, partM ⟨G, stsN P k⟩, A6, C6⟩) := .inr ⟨w6.heap.size, 0, rfl, fun i hi => by
       obtain rfl : i = 0 := by omega
       exact ⟨⟨p0, p1⟩, (by decide : (1 : Nat) < 256), hS6.l, hS6.m, hS6.n, hS6.o, hS6.b.below hb7⟩⟩
      have hpts : pts (fun _ => (⟨1, partM ⟨G, stsN P k⟩, A6, C6⟩ : Prt)) 1 = [(1, partM ⟨G, stsN P k⟩)] := by simp [pts, pt, List.range_succ]
      have hfp := fput_any (some ⟨w6.heap.size, 0, none⟩) 1 1 (fun _ => ⟨1, partM ⟨G, stsN P k⟩, A6, C6⟩) w7 hPr (by omega) (by
       rw [hpts]
       have h1 := encN_len6 (n := (partM ⟨G, stsN P k⟩).length) (by have := HL.out.1; unfold maxNum; omega)
       have h2 := HL.out.1
       simp only [sizeB, bodyB, partB, headP, List.length_append, List.length_cons, List.length_nil]
       omega)
      rw [hpts] at hfp
      have HBB := hide (below_thru hb0 (below_thru hB2.out (HB.out.trans ((below_thru hb6 hb7).mono HB.out.size))))
      have HSZ := hide (And.intro (below_thru hb6 hb7).size (And.intro HB.out.size (below_thru hb0 hB2.out).size))
      have HW7 := hide hw7
      have hfl : (fileM ⟨G, stsN P k⟩).length = sizeB [(1, partM ⟨G, stsN P k⟩)] := by unfold fileM; rw [fileB_len]
      have HFL := hide hfl
      clear hby ho6 hb6 hS6 hb7 p0 p1 hPr hpts hw7 hfl
      generalize (partM ⟨G, stsN P k⟩).length = pl at *
      go_wp2_with fail
      try rw [HW7.out]
      refine hfp.mono ?_
      rintro e w8 ⟨v8, rfl, ho8, hb8⟩
      have HO := hide (And.intro ho8 hb8)
      clear hfp ho8 hb8
      go_wp2_with fail
      go_ret2
      have h := HO.out.1
      rw [← HFL.out] at h
      have hz1 := HSZ.out.1
      have hz2 := HSZ.out.2.1
      have hz3 := HSZ.out.2.2
      exact ⟨⟨_, rfl, owns_lower h (by omega)⟩, HBB.out.trans (HO.out.2.mono (by omega))⟩
    | succ q =>
      have hkn : k < n := by omega
      have hk1 : (k : Int) < (n : Int) := by omega
      have hokk := HOK.out k hkn
      obtain ⟨ho1, ho2, ho3, ho4, ho5, ho6⟩ := hokk
      have hPk := (HP.out.below (below_thru hB2.out hB))
      obtain ⟨b, off, rfl, ⟨q0, q1, q2, q3⟩, hOk⟩ := hPk.cells k hkn
      have hWD := hOk.wD
      have hLD := hOk.lD
      have hdl := dead_len ho6
      have hDw : Hid (∀ i, (Lit.int .i64 ((P k).D.getD i 0)).wf = true) := fun i => by
       rw [List.getD_eq_getElem?_getD]
       by_cases hi : i < (P k).D.length
       ·rw [List.getElem?_eq_getElem hi]; exact hWD _ (List.getElem_mem hi)
       ·rw [List.getElem?_eq_none (by omega)]; rfl
      have hDi := (HP.out.ok hkn).bD
      have hDlt : ∀ g o s, (P k).pD = some ⟨g, o, s⟩ → 0 < (P k).D.length → g < w2.heap.size := fun g o s e h0 => by
       have hz := hB2.out.size
       rcases hDi with h | ⟨b', o', e', hc'⟩
       ·omega
       ·rw [e] at e'
        cases e'
        have h1 : g < W0.heap.size := block_lt_of_cell (hc' 0 h0)
        omega
      have e1 : (P k).st.N = (P k).N := rfl
      have e2 : (P k).st.Z = (P k).Z := rfl
      have e3 : (P k).st.S = (P k).S := rfl
      have e4 : (P k).st.D = (P k).D := rfl
      rw [e1] at ho1 ho2
      rw [e2] at ho3 ho4
      rw [e3] at ho5
      rw [e4] at ho6 hdl
      obtain ⟨L0, hL0⟩ : ∃ L, encN G.toNat ++ encN n ++ bodyS (stsN P k) = L := ⟨_, rfl⟩
      have hl0 : L0.length ≤ 12 + 24022 * 40 := by rw [← hL0]; simp only [List.length_append]; omega
      rw [hL0] at hso
      have hnx : encN G.toNat ++ encN n ++ bodyS (stsN P (k + 1)) = L0 ++ encN (P k).N.toNat ++ encN (P k).Z.toNat ++ fixB (P k).S ++ encRise (P k).D := by
       rw [stsN_succ, bodyS_snoc, ← List.append_assoc, hL0, encS_st]; simp
      have hri := fun xs => putRising_l (most := 3999) (D := (P k).D) xs (by decide) (by unfold maxNum; omega) ho6
      have hfl : ∀ m, (fixB m).length = 4 := fun m => rfl
      have HNX := hide hnx
      have HDI := hide (And.intro hDi hDlt)
      have hlN := encN_len6 (n := (P k).N.toNat) (by omega)
      have hlZ := encN_len6 (n := (P k).Z.toNat) (by unfold maxNum; omega)
      obtain ⟨vN, hN⟩ : ∃ v, (P k).N = v := ⟨_, rfl⟩
      obtain ⟨vZ, hZ⟩ : ∃ v, (P k).Z = v := ⟨_, rfl⟩
      obtain ⟨vS, hS⟩ : ∃ v, (P k).S = v := ⟨_, rfl⟩
      obtain ⟨pD, hpD⟩ : ∃ v, (P k).pD = v := ⟨_, rfl⟩
      obtain ⟨dD, hdD⟩ : ∃ v, (P k).D = v := ⟨_, rfl⟩
      obtain ⟨cD, hcD⟩ : ∃ v, (P k).cD = v := ⟨_, rfl⟩
      rw [hN] at q0 ho1 ho2 hlN
      rw [hZ] at q1 ho3 ho4 hlZ
      rw [hS] at q2 ho5
      rw [hpD, hdD, hcD] at q3
      rw [hdD] at hri hdl
      obtain ⟨lD, hlD⟩ : ∃ v, dD.length = v := ⟨_, rfl⟩
      rw [hlD] at q3 hri hdl
      obtain ⟨W1, hW1⟩ : ∃ W1, wr.alloc (.cells #[.int .i64 vN, .int .i64 vZ, .int .u32 (vS : Nat), .slice pD lD cD] 54) = W1 := ⟨_, rfl⟩
      have hb1 : Below wr.heap.size wr W1 := by rw [← hW1]; exact below_alloc _ _
      have hs1 : W1.heap.size = wr.heap.size + 1 := by rw [← hW1]; simp
      obtain ⟨_, _, n2, n3⟩ := cells4_at (show W1.heap[wr.heap.size]? = some (.cells #[.int .i64 vN, .int .i64 vZ, .int .u32 (vS : Nat), .slice pD lD cD] 54 (0, 0)) by rw [← hW1]; exact heap_alloc_new _ _)
      obtain ⟨W2, hW2⟩ : ∃ W2, W1.alloc (.cells #[.int .i64 vN, .int .i64 vZ] 3) = W2 := ⟨_, rfl⟩
      have hb2 : Below W1.heap.size W1 W2 := by rw [← hW2]; exact below_alloc _ _
      have hi2 := ints_two (show W2.heap[W1.heap.size]? = some (.cells #[.int .i64 vN, .int .i64 vZ] 3 (0, 0)) by rw [← hW2]; exact heap_alloc_new _ _)
      have hnum := solo_nums (some ⟨W1.heap.size, 0, none⟩) 2 2 _ (hso.fence hb1) hb2 (fun g off s e _ => by cases e; exact .inr (Nat.le_refl _)) (by omega) (by simp [szO]; omega) hi2
      rw [putNums_two L0 vN vZ ho1 ho2 ho3 (by unfold maxNum; omega), hs1] at hnum
      have HE := hide (And.intro hN (And.intro hZ (And.intro hS (And.intro hpD (And.intro hdD hlD)))))
      have HN := hide (And.intro n2 (And.intro n3 (And.intro hb1 hs1)))
      have HWW := hide (And.intro hW1 hW2)
      clear hN hZ hS hpD hdD hcD hlD n2 n3 hW1 hW2 hb2 hi2 hso hB hPk hOk hWD hLD hDi hDlt e1 e2 e3 e4 hL0 hnx hb1 hs1
      go_wp2_with fail
      rw [HWW.out.1, HWW.out.2]
      refine hnum.mono ?_
      rintro e w6 ⟨rfl, hso6, hk6⟩
      have hbx : ¬ soloF w2.heap.size (fun x => wr.heap.size ≤ x ∧ x < wr.heap.size + 1) wr.heap.size := fun h => h.2 ⟨Nat.le_refl _, by omega⟩
      have r2 := hk6.cell HN.out.1 hbx
      have r3 := hk6.cell HN.out.2.1 hbx
      have HK6 := hide hk6
      have HBX := hide hbx
      have hfx := solo_fix vS hso6 ho5 (by simp [szO]; omega)
      clear hnum hso6 hk6 hbx
      go_wp2_with fail
      refine hfx.mono ?_
      rintro e w7 ⟨rfl, hso7, hk7⟩
      have t3 := hk7.cell r3 HBX.out
      have HK7 := hide hk7
      simp only [putRaw] at hso7
      have hkk := HK6.out.trans hk7 (fun _ _ h => h)
      have hB7 : Below w2.heap.size w2 w7 := HB.out.trans ((HN.out.2.2.1.mono HB.out.size).trans (soloF_below hkk (by have := HB.out.size; have := HN.out.2.2.1.size; omega)))
      have hrs := solo_rise pD lD cD (fun i => dD.getD i 0) hso7 (fun g off s e h0 => .inl (HDI.out.2 g off s (by rw [HE.out.2.2.2.1]; exact e) (by rw [HE.out.2.2.2.2.1, HE.out.2.2.2.2.2]; exact h0))) (by omega) (by simp [szO, fixB]; omega) (fun i => by have := hDw.out i; rw [HE.out.2.2.2.2.1] at this; exact this) (by
       have h := HDI.out.1.below (below_thru hB2.out hB7)
       rw [HE.out.2.2.2.1, HE.out.2.2.2.2.1, HE.out.2.2.2.2.2] at h
       exact h)
      rw [hri] at hrs
      have HB7 := hide hB7
      clear hfx hso7 hk7 r2 r3 hkk hB7
      go_wp2_with fail
      refine hrs.mono ?_
      rintro e w8 ⟨rfl, hso8, hk8⟩
      have H8 := hide (And.intro hso8 hk8)
      clear hrs hso8 hk8 t3
      go_wp2_with fail
      go_roundg q
      case measure => omega
      case rel =>
       have hB8 : Below w2.heap.size w2 w8 := HB7.out.trans (soloF_below H8.out.2 HB7.out.size)
       refine ⟨k + 1, by omega, by go_num, ?_, hB8⟩
       have h := H8.out.1.free (Y := fun _ => False) (fun _ h => h.elim)
       rw [HNX.out, HE.out.1, HE.out.2.1, HE.out.2.2.1, HE.out.2.2.2.2.1]
       exact h
end Go.Proofs.YtppdbinppibjhaaGreatDoor
