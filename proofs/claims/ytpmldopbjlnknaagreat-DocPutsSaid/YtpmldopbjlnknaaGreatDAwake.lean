/-
  mudlarklaw22.awake.
-/
import Derived.Test.YtpmldopbjlnknaaGreatDKits
import Derived.Test.YtpmldopbjlnknaaGreatAppendS
set_option maxHeartbeats 4000000
set_option maxRecDepth 100000
set_option linter.unusedVariables false
set_option linter.unusedSimpArgs false
namespace Go.Proofs.YtpmldopbjlnknaaGreat
open Go.RowKit Go.Shelf
def dGo : DT := ⟨[97, 46, 103, 111], [103, 111], 0, 0⟩
theorem docF_go : docF ([97, 46, 103, 111], []) = dGo := by
 have h1 : ofL [97, 46, 103, 111] = [103, 111] := by decide +kernel
 have h2 : crcL [] = 0 := by decide +kernel
 unfold docF dGo
 simp only [h1, h2]
 rfl
theorem rightF_go : rightF [([97, 46, 103, 111], [])] = true := by decide +kernel
theorem rightD_go : rightD [dGo] = true := by
 have h := rightD_of rightF_go
 rw [List.map_cons, List.map_nil, docF_go] at h
 exact h
theorem table_go : tableD [dGo] = [1, 4, 97, 46, 103, 111, 0, 0, 0, 0, 0] := by
 have e1 : encN 1 = [1] := encN_lo (by decide)
 have e4 : encN 4 = [4] := encN_lo (by decide)
 have e0 : encN 0 = [0] := encN_lo (by decide)
 show encN 1 ++ (encN 4 ++ (nb [97, 46, 103, 111] ++ (fixB 0 ++ encN 0)) ++ []) = _
 rw [e1, e4, e0]
 rfl
theorem awake22_any (w : World) : Calls Tryz.prog 6 #[] w fun e w' => e = .returned (.bool true) ∧ Below w.heap.size w w' := by
 obtain ⟨W1, hW1⟩ : ∃ W1, w.alloc (.cells #[by8 [97, 46, 103, 111], .slice none 0 0] 39) = W1 := ⟨_, rfl⟩
 have hb1 : Below w.heap.size w W1 := by rw [← hW1]; exact below_alloc _ _
 have hnew : W1.heap[w.heap.size]? = some (.cells #[by8 [97, 46, 103, 111], .slice none 0 0] 39 (0, 0)) := by rw [← hW1]; exact heap_alloc_new _ _
 obtain ⟨n0, n1⟩ := cellsAt2 hnew
 have hF : Fils W1 (some ⟨w.heap.size, 0, none⟩) 1 (fun _ => ⟨[97, 46, 103, 111], [], none, 0⟩) := .inr ⟨w.heap.size, 0, rfl, fun i hi => by
  obtain rfl : i = 0 := by omega
  exact ⟨⟨n0, n1⟩, ⟨by simp, by simp, fun _ => rfl, .inl rfl, BL.mk (by simp) (.inl rfl)⟩⟩⟩
 have hof := docOf_ok (some ⟨w.heap.size, 0, none⟩) 1 1 (fun _ => ⟨[97, 46, 103, 111], [], none, 0⟩) W1 (by omega) hF (fun _ _ => by simp) rightF_go
 rw [show filesL (fun _ => (⟨[97, 46, 103, 111], [], none, 0⟩ : Fil)) 1 = [([97, 46, 103, 111], [])] from rfl, List.map_cons, List.map_nil, docF_go] at hof
 have HW := hide hW1
 have HB1 := hide hb1
 clear hW1 hb1 hnew n0 n1 hF
 go_enter Tryz.func6, Tryz.ntmps6
 go_wp2_with fail
 rw [show w.alloc (.cells #[.string ⟨#[97, 46, 103, 111]⟩, .slice none 0 0] 39) = W1 from HW.out]
 refine hof.mono ?_
 rintro e w2 ⟨⟨v2, rfl, ho2⟩, hb2⟩
 obtain ⟨A2, C2, rfl, hd2, hc2, hm2, _⟩ := ho2.docs
 have hpt := docPut_ok A2 C2 [dGo] w2 (by simp) hd2 (fun d hd => by rw [List.mem_singleton.1 hd]; decide) (fun d hd => by rw [List.mem_singleton.1 hd]; decide) rightD_go
 have hB2 := HB1.out.trans (hb2.mono HB1.out.size)
 have HD2 := hide (And.intro hd2 hB2)
 rw [table_go] at hpt
 clear hof ho2 hb2 hd2 hB2
 simp only [List.length_singleton] at hpt ⊢
 go_wp2_with fail
 refine hpt.mono ?_
 rintro e w3 ⟨⟨v3, rfl, ho3⟩, hb3⟩
 obtain ⟨_, A3, C3, rfl, _, _, _, _, hbl3, _⟩ := owns_bl ho3 (by decide)
 have hd3 := HD2.out.1.below hb3
 obtain ⟨b, off, rfl, q0, q1, q2, q3⟩ := hd3.cells (i := 0) (d := dGo) rfl
 have HB3 := hide (HD2.out.2.trans (hb3.mono HD2.out.2.size))
 have HD3 := hide hd3
 obtain ⟨W4, hW4⟩ : ∃ W4, w3.alloc (.cells #[.int .u8 1, .int .u8 4, .int .u8 97, .int .u8 46, .int .u8 103, .int .u8 111, .int .u8 0, .int .u8 0, .int .u8 0, .int .u8 0, .int .u8 0] 5) = W4 := ⟨_, rfl⟩
 have hb4 : Below w3.heap.size w3 W4 := by rw [← hW4]; exact below_alloc _ _
 have hbl4 : BL W4 (some ⟨w3.heap.size, 0, none⟩) [1, 4, 97, 46, 103, 111, 0, 0, 0, 0, 0] := by
  refine BL.mk (by decide) (.inr ⟨_, 0, rfl, fun i hi => ?_⟩)
  rw [← hW4, cell_of_row _ _ _ _ _ _ (heap_alloc_new w3 _), Nat.zero_add]
  match i, hi with
  | 0, _ | 1, _ | 2, _ | 3, _ | 4, _ | 5, _ | 6, _ | 7, _ | 8, _ | 9, _ | 10, _ => rfl
 have hsb := sameBytes_any A3 (some ⟨w3.heap.size, 0, none⟩) 11 C3 11 _ W4 rfl (by omega) (hbl3.below hb4) hbl4
 have HW4 := hide hW4
 have HB4 := hide hb4
 clear hpt ho3 hb3 hbl3 hd3 hW4 hb4 hbl4
 simp only [dGo] at q1
 rw [show off + 0 * 4 + 1 = off + 1 by omega] at q1
 unfold by8 at q1
 go_wp2_with fail
 rw [HW4.out]
 refine hsb.mono ?_
 rintro e w5 ⟨rfl, hb5⟩
 have hd5 := HD3.out.below (HB4.out.trans (hb5.mono HB4.out.size))
 have HB5 := hide (HB3.out.trans ((HB4.out.trans (hb5.mono HB4.out.size)).mono HB3.out.size))
 have hf1 := find_l _ C2 [dGo] [97, 46, 103, 111] w5 (by simp) hd5
 rw [show findN [97, 46, 103, 111] 0 (List.map DT.P [dGo]) = 0 by decide +kernel] at hf1
 have HD5 := hide hd5
 clear hsb hb5 hd5 q0 q1 q2 q3
 unfold by8 at hf1
 go_wp2_with fail
 refine hf1.mono ?_
 rintro e w6 ⟨rfl, hb6⟩
 have hf2 := find_l _ C2 [dGo] [98] w6 (by simp) (HD5.out.below hb6)
 rw [show findN [98] 0 (List.map DT.P [dGo]) = -1 by decide +kernel] at hf2
 have HB6 := hide (HB5.out.trans (hb6.mono HB5.out.size))
 clear hf1 hb6
 unfold by8 at hf2
 go_wp2_with fail
 refine hf2.mono ?_
 rintro e w7 ⟨rfl, hb7⟩
 have HB7 := hide (HB6.out.trans (hb7.mono HB6.out.size))
 clear hf2 hb7
 go_wp2_with fail
 go_ret
 exact ⟨rfl, HB7.out⟩
theorem nil_ltP {p : List UInt8} (h : rightP p = true) : ltP [] p = true := by
 cases p with
 | nil => exact absurd rfl (rightP_ne h)
 | cons x r => exact (ltP_iff _ _).2 (by simp)
theorem rise_succ (P : Nat → List UInt8) (k : Nat) : riseP [] (pathsN P (k + 1)) = (riseP [] (pathsN P k) && (ltP (lastOf [] (pathsN P k)) (P k) && rightP (P k))) := by
 rw [pathsN_succ, riseP_snoc]
theorem last_succ (P : Nat → List UInt8) (j : Nat) : lastOf [] (pathsN P (j + 1)) = P j := by
 rw [pathsN_succ, lastOf_snoc]
theorem rise_round (P : Nat → List UInt8) (k n : Nat) (hk : k < n) (hg : riseP [] (pathsN P k) = true) :
  (rightP (P k) = false → riseP [] (pathsN P n) = false) ∧ (rightP (P k) = true → k = 0 → riseP [] (pathsN P (k + 1)) = true) ∧
  (∀ j, k = j + 1 → ltP (P j) (P k) = false → riseP [] (pathsN P n) = false) ∧ (∀ j, k = j + 1 → rightP (P k) = true → ltP (P j) (P k) = true → riseP [] (pathsN P (k + 1)) = true) := by
 obtain ⟨r, hr⟩ := pathsN_split P hk
 refine ⟨fun h => ?_, fun h h0 => ?_, fun j hj h => ?_, fun j hj h h2 => ?_⟩
 ·rw [hr]; exact riseP_bad (by rw [h, Bool.and_false])
 ·rw [rise_succ, hg, h, h0]
  rw [h0] at h
  exact by rw [show lastOf [] (pathsN P 0) = [] from rfl, nil_ltP h]; rfl
 ·rw [hr]
  refine riseP_bad ?_
  rw [hj, last_succ, ← hj, h]
  rfl
 ·rw [rise_succ, hg, h]
  conv => lhs; rw [hj, last_succ, ← hj, h2]
  rfl
end Go.Proofs.YtpmldopbjlnknaaGreat
