/-
  mudlarklaw25.awake.
-/
import Derived.Test.YtppdbinppibjhaaGreatDoorMUses
import Derived.Test.YtppdbinppibjhaaGreatDoorMName
set_option maxHeartbeats 2000000
set_option maxRecDepth 100000
set_option linter.unusedVariables false
set_option linter.unusedSimpArgs false
namespace Go.Proofs.YtppdbinppibjhaaGreatDoor
open Go.RowKit Go.Shelf
def mGo : MT := ⟨3, [⟨2, 10, 7, [0, 3]⟩]⟩
theorem rightM_go : rightM mGo = true := by decide +kernel
theorem getM_nil : getM [] = none := by decide +kernel
theorem getM_go : getM (fileM mGo) = some mGo := getM_put rightM_go (fun s hs => by rw [List.mem_singleton.1 hs]; decide)
def sGo (g : Nat) : Nat → Shd := fun _ => ⟨2, 10, 7, [0, 3], some ⟨g, 0, none⟩, 2⟩
theorem atoi_go1 : Lib.atoiAll (Lib.trimPrefix [115, 46, 48, 49, 50] [115, 46]) = .ok 12 := by decide +kernel
theorem atoi_go2 : Lib.atoiAll (Lib.trimPrefix [115, 46, 49, 50] [115, 46]) = .ok 12 := by decide +kernel
theorem numN_go1 : numN [115, 46, 48, 49, 50] = none := by decide +kernel
theorem numN_go2 : numN [115, 46, 49, 50] = some 12 := by decide +kernel
theorem nameN_go : nameN 12 = [115, 46, 49, 50] := by decide +kernel
theorem now_any (w : World) : Calls Tryz.prog 38 #[] w fun e w' => e = .returned (.string ⟨#[109]⟩) ∧ w' = w := by
 go_enter Tryz.func38, Tryz.ntmps38
 go_wp2
 go_ret
 exact ⟨rfl, rfl⟩
theorem next_any (w : World) : Calls Tryz.prog 39 #[] w fun e w' => e = .returned (.string ⟨#[109, 46, 110, 101, 119]⟩) ∧ w' = w := by
 go_enter Tryz.func39, Tryz.ntmps39
 go_wp2
 go_ret
 exact ⟨rfl, rfl⟩
theorem awake25_any (w : World) : Calls Tryz.prog 10 #[] w fun e w' => e = .returned (.bool true) ∧ Below w.heap.size w w' := by
 obtain ⟨W1, hW1⟩ : ∃ W1, w.alloc (.cells #[.int .i64 0, .int .i64 3] 3) = W1 := ⟨_, rfl⟩
 have hb1 : Below w.heap.size w W1 := by rw [← hW1]; exact below_alloc _ _
 have hs1 : W1.heap.size = w.heap.size + 1 := by rw [← hW1]; simp
 have h1 : W1.heap[w.heap.size]? = some (.cells #[.int .i64 0, .int .i64 3] 3 (0, 0)) := by rw [← hW1]; exact heap_alloc_new _ _
 obtain ⟨W2, hW2⟩ : ∃ W2, W1.alloc (.cells #[.int .i64 2, .int .i64 10, .int .u32 7, .slice (some ⟨w.heap.size, 0, none⟩) 2 2] 54) = W2 := ⟨_, rfl⟩
 have hb2 : Below W1.heap.size W1 W2 := by rw [← hW2]; exact below_alloc _ _
 have hs2 : W2.heap.size = w.heap.size + 1 + 1 := by rw [← hW2, ← hs1]; simp
 have h2 : W2.heap[W1.heap.size]? = some (.cells #[.int .i64 2, .int .i64 10, .int .u32 7, .slice (some ⟨w.heap.size, 0, none⟩) 2 2] 54 (0, 0)) := by rw [← hW2]; exact heap_alloc_new _ _
 rw [hs1] at h2
 obtain ⟨W3, hW3⟩ : ∃ W3, W2.alloc (.cells #[.int .i64 3, .slice (some ⟨w.heap.size + 1, 0, none⟩) 1 1] 24) = W3 := ⟨_, rfl⟩
 have hb3 : Below W2.heap.size W2 W3 := by rw [← hW3]; exact below_alloc _ _
 have h3 : W3.heap[w.heap.size + 1 + 1]? = some (.cells #[.int .i64 3, .slice (some ⟨w.heap.size + 1, 0, none⟩) 1 1] 24 (0, 0)) := by rw [← hW3, ← hs2]; exact heap_alloc_new _ _
 have hB3 : Below w.heap.size w W3 := below_thru (below_thru hb1 hb2) hb3
 have hP : Shds W3 (some ⟨w.heap.size + 1, 0, none⟩) 1 (sGo w.heap.size) := by
  refine Shds.below (w := W2) (.inr ⟨_, 0, rfl, fun i hi => ?_⟩) hb3
  obtain rfl : i = 0 := by omega
  obtain ⟨c0, c1, c2, c3⟩ := cells4_at h2
  refine ⟨⟨c0, c1, c2, c3⟩, ⟨(by decide : (Lit.int .i64 2).wf = true), (by decide : (Lit.int .i64 10).wf = true), (by decide : 7 < 4294967296), (by decide : [(0:Int), 3].length ≤ 2), (by decide : 2 ≤ 9223372036854775807), (fun e => by cases e), .inr ⟨_, 0, rfl⟩, (by decide : ∀ d ∈ [(0:Int), 3], (Lit.int .i64 d).wf = true), ?_⟩⟩
  refine Ints.below (w := W1) (.inr ⟨_, 0, rfl, fun j hj => ?_⟩) hb2
  obtain ⟨d0, d1⟩ := cells2_at h1
  rcases (show j = 0 ∨ j = 1 by have : j < 2 := hj; omega) with rfl | rfl
  ·exact d0
  ·exact d1
 have hpt := mput_any 3 _ 1 1 _ W3 (by omega) (by decide) hP (fun i _ => by show 2 ≤ _; omega)
 rw [show (⟨3, stsN (sGo w.heap.size) 1⟩ : MT) = mGo from rfl] at hpt
 simp only [rightM_go, if_true] at hpt
 have HS := hide (And.intro hs1 hs2)
 have HW := hide (And.intro hW1 (And.intro hW2 hW3))
 have H3 := hide (And.intro hP (And.intro hB3 (cells2_at h3)))
 clear hW1 hb1 hs1 h1 hW2 hb2 hs2 h2 hW3 hb3 h3 hB3 hP
 go_enter Tryz.func10, Tryz.ntmps10
 go_wp2_with fail
 rw [HW.out.1, HW.out.2.1, HW.out.2.2]
 refine hpt.mono ?_
 rintro e w4 ⟨⟨v4, rfl, ho4⟩, hb4⟩
 obtain ⟨hfl, hf8⟩ := fileM_ok rightM_go (fun s hs => by rw [List.mem_singleton.1 hs]; decide)
 obtain ⟨_, A4, C4, rfl, hs4, _⟩ := SB.own ho4 hf8
 have hgt := mget_any A4 C4 _ (fileM mGo) w4 rfl hs4 hfl
 rw [getM_go] at hgt
 have HB4 := hide (below_thru H3.out.2.1 hb4)
 have HP4 := hide (H3.out.1.below hb4)
 have HC4 := hide (And.intro (cell_thru H3.out.2.2.1 hb4) (cell_thru H3.out.2.2.2 hb4))
 clear hpt ho4 hb4 hfl hf8 hs4 H3 HW
 generalize (fileM mGo).length = fl at *
 go_wp2_with fail
 refine hgt.mono ?_
 rintro e w5 ⟨hg5, hb5⟩
 obtain ⟨A5, C5, Q5, rfl, hQ5, hq5, _, _, _, _⟩ := hg5.some'
 have hl5 : mGo.L.length = 1 := rfl
 have hG5 : mGo.G = 3 := rfl
 rw [hl5] at hQ5 hq5 ⊢
 rw [hG5]
 obtain ⟨W6, hW6⟩ : ∃ W6, w5.alloc (.cells #[.int .i64 3, .slice A5 1 C5] 24) = W6 := ⟨_, rfl⟩
 have hb6 : Below w5.heap.size w5 W6 := by rw [← hW6]; exact below_alloc _ _
 have h6 : W6.heap[w5.heap.size]? = some (.cells #[.int .i64 3, .slice A5 1 C5] 24 (0, 0)) := by rw [← hW6]; exact heap_alloc_new _ _
 have hb56 := below_thru hb5 hb6
 have hgn := mget_any none 0 0 [] W6 rfl ⟨by simp, by omega, fun _ => rfl, .inl rfl, BL.mk (by simp) (.inl rfl)⟩ (by omega)
 rw [getM_nil] at hgn
 have HB6 := hide (below_thru HB4.out hb56)
 have HP6 := hide (And.intro (HP4.out.below hb56) (hQ5.below hb6))
 have HC6 := hide (And.intro (And.intro (cell_thru HC4.out.1 hb56) (cell_thru HC4.out.2 hb56)) (cells2_at h6))
 have HW6 := hide hW6
 have HQ := hide hq5
 clear hgt hg5 hb5 hQ5 hl5 hG5 hW6 hb6 h6 hb56 HB4 HP4 HC4 hq5
 go_wp2_with fail
 rw [HW6.out]
 refine hgn.mono ?_
 rintro e w7 ⟨hg7, hb7⟩
 have hg7' : e = .returned (.tuple #[.agg #[.int .i64 0, .slice none 0 0], .int .i64 9]) := hg7
 subst hg7'
 obtain ⟨W8, hW8⟩ : ∃ W8, w7.alloc (.cells #[.int .i64 0, .slice none 0 0] 24) = W8 := ⟨_, rfl⟩
 have hb8 : Below w7.heap.size w7 W8 := by rw [← hW8]; exact below_alloc _ _
 have hb78 := below_thru hb7 hb8
 have hn1 := mnum_any [115, 46, 48, 49, 50] W8 (by decide) (.inl ⟨12, by omega, by omega, atoi_go1⟩)
 rw [numN_go1] at hn1
 have HB8 := hide (below_thru HB6.out hb78)
 have HP8 := hide (And.intro (HP6.out.1.below hb78) (HP6.out.2.below hb78))
 have HC8 := hide (And.intro (And.intro (cell_thru HC6.out.1.1 hb78) (cell_thru HC6.out.1.2 hb78)) (And.intro (cell_thru HC6.out.2.1 hb78) (cell_thru HC6.out.2.2 hb78)))
 have HW8 := hide hW8
 unfold sV at hn1
 clear hgn hg7 hb7 hW8 hb8 hb78 HB6 HP6 HC6 HW6
 generalize w5.heap.size = p5 at *
 go_wp2_with fail
 rw [HW8.out]
 refine hn1.mono ?_
 rintro e w9 ⟨rfl, hb9⟩
 have hn2 := mnum_any [115, 46, 49, 50] w9 (by decide) (.inl ⟨12, by omega, by omega, atoi_go2⟩)
 rw [numN_go2] at hn2
 have HB9 := hide (below_thru HB8.out hb9)
 have HP9 := hide (And.intro (HP8.out.1.below hb9) (HP8.out.2.below hb9))
 have HC9 := hide (And.intro (And.intro (cell_thru HC8.out.1.1 hb9) (cell_thru HC8.out.1.2 hb9)) (And.intro (cell_thru HC8.out.2.1 hb9) (cell_thru HC8.out.2.2 hb9)))
 unfold sV at hn2
 simp only [Option.getD_none, Option.isSome_none]
 clear hn1 hb9 HB8 HP8 HC8 HW8
 go_wp2_with fail
 refine hn2.mono ?_
 rintro e w10 ⟨rfl, hb10⟩
 simp only [Option.getD_some, Option.isSome_some]
 have hsm := sameMani_any 3 _ _ 1 1 C5 _ _ w10 (by omega) (HP9.out.1.below hb10) (HP9.out.2.below hb10) (fun i _ => by show 2 ≤ _; omega) (stsN_eq (by rw [HQ.out]; rfl))
 have hx0 := cell_thru HC9.out.1.1 hb10
 have hx1 := cell_thru HC9.out.1.2 hb10
 have hy0 := cell_thru HC9.out.2.1 hb10
 have hy1 := cell_thru HC9.out.2.2 hb10
 have HB10 := hide (below_thru HB9.out hb10)
 clear hn2 hb10 HB9 HP9 HC9
 go_wp2_with fail
 refine hsm.mono ?_
 rintro e w11 ⟨rfl, hb11⟩
 have hnm := mname_any 12 w11 (.inl (by omega))
 rw [nameN_go] at hnm
 have HB11 := hide (below_thru HB10.out hb11)
 unfold sV at hnm
 clear hsm hb11 HB10 hx0 hx1 hy0 hy1
 go_wp2_with fail
 refine hnm.mono ?_
 rintro e w12 ⟨rfl, hb12⟩
 have hnw := now_any w12
 have HB12 := hide (below_thru HB11.out hb12)
 clear hnm hb12 HB11
 go_wp2_with fail
 refine hnw.mono ?_
 rintro e w13 ⟨rfl, rfl⟩
 have hnx := next_any w13
 clear hnw
 go_wp2_with fail
 refine hnx.mono ?_
 rintro e w14 ⟨rfl, rfl⟩
 clear hnx
 go_wp2_with fail
 go_ret
 exact ⟨rfl, HB12.out⟩
end Go.Proofs.YtppdbinppibjhaaGreatDoor
