/-
  lang.languages (written by tools/gen-llangs.py).
-/
import Derived.Test.YtpmldopbjlnknaaLLangs
import Derived.Test.YtpmldopbjlnknaaAppendIn
namespace Go.Proofs.Ytpmldopbjlnknaa
open Go.RowKit Go.Shelf

theorem Below.same {B : Nat} {a b c : World} (h : Below B a b) (k : Below B b c) (_ : B ≤ b.heap.size) : Below B a c := h.trans k
set_option maxRecDepth 100000 in
set_option maxHeartbeats 4000000 in
theorem languages_any (w : World) :
    Calls Try.prog 55 #[] w fun e w' => ∃ g, e = .returned (.map (some g)) ∧ MapL w' g 22 ∧ Below w.heap.size w w' := by
  obtain ⟨w0, hw0⟩ : ∃ w0, w.alloc (.map #[] 0) = w0 := ⟨_, rfl⟩
  have H0 := hide (And.intro (show MapL w0 w.heap.size 0 by rw [← hw0]; exact heap_alloc_new _ _) (show Below w.heap.size w w0 by rw [← hw0]; exact below_alloc _ _))
  have HW := hide hw0
  clear hw0
  go_enter Try.func55, Try.ntmps55
  have hmk : (Instr.makeMap 89 none).run Try.prog w = .ok (.map (some w.heap.size)) (w.alloc (.map #[] 0)) := rfl
  rw [HW.out] at hmk
  obtain ⟨w1, hr1, hM, hb⟩ := insert_run w0 w.heap.size 0 ([99], [99]) rfl H0.out.1 (by decide +kernel)
  have H1 := hide (And.intro hM (H0.out.2.trans (hb w.heap.size (Nat.le_refl _))))
  have hq1 : (Instr.mapUpdate 89 (.map (some w.heap.size)) (.string ⟨#[99]⟩) (.agg #[.string ⟨#[99]⟩])).run Try.prog w0 = .ok () w1 := hr1
  clear hM hb hr1 H0
  obtain ⟨w2, hr2, hM, hb⟩ := insert_run w1 w.heap.size 1 ([104], [99]) rfl H1.out.1 (by decide +kernel)
  have H2 := hide (And.intro hM (H1.out.2.trans (hb w.heap.size (Nat.le_refl _))))
  have hq2 : (Instr.mapUpdate 89 (.map (some w.heap.size)) (.string ⟨#[104]⟩) (.agg #[.string ⟨#[99]⟩])).run Try.prog w1 = .ok () w2 := hr2
  clear hM hb hr2 H1
  obtain ⟨w3, hr3, hM, hb⟩ := insert_run w2 w.heap.size 2 ([99, 99], [99, 112, 112]) rfl H2.out.1 (by decide +kernel)
  have H3 := hide (And.intro hM (H2.out.2.trans (hb w.heap.size (Nat.le_refl _))))
  have hq3 : (Instr.mapUpdate 89 (.map (some w.heap.size)) (.string ⟨#[99, 99]⟩) (.agg #[.string ⟨#[99, 112, 112]⟩])).run Try.prog w2 = .ok () w3 := hr3
  clear hM hb hr3 H2
  obtain ⟨w4, hr4, hM, hb⟩ := insert_run w3 w.heap.size 3 ([99, 112, 112], [99, 112, 112]) rfl H3.out.1 (by decide +kernel)
  have H4 := hide (And.intro hM (H3.out.2.trans (hb w.heap.size (Nat.le_refl _))))
  have hq4 : (Instr.mapUpdate 89 (.map (some w.heap.size)) (.string ⟨#[99, 112, 112]⟩) (.agg #[.string ⟨#[99, 112, 112]⟩])).run Try.prog w3 = .ok () w4 := hr4
  clear hM hb hr4 H3
  obtain ⟨w5, hr5, hM, hb⟩ := insert_run w4 w.heap.size 4 ([104, 112, 112], [99, 112, 112]) rfl H4.out.1 (by decide +kernel)
  have H5 := hide (And.intro hM (H4.out.2.trans (hb w.heap.size (Nat.le_refl _))))
  have hq5 : (Instr.mapUpdate 89 (.map (some w.heap.size)) (.string ⟨#[104, 112, 112]⟩) (.agg #[.string ⟨#[99, 112, 112]⟩])).run Try.prog w4 = .ok () w5 := hr5
  clear hM hb hr5 H4
  obtain ⟨w6, hr6, hM, hb⟩ := insert_run w5 w.heap.size 5 ([99, 115, 115], [99, 115, 115]) rfl H5.out.1 (by decide +kernel)
  have H6 := hide (And.intro hM (H5.out.2.trans (hb w.heap.size (Nat.le_refl _))))
  have hq6 : (Instr.mapUpdate 89 (.map (some w.heap.size)) (.string ⟨#[99, 115, 115]⟩) (.agg #[.string ⟨#[99, 115, 115]⟩])).run Try.prog w5 = .ok () w6 := hr6
  clear hM hb hr6 H5
  obtain ⟨w7, hr7, hM, hb⟩ := insert_run w6 w.heap.size 6 ([103, 111], [103, 111]) rfl H6.out.1 (by decide +kernel)
  have H7 := hide (And.intro hM (H6.out.2.trans (hb w.heap.size (Nat.le_refl _))))
  have hq7 : (Instr.mapUpdate 89 (.map (some w.heap.size)) (.string ⟨#[103, 111]⟩) (.agg #[.string ⟨#[103, 111]⟩])).run Try.prog w6 = .ok () w7 := hr7
  clear hM hb hr7 H6
  obtain ⟨w8, hr8, hM, hb⟩ := insert_run w7 w.heap.size 7 ([104, 116, 109, 108], [104, 116, 109, 108]) rfl H7.out.1 (by decide +kernel)
  have H8 := hide (And.intro hM (H7.out.2.trans (hb w.heap.size (Nat.le_refl _))))
  have hq8 : (Instr.mapUpdate 89 (.map (some w.heap.size)) (.string ⟨#[104, 116, 109, 108]⟩) (.agg #[.string ⟨#[104, 116, 109, 108]⟩])).run Try.prog w7 = .ok () w8 := hr8
  clear hM hb hr8 H7
  obtain ⟨w9, hr9, hM, hb⟩ := insert_run w8 w.heap.size 8 ([106, 97, 118, 97], [106, 97, 118, 97]) rfl H8.out.1 (by decide +kernel)
  have H9 := hide (And.intro hM (H8.out.2.trans (hb w.heap.size (Nat.le_refl _))))
  have hq9 : (Instr.mapUpdate 89 (.map (some w.heap.size)) (.string ⟨#[106, 97, 118, 97]⟩) (.agg #[.string ⟨#[106, 97, 118, 97]⟩])).run Try.prog w8 = .ok () w9 := hr9
  clear hM hb hr9 H8
  obtain ⟨w10, hr10, hM, hb⟩ := insert_run w9 w.heap.size 9 ([106, 115], [106, 97, 118, 97, 115, 99, 114, 105, 112, 116]) rfl H9.out.1 (by decide +kernel)
  have H10 := hide (And.intro hM (H9.out.2.trans (hb w.heap.size (Nat.le_refl _))))
  have hq10 : (Instr.mapUpdate 89 (.map (some w.heap.size)) (.string ⟨#[106, 115]⟩) (.agg #[.string ⟨#[106, 97, 118, 97, 115, 99, 114, 105, 112, 116]⟩])).run Try.prog w9 = .ok () w10 := hr10
  clear hM hb hr10 H9
  obtain ⟨w11, hr11, hM, hb⟩ := insert_run w10 w.heap.size 10 ([109, 106, 115], [106, 97, 118, 97, 115, 99, 114, 105, 112, 116]) rfl H10.out.1 (by decide +kernel)
  have H11 := hide (And.intro hM (H10.out.2.trans (hb w.heap.size (Nat.le_refl _))))
  have hq11 : (Instr.mapUpdate 89 (.map (some w.heap.size)) (.string ⟨#[109, 106, 115]⟩) (.agg #[.string ⟨#[106, 97, 118, 97, 115, 99, 114, 105, 112, 116]⟩])).run Try.prog w10 = .ok () w11 := hr11
  clear hM hb hr11 H10
  obtain ⟨w12, hr12, hM, hb⟩ := insert_run w11 w.heap.size 11 ([106, 115, 111, 110], [106, 115, 111, 110]) rfl H11.out.1 (by decide +kernel)
  have H12 := hide (And.intro hM (H11.out.2.trans (hb w.heap.size (Nat.le_refl _))))
  have hq12 : (Instr.mapUpdate 89 (.map (some w.heap.size)) (.string ⟨#[106, 115, 111, 110]⟩) (.agg #[.string ⟨#[106, 115, 111, 110]⟩])).run Try.prog w11 = .ok () w12 := hr12
  clear hM hb hr12 H11
  obtain ⟨w13, hr13, hM, hb⟩ := insert_run w12 w.heap.size 12 ([109, 100], [109, 97, 114, 107, 100, 111, 119, 110]) rfl H12.out.1 (by decide +kernel)
  have H13 := hide (And.intro hM (H12.out.2.trans (hb w.heap.size (Nat.le_refl _))))
  have hq13 : (Instr.mapUpdate 89 (.map (some w.heap.size)) (.string ⟨#[109, 100]⟩) (.agg #[.string ⟨#[109, 97, 114, 107, 100, 111, 119, 110]⟩])).run Try.prog w12 = .ok () w13 := hr13
  clear hM hb hr13 H12
  obtain ⟨w14, hr14, hM, hb⟩ := insert_run w13 w.heap.size 13 ([112, 121], [112, 121, 116, 104, 111, 110]) rfl H13.out.1 (by decide +kernel)
  have H14 := hide (And.intro hM (H13.out.2.trans (hb w.heap.size (Nat.le_refl _))))
  have hq14 : (Instr.mapUpdate 89 (.map (some w.heap.size)) (.string ⟨#[112, 121]⟩) (.agg #[.string ⟨#[112, 121, 116, 104, 111, 110]⟩])).run Try.prog w13 = .ok () w14 := hr14
  clear hM hb hr14 H13
  obtain ⟨w15, hr15, hM, hb⟩ := insert_run w14 w.heap.size 14 ([114, 98], [114, 117, 98, 121]) rfl H14.out.1 (by decide +kernel)
  have H15 := hide (And.intro hM (H14.out.2.trans (hb w.heap.size (Nat.le_refl _))))
  have hq15 : (Instr.mapUpdate 89 (.map (some w.heap.size)) (.string ⟨#[114, 98]⟩) (.agg #[.string ⟨#[114, 117, 98, 121]⟩])).run Try.prog w14 = .ok () w15 := hr15
  clear hM hb hr15 H14
  obtain ⟨w16, hr16, hM, hb⟩ := insert_run w15 w.heap.size 15 ([114, 115], [114, 117, 115, 116]) rfl H15.out.1 (by decide +kernel)
  have H16 := hide (And.intro hM (H15.out.2.trans (hb w.heap.size (Nat.le_refl _))))
  have hq16 : (Instr.mapUpdate 89 (.map (some w.heap.size)) (.string ⟨#[114, 115]⟩) (.agg #[.string ⟨#[114, 117, 115, 116]⟩])).run Try.prog w15 = .ok () w16 := hr16
  clear hM hb hr16 H15
  obtain ⟨w17, hr17, hM, hb⟩ := insert_run w16 w.heap.size 16 ([115, 104], [115, 104, 101, 108, 108]) rfl H16.out.1 (by decide +kernel)
  have H17 := hide (And.intro hM (H16.out.2.trans (hb w.heap.size (Nat.le_refl _))))
  have hq17 : (Instr.mapUpdate 89 (.map (some w.heap.size)) (.string ⟨#[115, 104]⟩) (.agg #[.string ⟨#[115, 104, 101, 108, 108]⟩])).run Try.prog w16 = .ok () w17 := hr17
  clear hM hb hr17 H16
  obtain ⟨w18, hr18, hM, hb⟩ := insert_run w17 w.heap.size 17 ([115, 113, 108], [115, 113, 108]) rfl H17.out.1 (by decide +kernel)
  have H18 := hide (And.intro hM (H17.out.2.trans (hb w.heap.size (Nat.le_refl _))))
  have hq18 : (Instr.mapUpdate 89 (.map (some w.heap.size)) (.string ⟨#[115, 113, 108]⟩) (.agg #[.string ⟨#[115, 113, 108]⟩])).run Try.prog w17 = .ok () w18 := hr18
  clear hM hb hr18 H17
  obtain ⟨w19, hr19, hM, hb⟩ := insert_run w18 w.heap.size 18 ([116, 120, 116], [116, 101, 120, 116]) rfl H18.out.1 (by decide +kernel)
  have H19 := hide (And.intro hM (H18.out.2.trans (hb w.heap.size (Nat.le_refl _))))
  have hq19 : (Instr.mapUpdate 89 (.map (some w.heap.size)) (.string ⟨#[116, 120, 116]⟩) (.agg #[.string ⟨#[116, 101, 120, 116]⟩])).run Try.prog w18 = .ok () w19 := hr19
  clear hM hb hr19 H18
  obtain ⟨w20, hr20, hM, hb⟩ := insert_run w19 w.heap.size 19 ([116, 115], [116, 121, 112, 101, 115, 99, 114, 105, 112, 116]) rfl H19.out.1 (by decide +kernel)
  have H20 := hide (And.intro hM (H19.out.2.trans (hb w.heap.size (Nat.le_refl _))))
  have hq20 : (Instr.mapUpdate 89 (.map (some w.heap.size)) (.string ⟨#[116, 115]⟩) (.agg #[.string ⟨#[116, 121, 112, 101, 115, 99, 114, 105, 112, 116]⟩])).run Try.prog w19 = .ok () w20 := hr20
  clear hM hb hr20 H19
  obtain ⟨w21, hr21, hM, hb⟩ := insert_run w20 w.heap.size 20 ([121, 97, 109, 108], [121, 97, 109, 108]) rfl H20.out.1 (by decide +kernel)
  have H21 := hide (And.intro hM (H20.out.2.trans (hb w.heap.size (Nat.le_refl _))))
  have hq21 : (Instr.mapUpdate 89 (.map (some w.heap.size)) (.string ⟨#[121, 97, 109, 108]⟩) (.agg #[.string ⟨#[121, 97, 109, 108]⟩])).run Try.prog w20 = .ok () w21 := hr21
  clear hM hb hr21 H20
  obtain ⟨w22, hr22, hM, hb⟩ := insert_run w21 w.heap.size 21 ([121, 109, 108], [121, 97, 109, 108]) rfl H21.out.1 (by decide +kernel)
  have H22 := hide (And.intro hM (H21.out.2.trans (hb w.heap.size (Nat.le_refl _))))
  have hq22 : (Instr.mapUpdate 89 (.map (some w.heap.size)) (.string ⟨#[121, 109, 108]⟩) (.agg #[.string ⟨#[121, 97, 109, 108]⟩])).run Try.prog w21 = .ok () w22 := hr22
  clear hM hb hr22 H21
  go_wp2_with fail
  go_ret
  exact ⟨_, rfl, H22.out.1, H22.out.2⟩
end Go.Proofs.Ytpmldopbjlnknaa
