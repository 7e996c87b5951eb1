/-
  The chapter's examples come out as the document tells.
-/
import Derived.Test.YtpnphijfdcimlaaAwake
namespace Go.Proofs.Ytpnphijfdcimlaa
open Go.RowKit

theorem kept_none_of {w w' : World} (h : Below w.heap.size w w') : Kept (fun _ => False) w w' := Kept.of_below h
theorem Kept.none {G : Nat → Prop} {w w' : World} (h : Kept (fun _ => False) w w') : Kept G w w' := h.mono (fun _ _ h => h.elim)

set_option maxRecDepth 100000 in
set_option maxHeartbeats 2000000 in
theorem awake_any (w : World) : Calls Try.prog 7 #[] w fun e w' => e = .returned (.bool true) ∧ Below w.heap.size w w' := by
  obtain ⟨Wa, hWa⟩ : ∃ Wa, w.alloc (.cells #[.pointer none, .int .i64 0, .bool false] 47) = Wa := ⟨_, rfl⟩
  have hsa : Wa.heap.size = w.heap.size + 1 := by rw [← hWa]; simp
  have hBa : Below w.heap.size w Wa := by rw [← hWa]; exact below_alloc w _
  have hfr : WP Wa (.pointer (some ⟨w.heap.size, 0, none⟩)) (fun k => k = w.heap.size) (some []) := by rw [← hWa]; exact Wr.fresh w _ rfl
  obtain ⟨Wb, hWb⟩ : ∃ Wb, Wa.alloc (.cells #[.int .i64 3, .int .i64 4, .int .i64 9] 3) = Wb := ⟨_, rfl⟩
  have hsb : Wb.heap.size = w.heap.size + 1 + 1 := by rw [← hWb]; simp [hsa]
  have hKb : Kept (fun _ => False) Wa Wb := by rw [← hWb]; exact Kept.of_below (below_alloc Wa _)
  have hin : Ints Wb (some ⟨w.heap.size + 1, 0, none⟩) 3 (fun i => [3, 4, 9].getD i 0) := by rw [← hWb]; exact ints_lit Wa [3, 4, 9] _ rfl _ hsa.symm
  have hris := rising_wp (.pointer (some ⟨w.heap.size, 0, none⟩)) (fun k => k = w.heap.size) (some []) (some ⟨w.heap.size + 1, 0, none⟩) 3 3 (fun i => [3, 4, 9].getD i 0) Wb (hfr.kept hKb (fun _ _ h => h)) (fun k hk => by omega) (fun g off s e _ h => by cases e; omega) (by omega) (by simp [szO])
    (fun i => by
      match i with
      | 0 => exact wf64 (by simp) (by simp)
      | 1 => exact wf64 (by simp) (by simp)
      | 2 => exact wf64 (by simp) (by simp)
      | i + 3 => exact wf64 (by simp) (by simp)) hin
  rw [awake1] at hris
  have HSA := hide hsa
  have HWA := hide hWa
  have HWB := hide hWb
  have hBb : Below w.heap.size w Wb := by rw [← hWb]; exact hBa.alloc hBa.size _
  clear hin hfr hKb
  go_enter Try.func7, Try.ntmps7
  go_wp2_with fail
  refine hris.mono ?_
  rintro e w1 ⟨rfl, hR1, hK1⟩
  have hs1 := hK1.size
  have hB1 : Below w.heap.size w w1 := hBb.trans (hK1.below (fun k hk => by omega) (by omega))
  clear hris hWa hWb hBa hBb
  obtain ⟨W2, hW2⟩ : ∃ W2, w1.alloc (.cells #[.int .i64 0, .int .i64 127, .int .i64 128, .int .i64 300] 3) = W2 := ⟨_, rfl⟩
  have hB2 : Below w1.heap.size w1 W2 := by rw [← hW2]; exact below_alloc w1 _
  have hs2 : W2.heap.size = w1.heap.size + 1 := by rw [← hW2]; simp
  have hp := put1_any (some ⟨w1.heap.size, 0, none⟩) 4 4 (fun i => [0, 127, 128, 300].getD i 0) W2 (by omega) (by rw [← hW2]; exact ints_lit w1 [0, 127, 128, 300] _ rfl _ rfl) (fun g off s e => by cases e; omega)
  rw [awake2] at hp
  clear hs2
  go_wp2_with fail
  refine hp.mono ?_
  rintro e w3 ⟨v3, rfl, ho3, hby3, hB3⟩
  obtain ⟨_, A3, C3, rfl, hAC3, _, hAn3, _, hbl3, _⟩ := owns_bl ho3 hby3
  have hB13 : Below w1.heap.size w1 w3 := hB2.trans (hB3.mono hB2.size)
  clear hp hW2 ho3
  obtain ⟨W4, hW4⟩ : ∃ W4, w3.alloc (.cells #[.int .u8 0, .int .u8 127, .int .u8 128, .int .u8 1, .int .u8 172, .int .u8 2] 5) = W4 := ⟨_, rfl⟩
  have hB4 : Below w3.heap.size w3 W4 := by rw [← hW4]; exact below_alloc w3 _
  have he4 := bytesEq_any A3 (some ⟨w3.heap.size, 0, none⟩) 6 C3 6 [0, 127, 128, 1, 172, 2] W4 rfl (by omega) (hbl3.below hB4) (by rw [← hW4]; exact bl_new w3 [0, 127, 128, 1, 172, 2] (by simp) _ rfl _ rfl)
  clear hbl3 hby3 hAn3 hAC3
  simp only [szO, List.length_cons, List.length_nil, Nat.zero_add, Nat.reduceAdd]
  go_wp2_with fail
  refine he4.mono ?_
  rintro e w5 ⟨rfl, hB5⟩
  have hB15 : Below w1.heap.size w1 w5 := (hB13.trans (hB4.mono hB13.size)).trans (hB5.mono (by have := hB13.size; have := hB4.size; omega))
  clear he4 hW4 hB4 hB13 hB2 hB3 hB5
  have hR5 := hR1.kept (Kept.of_below (F := fun _ => False) hB15) (fun _ _ h => h)
  have hbw := bytes_wp _ _ _ w5 hR5 (by simp [szO])
  go_wp2_with fail
  refine hbw.mono ?_
  rintro e w6 ⟨v6, rfl, ho6, hB6⟩
  obtain ⟨_, A6, C6, rfl, _, _, _, _, hbl6, _⟩ := owns_bl ho6 (by simp [hasO])
  clear hbw ho6
  obtain ⟨W7, hW7⟩ : ∃ W7, w6.alloc (.cells #[.int .u8 3, .int .u8 3, .int .u8 0, .int .u8 4] 5) = W7 := ⟨_, rfl⟩
  have hB7 : Below w6.heap.size w6 W7 := by rw [← hW7]; exact below_alloc w6 _
  have he7 := bytesEq_any A6 (some ⟨w6.heap.size, 0, none⟩) 4 C6 4 [3, 3, 0, 4] W7 rfl (by omega) (hbl6.below hB7) (by rw [← hW7]; exact bl_new w6 [3, 3, 0, 4] (by simp) _ rfl _ rfl)
  clear hbl6
  simp only [szO, List.length_cons, List.length_nil, Nat.zero_add, Nat.reduceAdd]
  go_wp2_with fail
  refine he7.mono ?_
  rintro e w8 ⟨rfl, hB8⟩
  have hB18 : Below w1.heap.size w1 w8 := ((hB15.trans (hB6.mono hB15.size)).trans (hB7.mono (by have := hB15.size; have := hB6.size; omega))).trans (hB8.mono (by have := hB15.size; have := hB6.size; have := hB7.size; omega))
  clear he7 hW7 hB7 hB8 hB6 hB15 hR5
  obtain ⟨W9, hW9⟩ : ∃ W9, w8.alloc (.cells #[.int .u8 172, .int .u8 2] 5) = W9 := ⟨_, rfl⟩
  have hB9 : Below w8.heap.size w8 W9 := by rw [← hW9]; exact below_alloc w8 _
  have hrd := read_any (some ⟨w8.heap.size, 0, none⟩) 2 2 [172, 2] W9 rfl (by omega) (by omega) (fun e => by cases e) (by rw [← hW9]; exact bl_new w8 [172, 2] (by simp) _ rfl _ rfl)
  go_wp2_with fail
  refine hrd.mono ?_
  rintro e w10 ⟨p10, rfl, hR10, hB10⟩
  clear hrd hW9
  have hn10 := rdNumber_any (.pointer (some ⟨p10, 0, none⟩)) _ (some [172, 2]) 300 w10 (.inr ⟨p10, rfl, hR10⟩) (fun k hk => hk.2) (wf64 (by omega) (by omega)) (by simp [szO])
  rw [awake3] at hn10
  go_wp2_with fail
  refine hn10.mono ?_
  rintro e w11 ⟨rfl, hR11, hK11⟩
  have hB8_10 : Below w8.heap.size w8 w10 := hB9.trans (hB10.mono hB9.size)
  have hB8_11 : Below w8.heap.size w8 w11 := hB8_10.trans (hK11.below (fun k hk => by
    unfold own1 at hk
    cases hk
    have := hR10.1.1
    have := hB9.size
    omega) hB8_10.size)
  clear hn10 hR10 hR11 hK11 hB8_10 hB10 hB9
  have hrd := read_any none 0 0 [] w11 rfl (by omega) (by omega) (fun _ => rfl) (BL.mk (by simp) (.inl rfl))
  go_wp2_with fail
  refine hrd.mono ?_
  rintro e w12 ⟨p12, rfl, hR12, hB12⟩
  clear hrd
  have hok := ok_any (.pointer (some ⟨p12, 0, none⟩)) _ (some []) w12 (.inr ⟨p12, rfl, hR12⟩)
  simp only [Option.isSome_some] at hok
  clear hR12
  go_wp2_with fail
  refine hok.mono ?_
  rintro e w13 ⟨rfl, rfl⟩
  go_wp2_with fail
  go_ret
  refine ⟨rfl, hB1.trans (((hB18.trans (hB8_11.mono hB18.size)).trans (hB12.mono ?_)).mono hB1.size)⟩
  have := hB18.size
  have := hB8_11.size
  omega
end Go.Proofs.Ytpnphijfdcimlaa
