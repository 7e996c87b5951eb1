/-
  The chapter's example comes out as the document tells.
-/
import Derived.Test.YtlmjplpledilhaaGreatFPuts
import Derived.Test.YtlmjplpledilhaaGreatFOwn
import Derived.Lib.SlBytesConst
import Derived.Lib.SmallJoins
import Derived.Laws.IdiomStrings
namespace Go.Proofs.YtlmjplpledilhaaGreat
open Go.RowKit

theorem enc2 : encN 2 = [2] := encN_lo (by omega)
theorem body_ab : bodyB [((5, [97, 98]) : PT)] = [5, 2, 97, 98] := by simp [bodyB, partB, headP, enc2]
theorem size_ab : sizeB [((5, [97, 98]) : PT)] = 12 := by unfold sizeB; rw [body_ab]; rfl
theorem ok_ab : ∀ p ∈ [((5, [97, 98]) : PT)], okPart p := by
  intro p hp
  simp only [List.mem_singleton] at hp
  subst hp
  exact ⟨by decide, by decide, by decide⟩
theorem get_ab : getFile (fileB [((5, [97, 98]) : PT)]) = some [(5, [97, 98])] := getFile_put _ (by rw [size_ab]; decide) (by intro p hp; simp only [List.mem_singleton] at hp; subst hp; decide)
theorem cut_ab : getFile ((fileB [((5, [97, 98]) : PT)]).take 11) = none := getFile_cut _ 11 (by rw [size_ab]; decide) (by rw [size_ab]; omega)
def abP (g : Nat) : Nat → Prt := fun _ => ⟨5, [97, 98], some ⟨g, 0, none⟩, 2⟩
theorem pts_ab (g : Nat) : pts (abP g) 1 = [(5, [97, 98])] := by simp [pts, abP, pt, List.range_succ]
theorem pts_none (P : Nat → Prt) : pts P 0 = [] := by simp [pts]
theorem file0 : (fileB []).getD 0 0 = 8 := by simp [fileB, aheadB, sizeB, bodyB, fixB]

set_option maxRecDepth 100000 in
set_option maxHeartbeats 2000000 in
theorem awake_any (w : World) : Calls Tryz.prog 7 #[] w fun e w' => e = .returned (.bool true) ∧ Below w.heap.size w w' := by
  have hp0 := fput_any none 0 0 (abP 0) w (.inl rfl) (by omega) (by rw [pts_none]; simp [sizeB, bodyB])
  rw [pts_none, show sizeB [] = 8 from rfl] at hp0
  obtain ⟨L1, hL1⟩ : ∃ L, fileB [] = L := ⟨_, rfl⟩
  have hl1 : L1.length = 8 := by rw [← hL1, fileB_len]; rfl
  have h10 : L1.getD 0 0 = 8 := by rw [← hL1]; exact file0
  obtain ⟨L2, hL2⟩ : ∃ L, fileB [((5, [97, 98]) : PT)] = L := ⟨_, rfl⟩
  have hl12 : L2.length = 12 := by rw [← hL2, fileB_len, size_ab]
  have hgt := get_ab
  have hct := cut_ab
  have hlt4 := fileB_lt ok_ab
  rw [hL2] at hgt hct hlt4
  rw [hL1] at hp0
  go_enter Tryz.func7, Tryz.ntmps7
  go_wp2_with fail
  refine hp0.mono ?_
  rintro e w1 ⟨v1, rfl, ho1, hB1⟩
  clear hp0
  obtain ⟨b1, C1, rfl, hc1, _, _, _⟩ := owns_cell ho1 (lc_get L1 0 (by omega))
  rw [h10] at hc1
  have kc := fun (w : World) (C : Array Value) (n c : Nat) => Lib.run_convert_bytes_const (P := Tryz.prog) w 26 5 C n c Tryz.underlying26 Tryz.underlying5
  obtain ⟨W2, hW2⟩ : ∃ W2, w1.alloc (.cells #[.int .u8 97, .int .u8 98] 5 (2, 3)) = W2 := ⟨_, rfl⟩
  have hB2 : Below w1.heap.size w1 W2 := by rw [← hW2]; exact below_alloc _ _
  have hs2 : W2.heap.size = w1.heap.size + 1 := by rw [← hW2]; simp
  have hn2 : W2.heap[w1.heap.size]? = some (.cells #[.int .u8 97, .int .u8 98] 5 (2, 3)) := by rw [← hW2]; show (w1.heap.push _)[w1.heap.size]? = _; exact Array.getElem?_push_size
  obtain ⟨W3, hW3⟩ : ∃ W3, W2.alloc (.cells #[.int .u8 5, .slice (some ⟨w1.heap.size, 0, none⟩) 2 2] 45) = W3 := ⟨_, rfl⟩
  have hB3 : Below W2.heap.size W2 W3 := by rw [← hW3]; exact below_alloc _ _
  have hn3 : W3.heap[W2.heap.size]? = some (.cells #[.int .u8 5, .slice (some ⟨w1.heap.size, 0, none⟩) 2 2] 45 (0, 0)) := by rw [← hW3]; exact heap_alloc_new _ _
  have hn23 := (hB3.block _ (block_lt hn2)).trans hn2
  have hPr : Prts W3 (some ⟨W2.heap.size, 0, none⟩) 1 (abP w1.heap.size) := .inr ⟨W2.heap.size, 0, rfl, fun i hi => by
    obtain rfl : i = 0 := by omega
    refine ⟨⟨cell_of_row _ _ 0 _ _ _ hn3, cell_of_row _ _ 1 _ _ _ hn3⟩, (by decide : (5 : Nat) < 256), (by decide : 2 ≤ 2), (by decide : 2 ≤ 9223372036854775807), (fun e => by cases e), .inr ⟨_, _, rfl⟩, BL.mk (by intro b hb; simp only [abP, List.mem_cons, List.not_mem_nil, or_false] at hb; omega) (.inr ⟨_, _, rfl, fun j hj => ?_⟩)⟩
    match j, hj with
    | 0, _ => exact cell_of_row _ _ 0 _ _ _ hn23
    | 1, _ => exact cell_of_row _ _ 1 _ _ _ hn23⟩
  have hp1 := fput_any (some ⟨W2.heap.size, 0, none⟩) 1 1 (abP w1.heap.size) W3 hPr (by omega) (by rw [pts_ab, size_ab]; omega)
  rw [pts_ab, size_ab, hL2] at hp1
  clear hL1 hL2
  have hB13 : Below w1.heap.size w1 W3 := hB2.trans (hB3.mono hB2.size)
  have HH := hide (And.intro hB1 (And.intro hB13 hc1))
  clear ho1 hc1 hB2 hB3 hn2 hn3 hn23 hPr hB13 hs2 hB1
  go_wp2_with fail
  refine hp1.mono ?_
  rintro e w4 ⟨v2, rfl, ho4, hB4⟩
  clear hp1 hW3 hW2 kc
  obtain ⟨hl4, A4, C4, rfl, hS4, _⟩ := SB.own ho4 hlt4
  have hg4 := fget_any A4 C4 12 _ w4 hl12.symm hS4 (by omega)
  rw [hgt] at hg4
  obtain ⟨A5, A5', s5, _, S5, _, _, _⟩ := hS4.cut 11 (by omega)
  rw [hl12] at s5 ⊢
  have H4 := hide (And.intro hB4 S5)
  clear ho4 hS4 hB4 S5 hlt4 hl4 hgt
  go_wp2_with fail
  refine hg4.mono ?_
  rintro e w5 ⟨v5, xs, rfl, hO5, hx5, hB5⟩
  have hg5 := fget_any A5 C4 11 (L2.take 11) w5 (by rw [List.length_take, hl12]; rfl) (H4.out.2.below hB5) (by omega)
  rw [hct] at hg5
  have s5' : ∀ wx, (Instr.slice 26 (.slice A4 12 C4) none (some (.int .i64 11)) none).run Tryz.prog wx = .ok (.slice A5 11 C4) wx := s5
  have H5 := hide (And.intro hO5 (And.intro hx5 hB5))
  clear hg4 s5 hO5 hx5 hB5
  go_wp2_with fail
  refine hg5.mono ?_
  rintro e w6 ⟨v6, xs6, rfl, _, _, hB6⟩
  rw [show errG (some [((5, [97, 98]) : PT)]) = 0 from rfl, show errG none = 9 from rfl]
  obtain ⟨hO5, hx5, hB5⟩ := H5.out
  obtain ⟨hB1, hB13, hc1⟩ := HH.out
  obtain ⟨hB4, _⟩ := H4.out
  have hB14 := hB13.trans (hB4.mono hB13.size)
  have hB15 := hB14.trans (hB5.mono hB14.size)
  have hB16 := hB15.trans (hB6.mono hB15.size)
  have hB : Below w.heap.size w w6 := hB1.trans (hB16.mono hB1.size)
  have d1 := cell_thru hc1 hB16
  obtain ⟨A7, C7, rfl, hP7, _, _⟩ := hO5.prts
  have hxl : xs.length = 1 := by have := congrArg List.length hx5; simpa using this
  have hpp := pts_prtAt xs
  rw [hx5, hxl] at hpp
  rw [hxl] at hP7
  obtain ⟨b7, o7, rfl, ⟨x0, x1⟩, ok7⟩ := (hP7.below hB6).cells 0 (by omega)
  have hp0 : pt (prtAt xs 0) = (5, [97, 98]) := by
    have : pts (prtAt xs) 1 = [pt (prtAt xs 0)] := by simp [pts, List.range_succ]
    rw [this] at hpp
    simpa using hpp
  have hT : (prtAt xs 0).T = 5 := congrArg Prod.fst hp0
  have hBB : (prtAt xs 0).B = [97, 98] := congrArg Prod.snd hp0
  have hbl := ok7.bB
  rw [hT] at x0
  rw [hBB] at hbl x1
  obtain ⟨b8, o8, e8, c8⟩ := hbl.cell (by decide)
  rw [e8] at x1
  have hcv : (convert 26 9 (.slice (some ⟨b8, o8, none⟩) 2 (prtAt xs 0).cB)).run Tryz.prog w6 = .ok (.string ⟨#[97, 98]⟩) w6 :=
    run_convert_bytes_back w6 _ _ 5 ⟨b8, o8, none⟩ (prtAt xs 0).cB [97, 98] Tryz.underlying26 Tryz.underlying5 Tryz.underlying9 (fun j hj => by
      rw [add_none' _ rfl]
      match j, hj with
      | 0, _ => exact c8 0 (by decide)
      | 1, _ => exact c8 1 (by decide))
  simp only [Nat.zero_mul, Nat.add_zero] at x0 x1
  have d1' : w6.cell? ⟨b1, 0, none⟩ = some (.int .u8 8) := d1
  have x0' : w6.cell? ⟨b7, o7, none⟩ = some (.int .u8 5) := x0
  have x1' : w6.cell? ⟨b7, o7 + 1, none⟩ = some (.slice (some ⟨b8, o8, none⟩) 2 (prtAt xs 0).cB) := x1
  rw [hxl]
  generalize (prtAt xs 0).cB = c9 at *
  clear hO5 hx5 hB5 hB1 hB13 hc1 hB4 hB14 hB15 hB16 d1 hP7 hpp hxl ok7 hp0 hT hBB hbl e8 c8 x0 x1 H5 HH H4 hg5 hB6
  go_wp2_with fail
  go_ret
  exact ⟨rfl, hB⟩
end Go.Proofs.YtlmjplpledilhaaGreat
