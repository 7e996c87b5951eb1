/-
  SetAlgebra's walk.
-/
import Derived.Test.YtmnjicpgdhnimaaDoorSAlgS
namespace Go.Proofs.YtmnjicpgdhnimaaDoor
open Go.RowKit Go.Shelf

attribute [local go_sem] Oper.semAt_some

set_option maxRecDepth 100000 in
set_option maxHeartbeats 4000000 in
theorem setAlgebra_any (A B C : Nat → Bool) (w : World) (hT : Tab w) :
    Calls Tryd.prog 6 #[sv A, sv B, sv C] w fun e w' => e = .returned (.bool true) ∧ Below w.heap.size w w' := by
  obtain ⟨W1, hW1⟩ : ∃ W1, ((w.alloc (.cells (st A) 24)).alloc (.cells (st B) 24)).alloc (.cells (st C) 24) = W1 := ⟨_, rfl⟩
  have hB1 : Below w.heap.size w W1 := by rw [← hW1]; exact ((((Below.refl _ _).alloc (Nat.le_refl _) _).alloc (by simp) _).alloc (by simp; omega) _)
  have h3 : SBox W1 w.heap.size A := by rw [← hW1]; exact ((SBox.new _ _ _ rfl).alloc _).alloc _
  have h4 : SBox W1 (w.heap.size + 1) B := by rw [← hW1]; exact (SBox.new _ _ _ (by simp)).alloc _
  have h5 : SBox W1 (w.heap.size + 1 + 1) C := by rw [← hW1]; exact SBox.new _ _ _ (by simp)
  have HW1 := hide hW1
  have H1 := hide (And.intro hB1 (And.intro h3 (And.intro h4 h5)))
  have HT := hide hT
  clear hB1 h3 h4 h5 hW1 hT
  unfold sv
  go_enter Tryd.func6, Tryd.ntmps6
  go_wp2_with fail
  rw [HW1.out]
  refine (awake_any W1 (HT.out.below H1.out.1)).mono ?_
  rintro e W2 ⟨rfl, hb2⟩
  have H2 := hide (And.intro (H1.out.1.trans (hb2.mono H1.out.1.size)) (And.intro (H1.out.2.1.below hb2 H1.out.2.1.lt) (And.intro (H1.out.2.2.1.below hb2 H1.out.2.2.1.lt) (H1.out.2.2.2.below hb2 H1.out.2.2.2.lt))))
  clear hb2
  go_wp2_with fail
  refine (wpIn_wide (n := 0)).1 (salg3 wide_plain w.heap.size (w.heap.size + 1) (w.heap.size + 1 + 1) A B C W2.heap.size _ _ _ _ rfl rfl rfl rfl H2.out.2.1 H2.out.2.2.1 H2.out.2.2.2 (HT.out.below H2.out.1) rfl ?_)
  intro vs W3 hb3 h19 h24 h26 h7 h8 h9 n78 n79 n89
  obtain ⟨g7, e7, s7, l7⟩ := h7
  obtain ⟨g8, e8, s8, l8⟩ := h8
  obtain ⟨g9, e9, s9, l9⟩ := h9
  rw [e7, e8] at n78
  rw [e7, e9] at n79
  rw [e8, e9] at n89
  have m78 : g7 ≠ g8 := fun e => n78 (by rw [e])
  have m79 : g7 ≠ g9 := fun e => n79 (by rw [e])
  have m89 : g8 ≠ g9 := fun e => n89 (by rw [e])
  simp only [List.foldl_cons, List.foldl_nil, List.setIfInBounds_toArray, List.set_cons_succ, List.set_cons_zero]
  rw [h19, h24, h26, e7, e8, e9]
  have H3 := hide (And.intro (H2.out.1.trans (hb3.mono H2.out.1.size)) (And.intro (H2.out.2.1.below hb3 H2.out.2.1.lt) (And.intro (H2.out.2.2.1.below hb3 H2.out.2.2.1.lt) (H2.out.2.2.2.below hb3 H2.out.2.2.2.lt))))
  have hn0 : w.heap.size + 1 + 1 < W2.heap.size := H2.out.2.2.2.lt
  clear h19 h24 h26 e7 e8 e9 n78 n79 n89 hb3
  refine op_store_row wide_plain (o := salg3_ops[15]) rfl rfl 24 (.tmp 7) (.tmp 19) rfl g7 (st (anyS (three A B C) 3)) rfl rfl 24 (st nobs) s7 (sizeSet _) rfl (st_one _) ?_
  have s7' := s7.row (anyS (three A B C) 3)
  have s8' := s8.row_other g7 (st (anyS (three A B C) 3)) (fun e => m78 e.symm)
  have s9' := s9.row_other g7 (st (anyS (three A B C) 3)) (fun e => m79 e.symm)
  refine op_store_row wide_plain (o := salg3_ops[16]) rfl rfl 24 (.tmp 8) (.tmp 24) rfl g8 (st (allS (three A B C) 3)) rfl rfl 24 (st nobs) s8' (sizeSet _) rfl (st_one _) ?_
  have s7'' := s7'.row_other g8 (st (allS (three A B C) 3)) m78
  have s8'' := s8'.row (allS (three A B C) 3)
  have s9'' := s9'.row_other g8 (st (allS (three A B C) 3)) (fun e => m89 e.symm)
  refine op_store_row wide_plain (o := salg3_ops[17]) rfl rfl 24 (.tmp 9) (.tmp 26) rfl g9 (st (fun b => !A b)) rfl rfl 24 (st nobs) s9'' (sizeSet _) rfl (st_one _) ?_
  have t7 := (s7''.row_other g9 (st (fun b => !A b)) m79).congr (UN A B C) (fun b _ => alg_un A B C b)
  have t8 := (s8''.row_other g9 (st (fun b => !A b)) m89).congr (ME A B C) (fun b _ => alg_me A B C b)
  have t9 := (s9''.row (fun b => !A b)).congr (NO A) (fun _ _ => rfl)
  have t3 := ((H3.out.2.1.row_other g7 (st (anyS (three A B C) 3)) (by omega)).row_other g8 (st (allS (three A B C) 3)) (by omega)).row_other g9 (st (fun b => !A b)) (by omega)
  have t4 := ((H3.out.2.2.1.row_other g7 (st (anyS (three A B C) 3)) (by omega)).row_other g8 (st (allS (three A B C) 3)) (by omega)).row_other g9 (st (fun b => !A b)) (by omega)
  have t5 := ((H3.out.2.2.2.row_other g7 (st (anyS (three A B C) 3)) (by omega)).row_other g8 (st (allS (three A B C) 3)) (by omega)).row_other g9 (st (fun b => !A b)) (by omega)
  have tB := below_row (below_row (below_row H3.out.1 (show w.heap.size ≤ g7 by omega) (st (anyS (three A B C) 3))) (show w.heap.size ≤ g8 by omega) (st (allS (three A B C) 3))) (show w.heap.size ≤ g9 by omega) (st (fun b => !A b))
  have H4 := hide (And.intro tB (And.intro t3 (And.intro t4 (And.intro t5 (And.intro t7 (And.intro t8 t9))))))
  have HN := hide (And.intro hn0 (And.intro l7 (And.intro l8 l9)))
  clear s7 s8 s9 s7' s8' s9' s7'' s8'' s9'' t3 t4 t5 t7 t8 t9 tB hn0 l7 l8 l9 m78 m79 m89
  revert H4
  generalize ((W3.setRow g7 (st (anyS (three A B C) 3))).setRow g8 (st (allS (three A B C) 3))).setRow g9 (st (fun b => !A b)) = W4
  intro H4
  simp only [salg3_ops]
  go_wp2_with fail
  go_loopg [10] 256 (fun q s10 wr => ∃ k : Nat, k + q = 256 ∧ s10 = .int .i64 k ∧ Below W4.heap.size W4 wr)
  case atStart => exact ⟨0, by omega, rfl, Below.refl _ _⟩
  case round =>
    obtain ⟨k, hkq, rfl, hbr⟩ := hrel
    have h3 := H4.out.2.1.below hbr H4.out.2.1.lt
    have h4 := H4.out.2.2.1.below hbr H4.out.2.2.1.lt
    have h5 := H4.out.2.2.2.1.below hbr H4.out.2.2.2.1.lt
    have h7 := H4.out.2.2.2.2.1.below hbr H4.out.2.2.2.2.1.lt
    have h8 := H4.out.2.2.2.2.2.1.below hbr H4.out.2.2.2.2.2.1.lt
    have h9 := H4.out.2.2.2.2.2.2.below hbr H4.out.2.2.2.2.2.2.lt
    have hT := HT.out.below (H4.out.1.trans (hbr.mono H4.out.1.size))
    have HR := hide (And.intro hbr (And.intro h3 (And.intro h4 (And.intro h5 (And.intro h7 (And.intro h8 (And.intro h9 hT)))))))
    clear hbr h3 h4 h5 h7 h8 h9 hT
    cases gk with
    | succ g =>
      have hk1 : (k : Int) < 256 := by omega
      have hk8 : (k : Int) % 256 = (k : Int) := by omega
      have hkl : k < 256 := by omega
      go_wp2_with fail
      refine (wpIn_wide (n := 0)).1 (salg8 wide_plain w.heap.size (w.heap.size + 1) (w.heap.size + 1 + 1) g7 g8 g9 A B C k (A k) (B k) (C k) _ _ _ _ rfl rfl rfl rfl rfl rfl rfl rfl HR.out.2.1 HR.out.2.2.1 HR.out.2.2.2.1 HR.out.2.2.2.2.1 HR.out.2.2.2.2.2.1 HR.out.2.2.2.2.2.2.1 HR.out.2.2.2.2.2.2.2 hkl rfl rfl rfl ?_)
      intro vs W5 hb5 h77
      simp only [List.foldl_cons, List.foldl_nil, List.setIfInBounds_toArray, List.set_cons_succ, List.set_cons_zero]
      rw [h77]
      have hfin : (neqB (A k || B k || C k) (A k || B k || C k) || neqB (A k && B k && C k) (A k && B k && C k) || beqB (!A k) (A k)) = false := by
        cases A k <;> cases B k <;> cases C k <;> rfl
      rw [hfin]
      have HB5 := hide (HR.out.1.trans (hb5.mono HR.out.1.size))
      clear h77 hfin hb5
      go_wp2_with fail
      go_roundg g
      case measure => omega
      case rel => exact ⟨k + 1, by omega, by go_num, HB5.out⟩
    | zero =>
      obtain rfl : k = 256 := by omega
      go_wp2_with fail
      refine (wpIn_wide (n := 0)).1 (salg10 wide_plain w.heap.size (w.heap.size + 1) (w.heap.size + 1 + 1) g7 g8 g9 A B C _ _ _ _ rfl rfl rfl rfl rfl rfl rfl HR.out.2.1 HR.out.2.2.1 HR.out.2.2.2.1 HR.out.2.2.2.2.1 HR.out.2.2.2.2.2.1 HR.out.2.2.2.2.2.2.1 HR.out.2.2.2.2.2.2.2 ?_)
      intro vs W5 hb5 h107
      simp only [List.foldl_cons, List.foldl_nil, List.setIfInBounds_toArray, List.set_cons_succ, List.set_cons_zero]
      rw [h107]
      have h3 := HR.out.2.1.below hb5 HR.out.2.1.lt
      have H5 := hide (And.intro (H4.out.1.trans ((HR.out.1.trans (hb5.mono HR.out.1.size)).mono H4.out.1.size)) (And.intro h3 (And.intro (HR.out.2.2.1.below hb5 HR.out.2.2.1.lt) (HR.out.2.2.2.2.2.2.1.below hb5 HR.out.2.2.2.2.2.2.1.lt))))
      have c0 := h3.cell 0 (by omega)
      have c1 := h3.cell 1 (by omega)
      have c2 := h3.cell 2 (by omega)
      have c3 := h3.cell 3 (by omega)
      clear h107 hb5 h3
      go_wp2_with fail
      refine (fold_any A W5 (HT.out.below H5.out.1)).mono ?_
      rintro e W6 ⟨rfl, hb6⟩
      have H6 := hide (And.intro (H5.out.1.trans (hb6.mono H5.out.1.size)) (And.intro (H5.out.2.1.below hb6 H5.out.2.1.lt) (And.intro (H5.out.2.2.1.below hb6 H5.out.2.2.1.lt) (H5.out.2.2.2.below hb6 H5.out.2.2.2.lt))))
      clear hb6 c0 c1 c2 c3
      simp only [sv, st, sc]
      go_wp2_with fail
      obtain ⟨W7, hW7⟩ : ∃ W7, W6.alloc (.cells (st (fold A)) 24) = W7 := ⟨_, rfl⟩
      have hb7 : Below W6.heap.size W6 W7 := by rw [← hW7]; exact below_alloc _ _
      have h12 : SBox W7 W6.heap.size (fold A) := by rw [← hW7]; exact SBox.new _ _ _ rfl
      have H7 := hide (And.intro (H6.out.1.trans (hb7.mono H6.out.1.size)) (And.intro (H6.out.2.1.below hb7 H6.out.2.1.lt) (And.intro (H6.out.2.2.1.below hb7 H6.out.2.2.1.lt) (And.intro (H6.out.2.2.2.below hb7 H6.out.2.2.2.lt) h12))))
      simp only [st, sc] at hW7
      rw [hW7]
      clear hb7 h12 hW7
      refine (wpIn_wide (n := 0)).1 (salg13 wide_plain w.heap.size (w.heap.size + 1) g9 W6.heap.size A B _ _ _ _ rfl rfl rfl rfl rfl H7.out.2.1 H7.out.2.2.1 H7.out.2.2.2.1 H7.out.2.2.2.2 (HT.out.below H7.out.1) ?_)
      intro vs W8 hb8 h142
      simp only [List.foldl_cons, List.foldl_nil, List.setIfInBounds_toArray, List.set_cons_succ, List.set_cons_zero]
      rw [h142]
      have H8 := hide (H7.out.1.trans (hb8.mono H7.out.1.size))
      clear h142 hb8
      go_wp2_with fail
      go_ret
      exact ⟨rfl, H8.out⟩
end Go.Proofs.YtmnjicpgdhnimaaDoor
