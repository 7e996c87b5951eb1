/-
  SetTells's walk.
-/
import Derived.Test.YtmnjicpgdhnimaaDoorSTellsR
namespace Go.Proofs.YtmnjicpgdhnimaaDoor
open Go.RowKit Go.Shelf

/-- Two rows of bytes in a row of rows. -/
theorem apartTwo {A1 A2 : Option Addr} {C1 C2 s1 s2 : Nat} {X1 X2 : List Value} {w : World} (g : Nat) (hb : w.heap[g]? = some (.cells #[.slice A1 s1 C1, .slice A2 s2 C2] 25 (0, 0))) (h1 : s1 ≤ 1000000) (h2 : s2 ≤ 1000000)
    (ho1 : w.ownsRow 0 5 1 (.slice A1 s1 C1) s1 X1) (ho2 : w.ownsRow 0 5 1 (.slice A2 s2 C2) s2 X2) (hlt : ∀ g, (Value.slice A1 s1 C1).ownBlock = some g → (Value.slice A2 s2 C2).ownBlock = some g → False) :
    Calls Tryd.prog 10 #[.slice (some ⟨g, 0, none⟩) 2 2] w fun e w' => e = .returned (.bool true) ∧ Kept (fun k => (Value.slice A1 s1 C1).ownBlock = some k ∨ (Value.slice A2 s2 C2).ownBlock = some k) w w' := by
  refine (apartBytes_any g 0 2 2 (fun r => if r = 0 then A1 else A2) (fun r => if r = 0 then s1 else s2) (fun r => if r = 0 then C1 else C2) (fun r => if r = 0 then X1 else X2) w (by omega) (by omega) (fun r hr => by
    rcases (show r = 0 ∨ r = 1 by omega) with rfl | rfl
    · show s1 ≤ _; omega
    · show s2 ≤ _; omega)
    (fun r s k hr hs h1 h2 => by
      rcases (show r = 0 ∨ r = 1 by omega) with rfl | rfl <;> rcases (show s = 0 ∨ s = 1 by omega) with rfl | rfl
      · rfl
      · exact (hlt k h1 h2).elim
      · exact (hlt k h2 h1).elim
      · rfl)
    (fun r hr => by
      rw [Nat.zero_add, cell_of_row _ _ _ _ _ _ hb]
      rcases (show r = 0 ∨ r = 1 by omega) with rfl | rfl <;> rfl)
    (fun r hr => by
      rcases (show r = 0 ∨ r = 1 by omega) with rfl | rfl
      · exact ho1
      · exact ho2)).mono ?_
  rintro e w' ⟨he, hst⟩
  refine ⟨he, hst.1.mono (fun k _ hk => ?_)⟩
  obtain ⟨r, hr, h⟩ := hk
  rcases (show r = 0 ∨ r = 1 by omega) with rfl | rfl
  · exact .inl h
  · exact .inr h

set_option maxRecDepth 100000 in
set_option maxHeartbeats 4000000 in
theorem setTells_any (H : Nat → Bool) (b : Nat) (w : World) (hb8 : b < 256) (hT : Tab w) :
    Calls Tryd.prog 3 #[sv H, .int .u8 b] w fun e w' => e = .returned (.bool true) ∧ Below w.heap.size w w' := by
  obtain ⟨W1, hW1⟩ : ∃ W1, w.alloc (.cells (st H) 24) = W1 := ⟨_, rfl⟩
  have hB1 : Below w.heap.size w W1 := by rw [← hW1]; exact below_alloc _ _
  have hS1 : SBox W1 w.heap.size H := by rw [← hW1]; exact SBox.new _ _ _ rfl
  have HW1 := hide hW1
  have H1 := hide (And.intro hB1 hS1)
  have HT := hide hT
  clear hB1 hS1 hW1 hT
  unfold sv
  go_enter Tryd.func3, Tryd.ntmps3
  go_wp2_with fail
  rw [HW1.out]
  refine (wpIn_wide (n := 0)).1 (stellsR wide_plain w.heap.size W1.heap.size H _ _ _ _ rfl rfl H1.out.2 (HT.out.below H1.out.1) rfl ?_)
  intro vs W2 hb2 h8 h10 hap
  simp only [List.foldl_cons, List.foldl_nil, List.setIfInBounds_toArray, List.set_cons_succ, List.set_cons_zero]
  obtain ⟨A8, C8, e8, o8⟩ := h8
  obtain ⟨A10, C10, e10, o10⟩ := h10
  rw [e8, e10] at hap
  rw [e8, e10]
  have HH := hide (And.intro o8 (And.intro o10 hap))
  clear o8 o10 hap e8 e10
  have H2 := hide (And.intro (H1.out.1.trans (hb2.mono H1.out.1.size)) (H1.out.2.below hb2 H1.out.2.lt))
  clear hb2
  have hlen : (bl H 256).length ≤ 256 := bl_length_le H 256
  obtain ⟨n, hn⟩ : ∃ n, (bl H 256).length = n := ⟨_, rfl⟩
  rw [hn] at HH hlen ⊢
  obtain ⟨L, hL⟩ : ∃ L, lc (bl H 256) = L := ⟨_, rfl⟩
  rw [hL] at HH
  clear hL hn
  have c0 := H2.out.2.cell 0 (by omega)
  have c1 := H2.out.2.cell 1 (by omega)
  have c2 := H2.out.2.cell 2 (by omega)
  have c3 := H2.out.2.cell 3 (by omega)
  refine wpOpIn_plain (o := stellsR_ops[4]) rfl rfl (oper_inK (fun _ => trivial) (fun K hK => ?_))
  rw [Oper.semAt_plain Fence.wide _ _ (by intro c h; cases h)]
  simp only [stellsR_ops, stellsR_o4]
  go_simp
  refine hK _ _ ?_
  clear hK K
  refine wpOpIn_plain (o := stellsR_ops[5]) rfl rfl (oper_inK (fun _ => trivial) (fun K hK => ?_))
  rw [Oper.semAt_plain Fence.wide _ _ (by intro c h; cases h)]
  simp only [stellsR_ops, stellsR_o5]
  go_simp
  refine hK _ _ ?_
  clear hK K
  go_wp2_with fail
  refine (one_any H b W2 hb8 (HT.out.below H2.out.1)).mono ?_
  rintro e W3 ⟨rfl, hb3⟩
  have H3 := hide (And.intro (H2.out.1.trans (hb3.mono H2.out.1.size)) (And.intro (owns_thruS HH.out.1 hb3) (owns_thruS HH.out.2.1 hb3)))
  clear hb3 c0 c1 c2 c3
  go_wp2_with fail
  have hbA := below_alloc W3 (.cells #[.slice A8 n C8, .slice A10 n C10] 25)
  refine (apartTwo W3.heap.size (heap_alloc_new _ _) (by omega) (by omega) (owns_thruS (owns_lower H3.out.2.1 (Nat.zero_le _)) hbA) (owns_thruS (owns_lower H3.out.2.2 (Nat.zero_le _)) hbA) HH.out.2.2).mono ?_
  rintro e W5 ⟨rfl, hk⟩
  have h1s := H1.out.1.size
  have H5 := hide ((H3.out.1.trans (hbA.mono H3.out.1.size)).trans (hk.below (fun k hk => by rcases hk with hk | hk; exact Nat.le_trans h1s (owns_cells H3.out.2.1 k hk).2.1; exact Nat.le_trans h1s (owns_cells H3.out.2.2 k hk).2.1) (Nat.le_trans H3.out.1.size hbA.size)))
  clear hk hbA
  go_wp2_with fail
  refine (awake_any W5 (HT.out.below H5.out)).mono ?_
  rintro e W6 ⟨rfl, hb6⟩
  have H6 := hide (H5.out.trans (hb6.mono H5.out.size))
  clear hb6
  go_wp2_with fail
  go_ret
  exact ⟨rfl, H6.out⟩
end Go.Proofs.YtmnjicpgdhnimaaDoor
