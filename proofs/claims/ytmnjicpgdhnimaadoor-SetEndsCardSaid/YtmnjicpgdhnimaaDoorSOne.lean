/-
  mudlarklaw08.one; awake.
-/
import Derived.Test.YtmnjicpgdhnimaaDoorSOneR
namespace Go.Proofs.YtmnjicpgdhnimaaDoor
open Go.RowKit Go.Shelf

set_option maxRecDepth 100000 in
set_option maxHeartbeats 2000000 in
theorem one_any (H : Nat → Bool) (b : Nat) (w : World) (hb8 : b < 256) (hT : Tab w) :
    Calls Tryd.prog 9 #[sv H, .int .u8 b] w fun e w' => e = .returned (.bool true) ∧ Below w.heap.size w w' := by
  have hbox := hide (SBox.new w w.heap.size H rfl)
  have hT1 := hide (hT.below (below_alloc w (.cells (st H) 24)))
  have hB1 := hide (below_alloc w (.cells (st H) 24))
  unfold sv
  go_enter Tryd.func9, Tryd.ntmps9
  go_wp2_with fail
  refine (wpIn_wide (n := 0)).1 (soneR wide_plain b w.heap.size H _ _ _ _ rfl rfl rfl hbox.out hT1.out hb8 ?_)
  intro vs w1 hb1 h4
  simp only [List.foldl_cons, List.foldl_nil, List.setIfInBounds_toArray, List.set_cons_succ, List.set_cons_zero]
  rw [h4]
  have HB := hide (hB1.out.trans (hb1.mono hB1.out.size))
  clear h4 hb1
  go_wp2_with fail
  go_ret
  exact ⟨rfl, HB.out⟩
/-- One slice of ranges and its cells at known numbers. -/
theorem awakeRows (H : Nat → Bool) (hH : ∀ b, b < 256 → H b = (decide (97 ≤ b) && decide (b ≤ 99) || decide (65 ≤ b) && decide (b ≤ 67))) : rl (bl H 256) = [(65, 67), (97, 99)] := by
  have e : bl H 256 = bl (fun b => decide (97 ≤ b) && decide (b ≤ 99) || decide (65 ≤ b) && decide (b ≤ 67)) 256 := by
    have key : ∀ k, k ≤ 256 → bl H k = bl (fun b => decide (97 ≤ b) && decide (b ≤ 99) || decide (65 ≤ b) && decide (b ≤ 67)) k := by
      intro k
      induction k with
      | zero => intro _; rfl
      | succ k ih =>
        intro hk
        unfold bl
        rw [ih (by omega), hH k (by omega)]
    exact key 256 (by omega)
  rw [e]
  decide +kernel
theorem bl_full (H : Nat → Bool) (hH : ∀ b, b < 256 → H b = true) : (bl H 256).length = 256 := by
  have key : ∀ k, k ≤ 256 → (bl H k).length = k := by
    intro k
    induction k with
    | zero => intro _; rfl
    | succ k ih =>
      intro hk
      rw [bl_yes (hH k (by omega)), List.length_append, ih (by omega)]
      rfl
  exact key 256 (by omega)

set_option maxRecDepth 100000 in
set_option maxHeartbeats 2000000 in
theorem awake_any (w : World) (hT : Tab w) :
    Calls Tryd.prog 11 #[] w fun e w' => e = .returned (.bool true) ∧ Below w.heap.size w w' := by
  have he := fun W => eqPair_same 65 67 W
  have he2 := fun W => eqPair_same 97 99 W
  go_enter Tryd.func11, Tryd.ntmps11
  go_wp2_with fail
  refine (range_any 97 99 w (by omega) (by omega)).mono ?_
  rintro e w1 ⟨rfl, hb1⟩
  go_wp2_with fail
  refine (fold_any (rng 97 99) w1 (hT.below hb1)).mono ?_
  rintro e w2 ⟨rfl, hb2⟩
  have hb02 := hb1.trans (hb2.mono hb1.size)
  go_wp2_with fail
  refine (ranges_any (fold (rng 97 99)) w2 (hT.below hb02)).mono ?_
  rintro e w3 ⟨v, rfl, ho, hb3⟩
  have hb03 := hide (hb02.trans (hb3.mono hb02.size))
  have hr := awakeRows (fold (rng 97 99)) (fun b hb => by
    unfold fold foB rng
    by_cases h1 : 97 ≤ b
    · have h5 : ¬ b + 32 < 123 := by omega
      have h2 : 65 ≤ b := by omega
      by_cases h3 : b ≤ 99
      · simp [h1, h2, h3]
      · have h6 : ¬ b < 123 ∨ ¬ 97 ≤ b - 32 := by omega
        have h7 : ¬ b ≤ 67 := by omega
        rcases h6 with h6 | h6 <;> simp [h1, h2, h3, h5, h6, h7]
    · by_cases h2 : 65 ≤ b
      · have h4 : 97 ≤ b + 32 := by omega
        by_cases h3 : b ≤ 67
        · have h5 : b + 32 ≤ 99 := by omega
          have h6 : b + 32 < 123 := by omega
          simp [h1, h2, h3, h4, h5, h6]
        · have h5 : ¬ b + 32 ≤ 99 := by omega
          simp [h1, h2, h3, h4, h5]
      · simp [h1, h2])
  rw [hr] at ho
  obtain ⟨A, C, rfl⟩ := owns_slice ho
  obtain ⟨g, rfl, hC, hc⟩ := owns_pair ho rfl (by decide)
  obtain ⟨c0, c1⟩ := hc 0 (by decide)
  obtain ⟨c2, c3⟩ := hc 1 (by decide)
  clear hb1 hb2 hb3 hb02 hc ho hr
  simp only [List.length_cons, List.length_nil, List.getD_cons_zero, List.getD_cons_succ, Nat.zero_mul, Nat.one_mul, Nat.zero_add] at c0 c1 c2 c3 hC
  simp only [List.length_cons, List.length_nil]
  go_wp2_with fail
  refine (of_any none 0 0 (fun _ => 0) _ (by omega) ⟨fun _ => by show 0 < 256; omega, .inl rfl⟩).mono ?_
  rintro e w4 ⟨rfl, hb4⟩
  go_wp2_with fail
  refine (not_any _ w4).mono ?_
  rintro e w5 ⟨rfl, hb5⟩
  go_wp2_with fail
  refine (count_any _ w5).mono ?_
  rintro e w6 ⟨rfl, hb6⟩
  rw [bl_full _ (fun b _ => by simp [inz])]
  have HB := hide (hb03.out.trans ((hb4.trans ((hb5.trans (hb6.mono hb5.size)).mono hb4.size)).mono hb03.out.size))
  clear hb4 hb5 hb6
  go_wp2_with fail
  go_ret
  exact ⟨rfl, HB.out⟩
end Go.Proofs.YtmnjicpgdhnimaaDoor
