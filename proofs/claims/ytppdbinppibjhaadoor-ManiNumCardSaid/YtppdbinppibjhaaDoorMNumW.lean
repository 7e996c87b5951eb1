/-
  mudlarklaw25.ManiNum.
-/
import Derived.Test.YtppdbinppibjhaaDoorMAwake
namespace Go.Proofs.YtppdbinppibjhaaDoor
open Go.RowKit Go.Shelf
set_option linter.unusedVariables false
set_option linter.unusedSimpArgs false

theorem numN_now : numN [109] = none := by decide +kernel
theorem numN_next : numN [109, 46, 110, 101, 119] = none := by decide +kernel
theorem nameN_out {n : Int} (h : ¬ (1 ≤ n ∧ n ≤ maxName)) : nameN n = [] := if_neg h
theorem nameN_other {a b : Int} (h0 : 1 ≤ a) (h1 : a ≤ maxName) (h : a ≠ b) : (nameN b == nameN a) = false := by
  rw [beq_eq_false_iff_ne]
  exact fun e => h (nameN_inj h0 h1 e).symm

set_option maxRecDepth 100000 in
set_option maxHeartbeats 4000000 in
theorem num25_any (num other : Int) (N : List UInt8) (w : World) (hN : N.length ≤ 140737488351232) (hw : StdW w) :
    Calls Tryd.prog 3 #[.int .i64 num, .int .i64 other, sV N] w fun e w' => e = .returned (.bool true) ∧ Below w.heap.size w w' := by
  have haw := awake25_any w
  have HW := hide hw
  have HN := hide hN
  clear hw hN
  unfold sV
  go_enter Tryd.func3, Tryd.ntmps3
  go_wp2_with fail
  refine haw.mono ?_
  rintro e w1 ⟨rfl, hB1⟩
  have hnm := mname_any num w1 (.inr (HW.out.below hB1))
  have H1 := hide hB1
  clear haw hB1
  unfold sV at hnm
  go_wp2_with fail
  refine hnm.mono ?_
  rintro e w2 ⟨rfl, hB2⟩
  have hl := nameN_len num
  have hnu := mnum_any (nameN num) w2 (by omega) (.inr (HW.out.below (below_thru H1.out hB2)))
  have H2 := hide (below_thru H1.out hB2)
  rw [numN_nameN] at hnu
  have hlz : ((⟨(nameN num).toArray⟩ : ByteArray).size : Int) ≤ 15 := by simp [ByteArray.size]; omega
  clear hnm hB2 H1
  unfold sV at hnu
  by_cases hr : 1 ≤ num ∧ num ≤ maxName
  · rw [if_pos hr] at hnu
    have hro : ∀ W, Below w.heap.size w W → num ≠ other → Calls Tryd.prog 5 #[.int .i64 other] W fun e w' => e = .returned (.string ⟨(nameN other).toArray⟩) ∧ Below W.heap.size W w' := fun W hW _ => mname_any other W (.inr (HW.out.below hW))
    have hne := nameN_other (b := other) hr.1 hr.2
    obtain ⟨r0, r1⟩ := hr
    unfold maxName at r1
    go_wp2_with fail
    refine hnu.mono ?_
    rintro e w3 ⟨rfl, hB3⟩
    simp only [Option.getD_some, Option.isSome_some]
    have H3 := hide (below_thru H2.out hB3)
    clear hnu hB3 H2
    by_cases hno : num = other
    · subst hno
      clear hro hne
      have hnn := mnum_any N w3 HN.out (.inr (HW.out.below H3.out))
      have hq : numN N = none ∨ ∃ v, numN N = some v := by
        cases numN N with
        | none => exact .inl rfl
        | some v => exact .inr ⟨v, rfl⟩
      unfold sV at hnn
      rcases hq with hq | ⟨v, hq⟩
      · rw [hq] at hnn
        have HQ := hide hq
        clear hq
        go_wp2_with fail
        refine hnn.mono ?_
        rintro e w4 ⟨rfl, hB4⟩
        simp only [Option.getD_none, Option.isSome_none]
        have H4 := hide (below_thru H3.out hB4)
        have hnw := now_any w4
        clear hnn hB4
        go_wp2_with fail
        refine hnw.mono ?_
        rintro e w5 ⟨rfl, rfl⟩
        have hn5 := mnum_any [109] w5 (by decide) (.inr (HW.out.below H4.out))
        rw [numN_now] at hn5
        unfold sV at hn5
        clear hnw
        go_wp2_with fail
        refine hn5.mono ?_
        rintro e w6 ⟨rfl, hB6⟩
        simp only [Option.getD_none, Option.isSome_none]
        have H6 := hide (below_thru H4.out hB6)
        have hnx := next_any w6
        clear hn5 hB6
        go_wp2_with fail
        refine hnx.mono ?_
        rintro e w7 ⟨rfl, rfl⟩
        have hn7 := mnum_any [109, 46, 110, 101, 119] w7 (by decide) (.inr (HW.out.below H6.out))
        rw [numN_next] at hn7
        unfold sV at hn7
        clear hnx
        go_wp2_with fail
        refine hn7.mono ?_
        rintro e w8 ⟨rfl, hB8⟩
        simp only [Option.getD_none, Option.isSome_none]
        have H8 := hide (below_thru H6.out hB8)
        clear hn7 hB8
        have hnw := now_any w8
        go_wp2_with fail
        refine hnw.mono ?_
        rintro e w10 ⟨rfl, rfl⟩
        have hnx := next_any w10
        clear hnw
        go_wp2_with fail
        refine hnx.mono ?_
        rintro e w11 ⟨rfl, rfl⟩
        clear hnx
        go_wp2_with fail
        go_ret
        exact ⟨rfl, H8.out⟩
      · rw [hq] at hnn
        have hvn : nameN v = N := (numN_some hq).2.2.symm
        have HQ := hide hq
        clear hq
        have HVN := hide hvn
        clear hvn
        go_wp2_with fail
        refine hnn.mono ?_
        rintro e w4 ⟨rfl, hB4⟩
        simp only [Option.getD_some, Option.isSome_some]
        have H4 := hide (below_thru H3.out hB4)
        have hnw := now_any w4
        clear hnn hB4
        go_wp2_with fail
        refine hnw.mono ?_
        rintro e w5 ⟨rfl, rfl⟩
        have hn5 := mnum_any [109] w5 (by decide) (.inr (HW.out.below H4.out))
        rw [numN_now] at hn5
        unfold sV at hn5
        clear hnw
        go_wp2_with fail
        refine hn5.mono ?_
        rintro e w6 ⟨rfl, hB6⟩
        simp only [Option.getD_none, Option.isSome_none]
        have H6 := hide (below_thru H4.out hB6)
        have hnx := next_any w6
        clear hn5 hB6
        go_wp2_with fail
        refine hnx.mono ?_
        rintro e w7 ⟨rfl, rfl⟩
        have hn7 := mnum_any [109, 46, 110, 101, 119] w7 (by decide) (.inr (HW.out.below H6.out))
        rw [numN_next] at hn7
        unfold sV at hn7
        clear hnx
        go_wp2_with fail
        refine hn7.mono ?_
        rintro e w8 ⟨rfl, hB8⟩
        simp only [Option.getD_none, Option.isSome_none]
        have H8 := hide (below_thru H6.out hB8)
        clear hn7 hB8
        have hnv := mname_any v w8 (.inr (HW.out.below H8.out))
        rw [HVN.out] at hnv
        unfold sV at hnv
        go_wp2_with fail
        refine hnv.mono ?_
        rintro e w9 ⟨rfl, hB9⟩
        have H9 := hide (below_thru H8.out hB9)
        clear hnv hB9
        have hnw := now_any w9
        go_wp2_with fail
        refine hnw.mono ?_
        rintro e w10 ⟨rfl, rfl⟩
        have hnx := next_any w10
        clear hnw
        go_wp2_with fail
        refine hnx.mono ?_
        rintro e w11 ⟨rfl, rfl⟩
        clear hnx
        go_wp2_with fail
        go_ret
        exact ⟨rfl, H9.out⟩
    · have hne' := hne hno
      have hro3 := hro w3 H3.out hno
      have HNE := hide hne'
      clear hro hne hne'
      go_wp2_with fail
      refine hro3.mono ?_
      rintro e w3p ⟨rfl, hB3⟩
      have hne' := HNE.out
      have H3p := hide (below_thru H3.out hB3)
      clear hro3 hB3 H3
      have hnn := mnum_any N w3p HN.out (.inr (HW.out.below H3p.out))
      have hq : numN N = none ∨ ∃ v, numN N = some v := by
        cases numN N with
        | none => exact .inl rfl
        | some v => exact .inr ⟨v, rfl⟩
      unfold sV at hnn
      rcases hq with hq | ⟨v, hq⟩
      · rw [hq] at hnn
        have HQ := hide hq
        clear hq
        go_wp2_with fail
        refine hnn.mono ?_
        rintro e w4 ⟨rfl, hB4⟩
        simp only [Option.getD_none, Option.isSome_none]
        have H4 := hide (below_thru H3p.out hB4)
        have hnw := now_any w4
        clear hnn hB4
        go_wp2_with fail
        refine hnw.mono ?_
        rintro e w5 ⟨rfl, rfl⟩
        have hn5 := mnum_any [109] w5 (by decide) (.inr (HW.out.below H4.out))
        rw [numN_now] at hn5
        unfold sV at hn5
        clear hnw
        go_wp2_with fail
        refine hn5.mono ?_
        rintro e w6 ⟨rfl, hB6⟩
        simp only [Option.getD_none, Option.isSome_none]
        have H6 := hide (below_thru H4.out hB6)
        have hnx := next_any w6
        clear hn5 hB6
        go_wp2_with fail
        refine hnx.mono ?_
        rintro e w7 ⟨rfl, rfl⟩
        have hn7 := mnum_any [109, 46, 110, 101, 119] w7 (by decide) (.inr (HW.out.below H6.out))
        rw [numN_next] at hn7
        unfold sV at hn7
        clear hnx
        go_wp2_with fail
        refine hn7.mono ?_
        rintro e w8 ⟨rfl, hB8⟩
        simp only [Option.getD_none, Option.isSome_none]
        have H8 := hide (below_thru H6.out hB8)
        clear hn7 hB8
        have hnw := now_any w8
        go_wp2_with fail
        refine hnw.mono ?_
        rintro e w10 ⟨rfl, rfl⟩
        have hnx := next_any w10
        clear hnw
        go_wp2_with fail
        refine hnx.mono ?_
        rintro e w11 ⟨rfl, rfl⟩
        clear hnx
        go_wp2_with fail
        go_ret
        exact ⟨rfl, H8.out⟩
      · rw [hq] at hnn
        have hvn : nameN v = N := (numN_some hq).2.2.symm
        have HQ := hide hq
        clear hq
        have HVN := hide hvn
        clear hvn
        go_wp2_with fail
        refine hnn.mono ?_
        rintro e w4 ⟨rfl, hB4⟩
        simp only [Option.getD_some, Option.isSome_some]
        have H4 := hide (below_thru H3p.out hB4)
        have hnw := now_any w4
        clear hnn hB4
        go_wp2_with fail
        refine hnw.mono ?_
        rintro e w5 ⟨rfl, rfl⟩
        have hn5 := mnum_any [109] w5 (by decide) (.inr (HW.out.below H4.out))
        rw [numN_now] at hn5
        unfold sV at hn5
        clear hnw
        go_wp2_with fail
        refine hn5.mono ?_
        rintro e w6 ⟨rfl, hB6⟩
        simp only [Option.getD_none, Option.isSome_none]
        have H6 := hide (below_thru H4.out hB6)
        have hnx := next_any w6
        clear hn5 hB6
        go_wp2_with fail
        refine hnx.mono ?_
        rintro e w7 ⟨rfl, rfl⟩
        have hn7 := mnum_any [109, 46, 110, 101, 119] w7 (by decide) (.inr (HW.out.below H6.out))
        rw [numN_next] at hn7
        unfold sV at hn7
        clear hnx
        go_wp2_with fail
        refine hn7.mono ?_
        rintro e w8 ⟨rfl, hB8⟩
        simp only [Option.getD_none, Option.isSome_none]
        have H8 := hide (below_thru H6.out hB8)
        clear hn7 hB8
        have hnv := mname_any v w8 (.inr (HW.out.below H8.out))
        rw [HVN.out] at hnv
        unfold sV at hnv
        go_wp2_with fail
        refine hnv.mono ?_
        rintro e w9 ⟨rfl, hB9⟩
        have H9 := hide (below_thru H8.out hB9)
        clear hnv hB9
        have hnw := now_any w9
        go_wp2_with fail
        refine hnw.mono ?_
        rintro e w10 ⟨rfl, rfl⟩
        have hnx := next_any w10
        clear hnw
        go_wp2_with fail
        refine hnx.mono ?_
        rintro e w11 ⟨rfl, rfl⟩
        clear hnx
        go_wp2_with fail
        go_ret
        exact ⟨rfl, H9.out⟩
  · rw [if_neg hr] at hnu
    have hne : nameN num = [] := nameN_out hr
    rw [hne] at hnu ⊢
    have HR := hide hr
    have hcases : num < 1 ∨ (1 ≤ num ∧ 1099511627776 < num) := by unfold maxName at hr; omega
    clear hl hlz hne hr
    rcases hcases with h0 | ⟨h0, h1⟩
    · go_wp2_with fail
      refine hnu.mono ?_
      rintro e w3 ⟨rfl, hB3⟩
      simp only [Option.getD_none, Option.isSome_none]
      have H3 := hide (below_thru H2.out hB3)
      clear hnu hB3 H2
      by_cases hno : num = other
      · subst hno
        have hnn := mnum_any N w3 HN.out (.inr (HW.out.below H3.out))
        have hq : numN N = none ∨ ∃ v, numN N = some v := by
          cases numN N with
          | none => exact .inl rfl
          | some v => exact .inr ⟨v, rfl⟩
        unfold sV at hnn
        rcases hq with hq | ⟨v, hq⟩
        · rw [hq] at hnn
          have HQ := hide hq
          clear hq
          go_wp2_with fail
          refine hnn.mono ?_
          rintro e w4 ⟨rfl, hB4⟩
          simp only [Option.getD_none, Option.isSome_none]
          have H4 := hide (below_thru H3.out hB4)
          have hnw := now_any w4
          clear hnn hB4
          go_wp2_with fail
          refine hnw.mono ?_
          rintro e w5 ⟨rfl, rfl⟩
          have hn5 := mnum_any [109] w5 (by decide) (.inr (HW.out.below H4.out))
          rw [numN_now] at hn5
          unfold sV at hn5
          clear hnw
          go_wp2_with fail
          refine hn5.mono ?_
          rintro e w6 ⟨rfl, hB6⟩
          simp only [Option.getD_none, Option.isSome_none]
          have H6 := hide (below_thru H4.out hB6)
          have hnx := next_any w6
          clear hn5 hB6
          go_wp2_with fail
          refine hnx.mono ?_
          rintro e w7 ⟨rfl, rfl⟩
          have hn7 := mnum_any [109, 46, 110, 101, 119] w7 (by decide) (.inr (HW.out.below H6.out))
          rw [numN_next] at hn7
          unfold sV at hn7
          clear hnx
          go_wp2_with fail
          refine hn7.mono ?_
          rintro e w8 ⟨rfl, hB8⟩
          simp only [Option.getD_none, Option.isSome_none]
          have H8 := hide (below_thru H6.out hB8)
          clear hn7 hB8
          have hnw := now_any w8
          go_wp2_with fail
          refine hnw.mono ?_
          rintro e w10 ⟨rfl, rfl⟩
          have hnx := next_any w10
          clear hnw
          go_wp2_with fail
          refine hnx.mono ?_
          rintro e w11 ⟨rfl, rfl⟩
          clear hnx
          go_wp2_with fail
          go_ret
          exact ⟨rfl, H8.out⟩
        · rw [hq] at hnn
          have hvn : nameN v = N := (numN_some hq).2.2.symm
          have HQ := hide hq
          clear hq
          have HVN := hide hvn
          clear hvn
          go_wp2_with fail
          refine hnn.mono ?_
          rintro e w4 ⟨rfl, hB4⟩
          simp only [Option.getD_some, Option.isSome_some]
          have H4 := hide (below_thru H3.out hB4)
          have hnw := now_any w4
          clear hnn hB4
          go_wp2_with fail
          refine hnw.mono ?_
          rintro e w5 ⟨rfl, rfl⟩
          have hn5 := mnum_any [109] w5 (by decide) (.inr (HW.out.below H4.out))
          rw [numN_now] at hn5
          unfold sV at hn5
          clear hnw
          go_wp2_with fail
          refine hn5.mono ?_
          rintro e w6 ⟨rfl, hB6⟩
          simp only [Option.getD_none, Option.isSome_none]
          have H6 := hide (below_thru H4.out hB6)
          have hnx := next_any w6
          clear hn5 hB6
          go_wp2_with fail
          refine hnx.mono ?_
          rintro e w7 ⟨rfl, rfl⟩
          have hn7 := mnum_any [109, 46, 110, 101, 119] w7 (by decide) (.inr (HW.out.below H6.out))
          rw [numN_next] at hn7
          unfold sV at hn7
          clear hnx
          go_wp2_with fail
          refine hn7.mono ?_
          rintro e w8 ⟨rfl, hB8⟩
          simp only [Option.getD_none, Option.isSome_none]
          have H8 := hide (below_thru H6.out hB8)
          clear hn7 hB8
          have hnv := mname_any v w8 (.inr (HW.out.below H8.out))
          rw [HVN.out] at hnv
          unfold sV at hnv
          go_wp2_with fail
          refine hnv.mono ?_
          rintro e w9 ⟨rfl, hB9⟩
          have H9 := hide (below_thru H8.out hB9)
          clear hnv hB9
          have hnw := now_any w9
          go_wp2_with fail
          refine hnw.mono ?_
          rintro e w10 ⟨rfl, rfl⟩
          have hnx := next_any w10
          clear hnw
          go_wp2_with fail
          refine hnx.mono ?_
          rintro e w11 ⟨rfl, rfl⟩
          clear hnx
          go_wp2_with fail
          go_ret
          exact ⟨rfl, H9.out⟩
      · have HNO := hide hno
        have hnn := mnum_any N w3 HN.out (.inr (HW.out.below H3.out))
        have hq : numN N = none ∨ ∃ v, numN N = some v := by
          cases numN N with
          | none => exact .inl rfl
          | some v => exact .inr ⟨v, rfl⟩
        unfold sV at hnn
        rcases hq with hq | ⟨v, hq⟩
        · rw [hq] at hnn
          have HQ := hide hq
          clear hq
          go_wp2_with fail
          refine hnn.mono ?_
          rintro e w4 ⟨rfl, hB4⟩
          simp only [Option.getD_none, Option.isSome_none]
          have H4 := hide (below_thru H3.out hB4)
          have hnw := now_any w4
          clear hnn hB4
          go_wp2_with fail
          refine hnw.mono ?_
          rintro e w5 ⟨rfl, rfl⟩
          have hn5 := mnum_any [109] w5 (by decide) (.inr (HW.out.below H4.out))
          rw [numN_now] at hn5
          unfold sV at hn5
          clear hnw
          go_wp2_with fail
          refine hn5.mono ?_
          rintro e w6 ⟨rfl, hB6⟩
          simp only [Option.getD_none, Option.isSome_none]
          have H6 := hide (below_thru H4.out hB6)
          have hnx := next_any w6
          clear hn5 hB6
          go_wp2_with fail
          refine hnx.mono ?_
          rintro e w7 ⟨rfl, rfl⟩
          have hn7 := mnum_any [109, 46, 110, 101, 119] w7 (by decide) (.inr (HW.out.below H6.out))
          rw [numN_next] at hn7
          unfold sV at hn7
          clear hnx
          go_wp2_with fail
          refine hn7.mono ?_
          rintro e w8 ⟨rfl, hB8⟩
          simp only [Option.getD_none, Option.isSome_none]
          have H8 := hide (below_thru H6.out hB8)
          clear hn7 hB8
          have hnw := now_any w8
          go_wp2_with fail
          refine hnw.mono ?_
          rintro e w10 ⟨rfl, rfl⟩
          have hnx := next_any w10
          clear hnw
          go_wp2_with fail
          refine hnx.mono ?_
          rintro e w11 ⟨rfl, rfl⟩
          clear hnx
          go_wp2_with fail
          go_ret
          exact ⟨rfl, H8.out⟩
        · rw [hq] at hnn
          have hvn : nameN v = N := (numN_some hq).2.2.symm
          have HQ := hide hq
          clear hq
          have HVN := hide hvn
          clear hvn
          go_wp2_with fail
          refine hnn.mono ?_
          rintro e w4 ⟨rfl, hB4⟩
          simp only [Option.getD_some, Option.isSome_some]
          have H4 := hide (below_thru H3.out hB4)
          have hnw := now_any w4
          clear hnn hB4
          go_wp2_with fail
          refine hnw.mono ?_
          rintro e w5 ⟨rfl, rfl⟩
          have hn5 := mnum_any [109] w5 (by decide) (.inr (HW.out.below H4.out))
          rw [numN_now] at hn5
          unfold sV at hn5
          clear hnw
          go_wp2_with fail
          refine hn5.mono ?_
          rintro e w6 ⟨rfl, hB6⟩
          simp only [Option.getD_none, Option.isSome_none]
          have H6 := hide (below_thru H4.out hB6)
          have hnx := next_any w6
          clear hn5 hB6
          go_wp2_with fail
          refine hnx.mono ?_
          rintro e w7 ⟨rfl, rfl⟩
          have hn7 := mnum_any [109, 46, 110, 101, 119] w7 (by decide) (.inr (HW.out.below H6.out))
          rw [numN_next] at hn7
          unfold sV at hn7
          clear hnx
          go_wp2_with fail
          refine hn7.mono ?_
          rintro e w8 ⟨rfl, hB8⟩
          simp only [Option.getD_none, Option.isSome_none]
          have H8 := hide (below_thru H6.out hB8)
          clear hn7 hB8
          have hnv := mname_any v w8 (.inr (HW.out.below H8.out))
          rw [HVN.out] at hnv
          unfold sV at hnv
          go_wp2_with fail
          refine hnv.mono ?_
          rintro e w9 ⟨rfl, hB9⟩
          have H9 := hide (below_thru H8.out hB9)
          clear hnv hB9
          have hnw := now_any w9
          go_wp2_with fail
          refine hnw.mono ?_
          rintro e w10 ⟨rfl, rfl⟩
          have hnx := next_any w10
          clear hnw
          go_wp2_with fail
          refine hnx.mono ?_
          rintro e w11 ⟨rfl, rfl⟩
          clear hnx
          go_wp2_with fail
          go_ret
          exact ⟨rfl, H9.out⟩
    · go_wp2_with fail
      refine hnu.mono ?_
      rintro e w3 ⟨rfl, hB3⟩
      simp only [Option.getD_none, Option.isSome_none]
      have H3 := hide (below_thru H2.out hB3)
      clear hnu hB3 H2
      by_cases hno : num = other
      · subst hno
        have hnn := mnum_any N w3 HN.out (.inr (HW.out.below H3.out))
        have hq : numN N = none ∨ ∃ v, numN N = some v := by
          cases numN N with
          | none => exact .inl rfl
          | some v => exact .inr ⟨v, rfl⟩
        unfold sV at hnn
        rcases hq with hq | ⟨v, hq⟩
        · rw [hq] at hnn
          have HQ := hide hq
          clear hq
          go_wp2_with fail
          refine hnn.mono ?_
          rintro e w4 ⟨rfl, hB4⟩
          simp only [Option.getD_none, Option.isSome_none]
          have H4 := hide (below_thru H3.out hB4)
          have hnw := now_any w4
          clear hnn hB4
          go_wp2_with fail
          refine hnw.mono ?_
          rintro e w5 ⟨rfl, rfl⟩
          have hn5 := mnum_any [109] w5 (by decide) (.inr (HW.out.below H4.out))
          rw [numN_now] at hn5
          unfold sV at hn5
          clear hnw
          go_wp2_with fail
          refine hn5.mono ?_
          rintro e w6 ⟨rfl, hB6⟩
          simp only [Option.getD_none, Option.isSome_none]
          have H6 := hide (below_thru H4.out hB6)
          have hnx := next_any w6
          clear hn5 hB6
          go_wp2_with fail
          refine hnx.mono ?_
          rintro e w7 ⟨rfl, rfl⟩
          have hn7 := mnum_any [109, 46, 110, 101, 119] w7 (by decide) (.inr (HW.out.below H6.out))
          rw [numN_next] at hn7
          unfold sV at hn7
          clear hnx
          go_wp2_with fail
          refine hn7.mono ?_
          rintro e w8 ⟨rfl, hB8⟩
          simp only [Option.getD_none, Option.isSome_none]
          have H8 := hide (below_thru H6.out hB8)
          clear hn7 hB8
          have hnw := now_any w8
          go_wp2_with fail
          refine hnw.mono ?_
          rintro e w10 ⟨rfl, rfl⟩
          have hnx := next_any w10
          clear hnw
          go_wp2_with fail
          refine hnx.mono ?_
          rintro e w11 ⟨rfl, rfl⟩
          clear hnx
          go_wp2_with fail
          go_ret
          exact ⟨rfl, H8.out⟩
        · rw [hq] at hnn
          have hvn : nameN v = N := (numN_some hq).2.2.symm
          have HQ := hide hq
          clear hq
          have HVN := hide hvn
          clear hvn
          go_wp2_with fail
          refine hnn.mono ?_
          rintro e w4 ⟨rfl, hB4⟩
          simp only [Option.getD_some, Option.isSome_some]
          have H4 := hide (below_thru H3.out hB4)
          have hnw := now_any w4
          clear hnn hB4
          go_wp2_with fail
          refine hnw.mono ?_
          rintro e w5 ⟨rfl, rfl⟩
          have hn5 := mnum_any [109] w5 (by decide) (.inr (HW.out.below H4.out))
          rw [numN_now] at hn5
          unfold sV at hn5
          clear hnw
          go_wp2_with fail
          refine hn5.mono ?_
          rintro e w6 ⟨rfl, hB6⟩
          simp only [Option.getD_none, Option.isSome_none]
          have H6 := hide (below_thru H4.out hB6)
          have hnx := next_any w6
          clear hn5 hB6
          go_wp2_with fail
          refine hnx.mono ?_
          rintro e w7 ⟨rfl, rfl⟩
          have hn7 := mnum_any [109, 46, 110, 101, 119] w7 (by decide) (.inr (HW.out.below H6.out))
          rw [numN_next] at hn7
          unfold sV at hn7
          clear hnx
          go_wp2_with fail
          refine hn7.mono ?_
          rintro e w8 ⟨rfl, hB8⟩
          simp only [Option.getD_none, Option.isSome_none]
          have H8 := hide (below_thru H6.out hB8)
          clear hn7 hB8
          have hnv := mname_any v w8 (.inr (HW.out.below H8.out))
          rw [HVN.out] at hnv
          unfold sV at hnv
          go_wp2_with fail
          refine hnv.mono ?_
          rintro e w9 ⟨rfl, hB9⟩
          have H9 := hide (below_thru H8.out hB9)
          clear hnv hB9
          have hnw := now_any w9
          go_wp2_with fail
          refine hnw.mono ?_
          rintro e w10 ⟨rfl, rfl⟩
          have hnx := next_any w10
          clear hnw
          go_wp2_with fail
          refine hnx.mono ?_
          rintro e w11 ⟨rfl, rfl⟩
          clear hnx
          go_wp2_with fail
          go_ret
          exact ⟨rfl, H9.out⟩
      · have HNO := hide hno
        have hnn := mnum_any N w3 HN.out (.inr (HW.out.below H3.out))
        have hq : numN N = none ∨ ∃ v, numN N = some v := by
          cases numN N with
          | none => exact .inl rfl
          | some v => exact .inr ⟨v, rfl⟩
        unfold sV at hnn
        rcases hq with hq | ⟨v, hq⟩
        · rw [hq] at hnn
          have HQ := hide hq
          clear hq
          go_wp2_with fail
          refine hnn.mono ?_
          rintro e w4 ⟨rfl, hB4⟩
          simp only [Option.getD_none, Option.isSome_none]
          have H4 := hide (below_thru H3.out hB4)
          have hnw := now_any w4
          clear hnn hB4
          go_wp2_with fail
          refine hnw.mono ?_
          rintro e w5 ⟨rfl, rfl⟩
          have hn5 := mnum_any [109] w5 (by decide) (.inr (HW.out.below H4.out))
          rw [numN_now] at hn5
          unfold sV at hn5
          clear hnw
          go_wp2_with fail
          refine hn5.mono ?_
          rintro e w6 ⟨rfl, hB6⟩
          simp only [Option.getD_none, Option.isSome_none]
          have H6 := hide (below_thru H4.out hB6)
          have hnx := next_any w6
          clear hn5 hB6
          go_wp2_with fail
          refine hnx.mono ?_
          rintro e w7 ⟨rfl, rfl⟩
          have hn7 := mnum_any [109, 46, 110, 101, 119] w7 (by decide) (.inr (HW.out.below H6.out))
          rw [numN_next] at hn7
          unfold sV at hn7
          clear hnx
          go_wp2_with fail
          refine hn7.mono ?_
          rintro e w8 ⟨rfl, hB8⟩
          simp only [Option.getD_none, Option.isSome_none]
          have H8 := hide (below_thru H6.out hB8)
          clear hn7 hB8
          have hnw := now_any w8
          go_wp2_with fail
          refine hnw.mono ?_
          rintro e w10 ⟨rfl, rfl⟩
          have hnx := next_any w10
          clear hnw
          go_wp2_with fail
          refine hnx.mono ?_
          rintro e w11 ⟨rfl, rfl⟩
          clear hnx
          go_wp2_with fail
          go_ret
          exact ⟨rfl, H8.out⟩
        · rw [hq] at hnn
          have hvn : nameN v = N := (numN_some hq).2.2.symm
          have HQ := hide hq
          clear hq
          have HVN := hide hvn
          clear hvn
          go_wp2_with fail
          refine hnn.mono ?_
          rintro e w4 ⟨rfl, hB4⟩
          simp only [Option.getD_some, Option.isSome_some]
          have H4 := hide (below_thru H3.out hB4)
          have hnw := now_any w4
          clear hnn hB4
          go_wp2_with fail
          refine hnw.mono ?_
          rintro e w5 ⟨rfl, rfl⟩
          have hn5 := mnum_any [109] w5 (by decide) (.inr (HW.out.below H4.out))
          rw [numN_now] at hn5
          unfold sV at hn5
          clear hnw
          go_wp2_with fail
          refine hn5.mono ?_
          rintro e w6 ⟨rfl, hB6⟩
          simp only [Option.getD_none, Option.isSome_none]
          have H6 := hide (below_thru H4.out hB6)
          have hnx := next_any w6
          clear hn5 hB6
          go_wp2_with fail
          refine hnx.mono ?_
          rintro e w7 ⟨rfl, rfl⟩
          have hn7 := mnum_any [109, 46, 110, 101, 119] w7 (by decide) (.inr (HW.out.below H6.out))
          rw [numN_next] at hn7
          unfold sV at hn7
          clear hnx
          go_wp2_with fail
          refine hn7.mono ?_
          rintro e w8 ⟨rfl, hB8⟩
          simp only [Option.getD_none, Option.isSome_none]
          have H8 := hide (below_thru H6.out hB8)
          clear hn7 hB8
          have hnv := mname_any v w8 (.inr (HW.out.below H8.out))
          rw [HVN.out] at hnv
          unfold sV at hnv
          go_wp2_with fail
          refine hnv.mono ?_
          rintro e w9 ⟨rfl, hB9⟩
          have H9 := hide (below_thru H8.out hB9)
          clear hnv hB9
          have hnw := now_any w9
          go_wp2_with fail
          refine hnw.mono ?_
          rintro e w10 ⟨rfl, rfl⟩
          have hnx := next_any w10
          clear hnw
          go_wp2_with fail
          refine hnx.mono ?_
          rintro e w11 ⟨rfl, rfl⟩
          clear hnx
          go_wp2_with fail
          go_ret
          exact ⟨rfl, H9.out⟩
end Go.Proofs.YtppdbinppibjhaaDoor
