/-
  LangJoins's walk.
-/
import Derived.Test.YteignimfggkgnaaLAwake
namespace Go.Proofs.Yteignimfggkgnaa
open Go.RowKit Go.Shelf

theorem size_by (l : List UInt8) : (⟨l.toArray⟩ : ByteArray).size = l.length := by simp [ByteArray.size]
set_option maxRecDepth 100000 in
set_option maxHeartbeats 2000000 in
theorem langJoins_any (a b : List UInt8) (w : World) (ha : a.length ≤ 140737488351232) (hb : b.length ≤ 140737488351232) :
    Calls Try.prog 4 #[by8 a, by8 b] w fun e w' => e = .returned (.bool true) ∧ Below w.heap.size w w' := by
  have hsa := size_by a
  have hsb := size_by b
  have hrj := right_join a b
  have hoj := of_join a b
  unfold by8
  go_enter Try.func4, Try.ntmps4
  go_wp2_with fail
  refine (awake_any w).mono ?_
  rintro e w1 ⟨rfl, hb1⟩
  have R1 := hide hb1
  clear hb1
  have h63 := IntWalk.i64_in ((a.length : Int) + (b.length : Int)) (by omega)
  by_cases hm : a.length + b.length ≤ 4000
  · have hm1 : ¬ (4000 : Int) < (a.length : Int) + (b.length : Int) := by omega
    have hm2 : (a.length : Int) + (b.length : Int) ≤ 4000 := by omega
    go_wp2_with fail
    have hcat : (⟨a.toArray⟩ : ByteArray) ++ ⟨#[47]⟩ ++ ⟨b.toArray⟩ = ⟨(a ++ 47 :: b).toArray⟩ := by
      apply ByteArray.ext
      apply Array.toList_inj.1
      simp
    have hdec : decide ((a.length : Int) + 1 + (b.length : Int) ≤ 200) = decide (a.length + b.length + 1 ≤ 200) := by
      rw [decide_eq_decide]; omega
    rw [hcat, hdec]
    obtain ⟨sh, hsh⟩ : ∃ sh, decide (a.length + b.length + 1 ≤ 200) = sh := ⟨_, rfl⟩
    obtain ⟨ra, hra⟩ : ∃ r, rightP a = r := ⟨_, rfl⟩
    obtain ⟨rb, hrb⟩ : ∃ r, rightP b = r := ⟨_, rfl⟩
    rw [hsh, hra, hrb] at hrj
    rw [hsh]
    have hlc : (a ++ 47 :: b).length ≤ 1000000 := by simp; omega
    have H := hide (And.intro hra (And.intro hrb (And.intro hrj hoj)))
    clear hcat hdec hsh hra hrb hrj hoj
    refine (right_any (a ++ 47 :: b) w1 hlc).mono ?_
    rintro e w2 ⟨rfl, hb2⟩
    have R2 := hide (R1.out.trans (hb2.mono R1.out.size))
    clear hb2
    rw [H.out.2.2.1]
    go_wp2_with fail
    refine (right_any a w2 (by omega)).mono ?_
    rintro e w3 ⟨rfl, hb3⟩
    have R3 := hide (R2.out.trans (hb3.mono R2.out.size))
    clear hb3
    rw [H.out.1]
    cases ra with
    | false =>
      go_wp2_with fail
      refine (of_any (a ++ 47 :: b) w3 hlc).mono ?_
      rintro e w8 ⟨rfl, hb8⟩
      have R8 := hide (R3.out.trans (hb8.mono R3.out.size))
      clear hb8
      rw [H.out.2.2.2]
      go_wp2_with fail
      refine (of_any b w8 (by omega)).mono ?_
      rintro e w9 ⟨rfl, hb9⟩
      have R9 := hide (R8.out.trans (hb9.mono R8.out.size))
      clear hb9
      unfold by8
      generalize ofL b = q
      have hqq : ((⟨q.toArray⟩ : ByteArray) == ⟨q.toArray⟩) = true := by rw [by8_beq]; simp
      go_wp2_with fail
      go_ret
      exact ⟨rfl, R9.out⟩
    | true =>
      go_wp2_with fail
      refine (right_any b w3 (by omega)).mono ?_
      rintro e w4 ⟨rfl, hb4⟩
      have R4 := hide (R3.out.trans (hb4.mono R3.out.size))
      clear hb4
      rw [H.out.2.1]
      cases rb <;> cases sh
      all_goals
        go_wp2_with fail
        refine (of_any (a ++ 47 :: b) w4 hlc).mono ?_
        rintro e w8 ⟨rfl, hb8⟩
        have R8 := hide (R4.out.trans (hb8.mono R4.out.size))
        clear hb8
        rw [H.out.2.2.2]
        go_wp2_with fail
        refine (of_any b w8 (by omega)).mono ?_
        rintro e w9 ⟨rfl, hb9⟩
        have R9 := hide (R8.out.trans (hb9.mono R8.out.size))
        clear hb9
        unfold by8
        generalize ofL b = q
        have hqq : ((⟨q.toArray⟩ : ByteArray) == ⟨q.toArray⟩) = true := by rw [by8_beq]; simp
        go_wp2_with fail
        go_ret
        exact ⟨rfl, R9.out⟩
  · have hm1 : (4000 : Int) < (a.length : Int) + (b.length : Int) := by omega
    go_wp2_with fail
    go_ret
    exact ⟨rfl, R1.out⟩
end Go.Proofs.Yteignimfggkgnaa
