/-
  awake; LangJoins's walk.
-/
import Derived.Test.YtdjdlkobfmahpaaGreatDoorLOf
namespace Go.Proofs.YtdjdlkobfmahpaaGreatDoor
open Go.RowKit Go.Shelf

theorem right_any (L : List UInt8) (w : World) (hL : L.length ≤ 1000000) : Calls Tryz.prog 13 #[by8 L] w fun e w' => e = .returned (.bool (rightP L)) ∧ Below w.heap.size w w' := callsIn_wide.1 (right_in 20 (by omega) L w hL)
theorem of_any (L : List UInt8) (w : World) (hL : L.length ≤ 1000000) : Calls Tryz.prog 15 #[by8 L] w fun e w' => e = .returned (by8 (ofL L)) ∧ Below w.heap.size w w' := callsIn_wide.1 (of_in 20 (by omega) L w hL)

set_option maxRecDepth 100000 in
set_option maxHeartbeats 2000000 in
theorem awake_any (w : World) : Calls Tryz.prog 12 #[] w fun e w' => e = .returned (.bool true) ∧ Below w.heap.size w w' := by
  go_enter Tryz.func12, Tryz.ntmps12
  go_wp2_with fail
  refine (right_any [97, 47, 98, 46, 103, 111] w (by decide)).mono ?_
  rintro e w1 ⟨rfl, hb1⟩
  rw [show rightP [97, 47, 98, 46, 103, 111] = true by decide +kernel]
  have R1 := hide (hb1)
  clear hb1
  go_wp2_with fail
  refine (of_any [97, 47, 98, 46, 103, 111] w1 (by decide)).mono ?_
  rintro e w2 ⟨rfl, hb2⟩
  rw [show by8 (ofL [97, 47, 98, 46, 103, 111]) = .string ⟨#[103, 111]⟩ by rw [show ofL [97, 47, 98, 46, 103, 111] = [103, 111] by decide +kernel]; rfl]
  have R2 := hide (R1.out.trans (hb2.mono R1.out.size))
  clear hb2
  go_wp2_with fail
  refine (right_any [46, 103, 111] w2 (by decide)).mono ?_
  rintro e w3 ⟨rfl, hb3⟩
  rw [show rightP [46, 103, 111] = true by decide +kernel]
  have R3 := hide (R2.out.trans (hb3.mono R2.out.size))
  clear hb3
  go_wp2_with fail
  refine (of_any [46, 103, 111] w3 (by decide)).mono ?_
  rintro e w4 ⟨rfl, hb4⟩
  rw [show by8 (ofL [46, 103, 111]) = .string ⟨#[]⟩ by rw [show ofL [46, 103, 111] = [] by decide +kernel]; rfl]
  have R4 := hide (R3.out.trans (hb4.mono R3.out.size))
  clear hb4
  go_wp2_with fail
  refine (right_any [97, 47, 47, 98] w4 (by decide)).mono ?_
  rintro e w5 ⟨rfl, hb5⟩
  rw [show rightP [97, 47, 47, 98] = false by decide +kernel]
  have R5 := hide (R4.out.trans (hb5.mono R4.out.size))
  clear hb5
  go_wp2_with fail
  refine (right_any [46, 46, 47, 97] w5 (by decide)).mono ?_
  rintro e w6 ⟨rfl, hb6⟩
  rw [show rightP [46, 46, 47, 97] = false by decide +kernel]
  have R6 := hide (R5.out.trans (hb6.mono R5.out.size))
  clear hb6
  go_wp2_with fail
  refine (of_any [120, 46, 116, 97, 114, 46, 109, 100] w6 (by decide)).mono ?_
  rintro e w7 ⟨rfl, hb7⟩
  rw [show by8 (ofL [120, 46, 116, 97, 114, 46, 109, 100]) = .string ⟨#[109, 97, 114, 107, 100, 111, 119, 110]⟩ by rw [show ofL [120, 46, 116, 97, 114, 46, 109, 100] = [109, 97, 114, 107, 100, 111, 119, 110] by decide +kernel]; rfl]
  have R7 := hide (R6.out.trans (hb7.mono R6.out.size))
  clear hb7
  go_wp2_with fail
  go_ret
  exact ⟨rfl, R7.out⟩
/-- Two paths, parted by a slash. -/
theorem parts_cons (c : UInt8) (l : List UInt8) : partsL (c :: l) = if c = 47 then [] :: partsL l else match partsL l with | [] => [[c]] | p :: r => (c :: p) :: r := by rw [partsL]; rfl
theorem parts_join : ∀ a b : List UInt8, partsL (a ++ 47 :: b) = partsL a ++ partsL b
  | [], b => by simp [partsL]
  | c :: a, b => by
    have ih := parts_join a b
    have hn := parts_ne a
    rw [List.cons_append, parts_cons, parts_cons, ih]
    by_cases hc : c = 47
    · rw [if_pos hc, if_pos hc]; rfl
    · rw [if_neg hc, if_neg hc]
      cases h : partsL a with
      | nil => exact absurd h hn
      | cons p r => rfl
theorem right_join (a b : List UInt8) : rightP (a ++ 47 :: b) = (rightP a && rightP b && decide (a.length + b.length + 1 ≤ 200)) := by
  unfold rightP
  rw [parts_join, List.all_append]
  have hl : (a ++ 47 :: b).length = a.length + b.length + 1 := by simp; omega
  rw [hl]
  by_cases h : a.length + b.length + 1 ≤ 200
  · rw [decide_eq_true h, decide_eq_true (show a.length ≤ 200 by omega), decide_eq_true (show b.length ≤ 200 by omega)]
    simp
  · rw [decide_eq_false h]
    simp
theorem of_join (a b : List UInt8) : ofL (a ++ 47 :: b) = ofL b := by
  unfold ofL
  rw [parts_join]
  unfold lastP
  rw [List.getLast?_append]
  cases h : (partsL b).getLast? with
  | none => exact absurd (List.getLast?_eq_none_iff.1 h) (parts_ne b)
  | some x => rfl
end Go.Proofs.YtdjdlkobfmahpaaGreatDoor
