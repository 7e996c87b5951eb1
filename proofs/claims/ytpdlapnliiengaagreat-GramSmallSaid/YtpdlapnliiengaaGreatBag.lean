/-
  A bag of lists: apart, by a contract for each kind; a list of bytes put into it.
-/
import Derived.Test.YtpdlapnliiengaaGreatFlatMs
import Derived.Test.YtpdlapnliiengaaGreatFlatNil
import Derived.Outline
import Derived.LoopN
import Derived.Deep.OwnRows
namespace Go.Proofs.YtpdlapnliiengaaGreat
open Go.RowKit
set_option linter.unusedVariables false

def bagOf (vs : Nat → Value) : Array Value := #[vs 0, vs 1, vs 2, vs 3, vs 4, vs 5, vs 6, vs 7, vs 8, vs 9, vs 10, vs 11, vs 12, vs 13, vs 14, vs 15, vs 16, vs 17, vs 18, vs 19, vs 20]
def BagV (w : World) (p : Nat) (vs : Nat → Value) : Prop := w.heap[p]? = some (.cells (bagOf vs) 80 (0, 0))
theorem BagV.cell {w : World} {p : Nat} {vs : Nat → Value} (h : BagV w p vs) (i : Nat) : w.cell? ⟨p, i, none⟩ = (bagOf vs)[i]? := cell_of_row _ _ _ _ _ _ h
theorem BagV.below {w w' : World} {p : Nat} {vs : Nat → Value} (h : BagV w p vs) (hb : Below w.heap.size w w') : BagV w' p vs := (hb.block p (block_lt h)).trans h
theorem BagV.kept {F : Nat → Prop} {w w' : World} {p : Nat} {vs : Nat → Value} (h : BagV w p vs) (hk : Kept F w w') (hp : ¬ F p) : BagV w' p vs := hk.heap h hp

set_option maxRecDepth 100000 in
set_option maxHeartbeats 4000000 in
theorem bagApart_gen (p : Nat) (vs : Nat → Value) (I : Nat → World → Prop) (w : World) (h0 : I 0 w) (hI : ∀ j W, I j W → BagV W p vs)
    (f0 : ∀ W, I 0 W → Calls Tryz.prog 39 #[vs 0] W fun e w' => e = .returned (.bool true) ∧ I 1 w')
    (f1 : ∀ W, I 1 W → Calls Tryz.prog 40 #[vs 1] W fun e w' => e = .returned (.bool true) ∧ I 2 w')
    (f2 : ∀ W, I 2 W → Calls Tryz.prog 41 #[vs 2] W fun e w' => e = .returned (.bool true) ∧ I 3 w')
    (f3 : ∀ W, I 3 W → Calls Tryz.prog 42 #[vs 3] W fun e w' => e = .returned (.bool true) ∧ I 4 w')
    (f4 : ∀ W, I 4 W → Calls Tryz.prog 43 #[vs 4] W fun e w' => e = .returned (.bool true) ∧ I 5 w')
    (f5 : ∀ W, I 5 W → Calls Tryz.prog 44 #[vs 5] W fun e w' => e = .returned (.bool true) ∧ I 6 w')
    (f6 : ∀ W, I 6 W → Calls Tryz.prog 45 #[vs 6] W fun e w' => e = .returned (.bool true) ∧ I 7 w')
    (f7 : ∀ W, I 7 W → Calls Tryz.prog 46 #[vs 7] W fun e w' => e = .returned (.bool true) ∧ I 8 w')
    (f8 : ∀ W, I 8 W → Calls Tryz.prog 47 #[vs 8] W fun e w' => e = .returned (.bool true) ∧ I 9 w')
    (f9 : ∀ W, I 9 W → Calls Tryz.prog 48 #[vs 9] W fun e w' => e = .returned (.bool true) ∧ I 10 w')
    (f10 : ∀ W, I 10 W → Calls Tryz.prog 49 #[vs 10] W fun e w' => e = .returned (.bool true) ∧ I 11 w')
    (f11 : ∀ W, I 11 W → Calls Tryz.prog 50 #[vs 11] W fun e w' => e = .returned (.bool true) ∧ I 12 w')
    (f12 : ∀ W, I 12 W → Calls Tryz.prog 51 #[vs 12] W fun e w' => e = .returned (.bool true) ∧ I 13 w')
    (f13 : ∀ W, I 13 W → Calls Tryz.prog 52 #[vs 13] W fun e w' => e = .returned (.bool true) ∧ I 14 w')
    (f14 : ∀ W, I 14 W → Calls Tryz.prog 53 #[vs 14] W fun e w' => e = .returned (.bool true) ∧ I 15 w')
    (f15 : ∀ W, I 15 W → Calls Tryz.prog 54 #[vs 15] W fun e w' => e = .returned (.bool true) ∧ I 16 w')
    (f16 : ∀ W, I 16 W → Calls Tryz.prog 55 #[vs 16] W fun e w' => e = .returned (.bool true) ∧ I 17 w')
    (f17 : ∀ W, I 17 W → Calls Tryz.prog 56 #[vs 17] W fun e w' => e = .returned (.bool true) ∧ I 18 w')
    (f18 : ∀ W, I 18 W → Calls Tryz.prog 57 #[vs 18] W fun e w' => e = .returned (.bool true) ∧ I 19 w')
    (f19 : ∀ W, I 19 W → Calls Tryz.prog 58 #[vs 19] W fun e w' => e = .returned (.bool true) ∧ I 20 w')
    (f20 : ∀ W, I 20 W → Calls Tryz.prog 59 #[vs 20] W fun e w' => e = .returned (.bool true) ∧ I 21 w') :
    Calls Tryz.prog 27 #[.pointer (some ⟨p, 0, none⟩)] w fun e w' => e = .returned (.bool true) ∧ I 21 w' := by
  have c0 : w.cell? ⟨p, 0, none⟩ = some (vs 0) := (hI 0 w h0).cell 0
  have H0 := hide h0
  have HI := hide hI
  clear hI h0
  go_enter Tryz.func27, Tryz.ntmps27
  go_wp2_with fail
  refine (f0 _ H0.out).mono ?_
  rintro e w1 ⟨rfl, h1⟩
  have H1 := hide h1
  have c1 : w1.cell? ⟨p, 1, none⟩ = some (vs 1) := (HI.out 1 w1 h1).cell 1
  clear h1 c0 f0 H0
  go_wp2_with fail
  refine (f1 _ H1.out).mono ?_
  rintro e w2 ⟨rfl, h2⟩
  have H2 := hide h2
  have c2 : w2.cell? ⟨p, 2, none⟩ = some (vs 2) := (HI.out 2 w2 h2).cell 2
  clear h2 c1 f1 H1
  go_wp2_with fail
  refine (f2 _ H2.out).mono ?_
  rintro e w3 ⟨rfl, h3⟩
  have H3 := hide h3
  have c3 : w3.cell? ⟨p, 3, none⟩ = some (vs 3) := (HI.out 3 w3 h3).cell 3
  clear h3 c2 f2 H2
  go_wp2_with fail
  refine (f3 _ H3.out).mono ?_
  rintro e w4 ⟨rfl, h4⟩
  have H4 := hide h4
  have c4 : w4.cell? ⟨p, 4, none⟩ = some (vs 4) := (HI.out 4 w4 h4).cell 4
  clear h4 c3 f3 H3
  go_wp2_with fail
  refine (f4 _ H4.out).mono ?_
  rintro e w5 ⟨rfl, h5⟩
  have H5 := hide h5
  have c5 : w5.cell? ⟨p, 5, none⟩ = some (vs 5) := (HI.out 5 w5 h5).cell 5
  clear h5 c4 f4 H4
  go_wp2_with fail
  refine (f5 _ H5.out).mono ?_
  rintro e w6 ⟨rfl, h6⟩
  have H6 := hide h6
  have c6 : w6.cell? ⟨p, 6, none⟩ = some (vs 6) := (HI.out 6 w6 h6).cell 6
  clear h6 c5 f5 H5
  go_wp2_with fail
  refine (f6 _ H6.out).mono ?_
  rintro e w7 ⟨rfl, h7⟩
  have H7 := hide h7
  have c7 : w7.cell? ⟨p, 7, none⟩ = some (vs 7) := (HI.out 7 w7 h7).cell 7
  clear h7 c6 f6 H6
  go_wp2_with fail
  refine (f7 _ H7.out).mono ?_
  rintro e w8 ⟨rfl, h8⟩
  have H8 := hide h8
  have c8 : w8.cell? ⟨p, 8, none⟩ = some (vs 8) := (HI.out 8 w8 h8).cell 8
  clear h8 c7 f7 H7
  go_wp2_with fail
  refine (f8 _ H8.out).mono ?_
  rintro e w9 ⟨rfl, h9⟩
  have H9 := hide h9
  have c9 : w9.cell? ⟨p, 9, none⟩ = some (vs 9) := (HI.out 9 w9 h9).cell 9
  clear h9 c8 f8 H8
  go_wp2_with fail
  refine (f9 _ H9.out).mono ?_
  rintro e w10 ⟨rfl, h10⟩
  have H10 := hide h10
  have c10 : w10.cell? ⟨p, 10, none⟩ = some (vs 10) := (HI.out 10 w10 h10).cell 10
  clear h10 c9 f9 H9
  go_wp2_with fail
  refine (f10 _ H10.out).mono ?_
  rintro e w11 ⟨rfl, h11⟩
  have H11 := hide h11
  have c11 : w11.cell? ⟨p, 11, none⟩ = some (vs 11) := (HI.out 11 w11 h11).cell 11
  clear h11 c10 f10 H10
  go_wp2_with fail
  refine (f11 _ H11.out).mono ?_
  rintro e w12 ⟨rfl, h12⟩
  have H12 := hide h12
  have c12 : w12.cell? ⟨p, 12, none⟩ = some (vs 12) := (HI.out 12 w12 h12).cell 12
  clear h12 c11 f11 H11
  go_wp2_with fail
  refine (f12 _ H12.out).mono ?_
  rintro e w13 ⟨rfl, h13⟩
  have H13 := hide h13
  have c13 : w13.cell? ⟨p, 13, none⟩ = some (vs 13) := (HI.out 13 w13 h13).cell 13
  clear h13 c12 f12 H12
  go_wp2_with fail
  refine (f13 _ H13.out).mono ?_
  rintro e w14 ⟨rfl, h14⟩
  have H14 := hide h14
  have c14 : w14.cell? ⟨p, 14, none⟩ = some (vs 14) := (HI.out 14 w14 h14).cell 14
  clear h14 c13 f13 H13
  go_wp2_with fail
  refine (f14 _ H14.out).mono ?_
  rintro e w15 ⟨rfl, h15⟩
  have H15 := hide h15
  have c15 : w15.cell? ⟨p, 15, none⟩ = some (vs 15) := (HI.out 15 w15 h15).cell 15
  clear h15 c14 f14 H14
  go_wp2_with fail
  refine (f15 _ H15.out).mono ?_
  rintro e w16 ⟨rfl, h16⟩
  have H16 := hide h16
  have c16 : w16.cell? ⟨p, 16, none⟩ = some (vs 16) := (HI.out 16 w16 h16).cell 16
  clear h16 c15 f15 H15
  go_wp2_with fail
  refine (f16 _ H16.out).mono ?_
  rintro e w17 ⟨rfl, h17⟩
  have H17 := hide h17
  have c17 : w17.cell? ⟨p, 17, none⟩ = some (vs 17) := (HI.out 17 w17 h17).cell 17
  clear h17 c16 f16 H16
  go_wp2_with fail
  refine (f17 _ H17.out).mono ?_
  rintro e w18 ⟨rfl, h18⟩
  have H18 := hide h18
  have c18 : w18.cell? ⟨p, 18, none⟩ = some (vs 18) := (HI.out 18 w18 h18).cell 18
  clear h18 c17 f17 H17
  go_wp2_with fail
  refine (f18 _ H18.out).mono ?_
  rintro e w19 ⟨rfl, h19⟩
  have H19 := hide h19
  have c19 : w19.cell? ⟨p, 19, none⟩ = some (vs 19) := (HI.out 19 w19 h19).cell 19
  clear h19 c18 f18 H18
  go_wp2_with fail
  refine (f19 _ H19.out).mono ?_
  rintro e w20 ⟨rfl, h20⟩
  have H20 := hide h20
  have c20 : w20.cell? ⟨p, 20, none⟩ = some (vs 20) := (HI.out 20 w20 h20).cell 20
  clear h20 c19 f19 H19
  go_wp2_with fail
  refine (f20 _ H20.out).mono ?_
  rintro e w21 ⟨rfl, h21⟩
  have H21 := hide h21
  clear h21 c20 f20 H20
  go_wp2_with fail
  go_ret
  exact ⟨rfl, H21.out⟩

/-- A bag with another list of bytes. -/
def setB (vs : Nat → Value) (v : Value) (i : Nat) : Value := if i = 5 then v else vs i
end Go.Proofs.YtpdlapnliiengaaGreat
