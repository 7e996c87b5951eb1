/-
  Drawn regions of mudlarkref22 (written by tools/gen-dref.py).
-/
import Derived.Test.YtpmldopbjlnknaaGreatDRefG
namespace Go.Proofs.YtpmldopbjlnknaaGreat
open Go.RowKit Go.Shelf
set_option linter.unusedVariables false
set_option linter.unusedSimpArgs false

def drrD_val (gD oD n cD i jp : Nat) (d : DT) (P PQ : List UInt8) : Nat → Value → World → Prop
  | 0, v, w => v = .slice (some ⟨gD, oD, none⟩) n cD
  | 1, v, w => v = .int .i64 (i : Nat)
  | 2, v, w => v = .pointer (some ⟨gD, oD + i * 4, none⟩)
  | 3, v, w => v = .pointer (some ⟨gD, oD + i * 4, none⟩)
  | 4, v, w => v = by8 P
  | 5, v, w => v = .bool true
  | 6, v, w => v = .bool false
  | 7, v, w => v = .bool false
  | 8, v, w => v = .slice (some ⟨gD, oD, none⟩) n cD
  | 9, v, w => v = .int .i64 (i : Nat)
  | 10, v, w => v = .pointer (some ⟨gD, oD + i * 4, none⟩)
  | 11, v, w => v = .pointer (some ⟨gD, oD + i * 4 + 1, none⟩)
  | 12, v, w => v = by8 d.L
  | 13, v, w => v = .slice (some ⟨gD, oD, none⟩) n cD
  | 14, v, w => v = .int .i64 (i : Nat)
  | 15, v, w => v = .pointer (some ⟨gD, oD + i * 4, none⟩)
  | 16, v, w => v = .pointer (some ⟨gD, oD + i * 4, none⟩)
  | 17, v, w => v = by8 P
  | 18, v, w => v = by8 (ofL P)
  | 19, v, w => v = .bool true
  | 20, v, w => v = .bool true
  | 21, v, w => v = .bool true
  | 22, v, w => v = undef
  | 23, v, w => v = undef
  | 24, v, w => v = undef
  | 25, v, w => v = undef
  | 26, v, w => v = undef
  | 27, v, w => v = undef
  | 28, v, w => v = .bool true
  | 29, v, w => v = .bool true
  | 30, v, w => v = undef
  | 31, v, w => v = undef
  | 32, v, w => v = undef
  | 33, v, w => v = undef
  | 34, v, w => v = undef
  | 35, v, w => v = undef
  | 36, v, w => v = .bool true
  | 37, v, w => v = .bool true
  | 38, v, w => v = undef
  | 39, v, w => v = undef
  | 40, v, w => v = undef
  | 41, v, w => v = undef
  | 42, v, w => v = undef
  | 43, v, w => v = undef
  | 44, v, w => v = undef
  | 45, v, w => v = undef
  | 46, v, w => v = undef
  | 47, v, w => v = undef
  | 48, v, w => v = undef
  | 49, v, w => v = undef
  | 50, v, w => v = undef
  | 51, v, w => v = undef
  | 52, v, w => v = undef
  | 53, v, w => v = undef
  | 54, v, w => v = .bool true
  | _, _, _ => True
theorem drrD_below (gD oD n cD i jp : Nat) (d : DT) (P PQ : List UInt8) (w w' : World) (hb : Below w.heap.size w w') : ∀ j v, drrD_val gD oD n cD i jp d P PQ j v w → drrD_val gD oD n cD i jp d P PQ j v w' := by
  intro j v h
  match j, h with
  | 0, h => exact h
  | 1, h => exact h
  | 2, h => exact h
  | 3, h => exact h
  | 4, h => exact h
  | 5, h => exact h
  | 6, h => exact h
  | 7, h => exact h
  | 8, h => exact h
  | 9, h => exact h
  | 10, h => exact h
  | 11, h => exact h
  | 12, h => exact h
  | 13, h => exact h
  | 14, h => exact h
  | 15, h => exact h
  | 16, h => exact h
  | 17, h => exact h
  | 18, h => exact h
  | 19, h => exact h
  | 20, h => exact h
  | 21, h => exact h
  | 22, h => exact h
  | 23, h => exact h
  | 24, h => exact h
  | 25, h => exact h
  | 26, h => exact h
  | 27, h => exact h
  | 28, h => exact h
  | 29, h => exact h
  | 30, h => exact h
  | 31, h => exact h
  | 32, h => exact h
  | 33, h => exact h
  | 34, h => exact h
  | 35, h => exact h
  | 36, h => exact h
  | 37, h => exact h
  | 38, h => exact h
  | 39, h => exact h
  | 40, h => exact h
  | 41, h => exact h
  | 42, h => exact h
  | 43, h => exact h
  | 44, h => exact h
  | 45, h => exact h
  | 46, h => exact h
  | 47, h => exact h
  | 48, h => exact h
  | 49, h => exact h
  | 50, h => exact h
  | 51, h => exact h
  | 52, h => exact h
  | 53, h => exact h
  | 54, h => exact h
  | _ + 55, h => exact h
def drrD_H (Fc : Fence) (gD oD n cD i jp : Nat) (d : DT) (P PQ : List UInt8) (df : List Deferred) (w0 : World) (x : Act) (w : World) : Prop :=
  (Wide Fc) ∧ (i < n) ∧ (n ≤ 140737488351232) ∧ (w0.cell? ⟨gD, oD + i * 4, none⟩ = some (by8 P)) ∧ (P.length ≤ 1000000) ∧ (rightP P = true) ∧ (w0.cell? ⟨gD, oD + i * 4 + 1, none⟩ = some (by8 d.L)) ∧ ((!(d.L == ofL P)) = true) ∧ (Below w0.heap.size w0 w) ∧ (x.defers = df) ∧ (x.tmps.getD 0 undef = .slice (some ⟨gD, oD, none⟩) n cD) ∧ (x.tmps.getD 3 undef = .int .i64 (i : Nat))
section
set_option maxRecDepth 100000
set_option maxHeartbeats 2000000
variable {Fc : Fence} {nC : Nat} {gD oD n cD i jp : Nat} {d : DT} {P PQ : List UInt8} {Q : Exit → Act → World → Prop} {df : List Deferred} {w0 : World} {x : Act} {w : World}
local notation "HH!" => drrD_H Fc gD oD n cD i jp d P PQ df w0 x w
local notation "VV!" j:max s:max => drrD_val gD oD n cD i jp d P PQ j (x.tmps.getD s undef) w
local notation "TT!" s:max => Array.getD (Act.tmps x) s undef
local notation "SS!" j:max s:max => Stp Fc nC Tryz.prog drr4_ops Q j s (drrD_val gD oD n cD i jp d P PQ j) x w
set_option hygiene false in
local macro "GP!" j:num o:ident : tactic => `(tactic| (obtain ⟨hF, hi, hn, d0, hp, hr, d1, h2, hB, hdef, u0, u3⟩ := H; have ho : drr4_ops[$j]? = some $o := rfl; simp only [Array.getD_eq_getD_getElem?] at u0 u3))
local macro "GG!" hs:(colGt ident)+ : tactic => `(tactic| simp only [Array.getD_eq_getD_getElem?] at $[$hs:ident]*)
set_option hygiene false in
local macro "GE!" e:ident g:ident q:ident k:num s:num : tactic => `(tactic| (have $e : (drr4_ops[$k]?.bind fun x => x.dst) = some $s := rfl; have $g := get_someT $q (fun h => by cases h)))
set_option hygiene false in
local macro "GF!" o:ident : tactic => `(tactic| (refine wpOpIn_stepT hF ho (fun K hK => ?_); clear ho; rw [Oper.semAt_plain Fc _ _ (by intro c h; cases h)]; simp only [$o:ident]; go_simp))
set_option hygiene false in
local macro "GD!" o:ident : tactic => `(tactic| (refine wpOpIn_plain ho rfl (oper_inK hF.fn (fun K hK => ?_)); clear ho; rw [Oper.semAt_plain Fc _ _ (by intro c h; cases h)]; simp only [$o:ident]; go_simp))
set_option hygiene false in
local macro "GX!" : tactic => `(tactic| exact hK _ _ ⟨_, act_putD x hdef _ _, rfl, Below.refl _ _⟩)
theorem drrD_s0 (H : HH!) : SS! 0 10 := by
  GP! 0 drr4_o0
  GD! drr4_o0
  GX!
theorem drrD_s1 (H : HH!) : SS! 1 11 := by
  GP! 1 drr4_o1
  GD! drr4_o1
  GX!
theorem drrD_s2 (H : HH!) (p0 : VV! 0 10) (p1 : VV! 1 11) : SS! 2 12 := by
  GP! 2 drr4_o2
  have q0 : TT! 10 = .slice (some ⟨gD, oD, none⟩) n cD := p0
  have q1 : TT! 11 = .int .i64 (i : Nat) := p1
  GG! q0 q1
  have i0 : (0 : Int) ≤ (i : Int) := by omega
  have i1 : (i : Int) < (n : Int) := by omega
  GD! drr4_o2
  GX!
theorem drrD_s3 (H : HH!) (p2 : VV! 2 12) : SS! 3 13 := by
  GP! 3 drr4_o3
  have q2 : TT! 12 = .pointer (some ⟨gD, oD + i * 4, none⟩) := p2
  GG! q2
  GD! drr4_o3
  GX!
theorem drrD_s4 (H : HH!) (p3 : VV! 3 13) : SS! 4 14 := by
  GP! 4 drr4_o4
  have q3 : TT! 13 = .pointer (some ⟨gD, oD + i * 4, none⟩) := p3
  GG! q3
  have m := cell_thru d0 hB
  GD! drr4_o4
  GX!
theorem drrD_s5 (H : HH!) (p4 : VV! 4 14) : SS! 5 15 := by
  GP! 5 drr4_o5
  have q4 : TT! 14 = by8 P := p4
  GG! q4
  GD! drr4_o5
  refine ⟨hF.deep, (hF.call (refRight_any P w hp)).mono ?_⟩
  rintro e w' ⟨rfl, hb⟩
  exact hK _ _ ⟨_, act_putD x hdef _ _, by rw [hr]; exact rfl, hb⟩
theorem drrD_s6 (H : HH!) (p5 : VV! 5 15) : SS! 6 16 := by
  GP! 6 drr4_o6
  have q5 : TT! 15 = .bool true := p5
  GG! q5
  GD! drr4_o6
  GX!
theorem drrD_s7 (H : HH!) (p6 : VV! 6 16) : SS! 7 17 := by
  GP! 7 drr4_o7
  have q6 : TT! 16 = .bool false := p6
  GG! q6
  GD! drr4_o7
  GX!
theorem drrD_s8 (H : HH!) (p7 : VV! 7 17) : SS! 8 18 := by
  GP! 8 drr4_o8
  have q7 : TT! 17 = .bool false := p7
  GG! q7
  GE! e7 g7 q7 7 17
  GF! drr4_o8
  GX!
theorem drrD_s9 (H : HH!) (p7 : VV! 7 17) : SS! 9 19 := by
  GP! 9 drr4_o9
  have q7 : TT! 17 = .bool false := p7
  GG! q7
  GE! e7 g7 q7 7 17
  GF! drr4_o9
  GX!
theorem drrD_s10 (H : HH!) (p8 : VV! 8 18) (p9 : VV! 9 19) (p7 : VV! 7 17) : SS! 10 20 := by
  GP! 10 drr4_o10
  have q8 : TT! 18 = .slice (some ⟨gD, oD, none⟩) n cD := p8
  have q9 : TT! 19 = .int .i64 (i : Nat) := p9
  have q7 : TT! 17 = .bool false := p7
  GG! q8 q9 q7
  GE! e7 g7 q7 7 17
  have i0 : (0 : Int) ≤ (i : Int) := by omega
  have i1 : (i : Int) < (n : Int) := by omega
  GF! drr4_o10
  GX!
theorem drrD_s11 (H : HH!) (p10 : VV! 10 20) (p7 : VV! 7 17) : SS! 11 21 := by
  GP! 11 drr4_o11
  have q10 : TT! 20 = .pointer (some ⟨gD, oD + i * 4, none⟩) := p10
  have q7 : TT! 17 = .bool false := p7
  GG! q10 q7
  GE! e7 g7 q7 7 17
  GF! drr4_o11
  GX!
theorem drrD_s12 (H : HH!) (p11 : VV! 11 21) (p7 : VV! 7 17) : SS! 12 22 := by
  GP! 12 drr4_o12
  have q11 : TT! 21 = .pointer (some ⟨gD, oD + i * 4 + 1, none⟩) := p11
  have q7 : TT! 17 = .bool false := p7
  GG! q11 q7
  GE! e7 g7 q7 7 17
  have m := cell_thru d1 hB
  GF! drr4_o12
  GX!
theorem drrD_s13 (H : HH!) (p7 : VV! 7 17) : SS! 13 23 := by
  GP! 13 drr4_o13
  have q7 : TT! 17 = .bool false := p7
  GG! q7
  GE! e7 g7 q7 7 17
  GF! drr4_o13
  GX!
theorem drrD_s14 (H : HH!) (p7 : VV! 7 17) : SS! 14 24 := by
  GP! 14 drr4_o14
  have q7 : TT! 17 = .bool false := p7
  GG! q7
  GE! e7 g7 q7 7 17
  GF! drr4_o14
  GX!
theorem drrD_s15 (H : HH!) (p13 : VV! 13 23) (p14 : VV! 14 24) (p7 : VV! 7 17) : SS! 15 25 := by
  GP! 15 drr4_o15
  have q13 : TT! 23 = .slice (some ⟨gD, oD, none⟩) n cD := p13
  have q14 : TT! 24 = .int .i64 (i : Nat) := p14
  have q7 : TT! 17 = .bool false := p7
  GG! q13 q14 q7
  GE! e7 g7 q7 7 17
  have i0 : (0 : Int) ≤ (i : Int) := by omega
  have i1 : (i : Int) < (n : Int) := by omega
  GF! drr4_o15
  GX!
theorem drrD_s16 (H : HH!) (p15 : VV! 15 25) (p7 : VV! 7 17) : SS! 16 26 := by
  GP! 16 drr4_o16
  have q15 : TT! 25 = .pointer (some ⟨gD, oD + i * 4, none⟩) := p15
  have q7 : TT! 17 = .bool false := p7
  GG! q15 q7
  GE! e7 g7 q7 7 17
  GF! drr4_o16
  GX!
theorem drrD_s17 (H : HH!) (p16 : VV! 16 26) (p7 : VV! 7 17) : SS! 17 27 := by
  GP! 17 drr4_o17
  have q16 : TT! 26 = .pointer (some ⟨gD, oD + i * 4, none⟩) := p16
  have q7 : TT! 17 = .bool false := p7
  GG! q16 q7
  GE! e7 g7 q7 7 17
  have m := cell_thru d0 hB
  GF! drr4_o17
  GX!
theorem drrD_s18 (H : HH!) (p17 : VV! 17 27) (p7 : VV! 7 17) : SS! 18 28 := by
  GP! 18 drr4_o18
  have q17 : TT! 27 = by8 P := p17
  have q7 : TT! 17 = .bool false := p7
  GG! q17 q7
  GE! e7 g7 q7 7 17
  GF! drr4_o18
  refine ⟨hF.deep, (hF.call (refOf_any P w hp)).mono ?_⟩
  rintro e w' ⟨rfl, hb⟩
  exact hK _ _ ⟨_, act_putD x hdef _ _, rfl, hb⟩
theorem drrD_s19 (H : HH!) (p12 : VV! 12 22) (p18 : VV! 18 28) (p7 : VV! 7 17) : SS! 19 29 := by
  GP! 19 drr4_o19
  have q12 : TT! 22 = by8 d.L := p12
  have q18 : TT! 28 = by8 (ofL P) := p18
  have q7 : TT! 17 = .bool false := p7
  GG! q12 q18 q7
  GE! e7 g7 q7 7 17
  have m := h2
  unfold by8 at q12 q18
  GF! drr4_o19
  GX!
theorem drrD_s20 (H : HH!) (p7 : VV! 7 17) (p19 : VV! 19 29) : SS! 20 30 := by
  GP! 20 drr4_o20
  have q7 : TT! 17 = .bool false := p7
  have q19 : TT! 29 = .bool true := p19
  GG! q7 q19
  GD! drr4_o20
  GX!
theorem drrD_s21 (H : HH!) (p20 : VV! 20 30) : SS! 21 31 := by
  GP! 21 drr4_o21
  have q20 : TT! 30 = .bool true := p20
  GG! q20
  GD! drr4_o21
  GX!
theorem drrD_s22 (H : HH!) (p21 : VV! 21 31) : SS! 22 32 := by
  GP! 22 drr4_o22
  have q21 : TT! 31 = .bool true := p21
  GG! q21
  GE! e21 g21 q21 21 31
  GF! drr4_o22
  GX!
theorem drrD_s23 (H : HH!) (p21 : VV! 21 31) : SS! 23 33 := by
  GP! 23 drr4_o23
  have q21 : TT! 31 = .bool true := p21
  GG! q21
  GE! e21 g21 q21 21 31
  GF! drr4_o23
  GX!
theorem drrD_s24 (H : HH!) (p22 : VV! 22 32) (p23 : VV! 23 33) (p21 : VV! 21 31) : SS! 24 34 := by
  GP! 24 drr4_o24
  have q22 : TT! 32 = undef := p22
  have q23 : TT! 33 = undef := p23
  have q21 : TT! 31 = .bool true := p21
  GG! q22 q23 q21
  GE! e21 g21 q21 21 31
  GF! drr4_o24
  GX!
theorem drrD_s25 (H : HH!) (p24 : VV! 24 34) (p21 : VV! 21 31) : SS! 25 35 := by
  GP! 25 drr4_o25
  have q24 : TT! 34 = undef := p24
  have q21 : TT! 31 = .bool true := p21
  GG! q24 q21
  GE! e21 g21 q21 21 31
  GF! drr4_o25
  GX!
theorem drrD_s26 (H : HH!) (p25 : VV! 25 35) (p21 : VV! 21 31) : SS! 26 36 := by
  GP! 26 drr4_o26
  have q25 : TT! 35 = undef := p25
  have q21 : TT! 31 = .bool true := p21
  GG! q25 q21
  GE! e21 g21 q21 21 31
  GF! drr4_o26
  GX!
theorem drrD_s27 (H : HH!) (p26 : VV! 26 36) (p21 : VV! 21 31) : SS! 27 37 := by
  GP! 27 drr4_o27
  have q26 : TT! 36 = undef := p26
  have q21 : TT! 31 = .bool true := p21
  GG! q26 q21
  GE! e21 g21 q21 21 31
  GF! drr4_o27
  GX!
theorem drrD_s28 (H : HH!) (p21 : VV! 21 31) (p27 : VV! 27 37) : SS! 28 38 := by
  GP! 28 drr4_o28
  have q21 : TT! 31 = .bool true := p21
  have q27 : TT! 37 = undef := p27
  GG! q21 q27
  GD! drr4_o28
  GX!
theorem drrD_s29 (H : HH!) (p28 : VV! 28 38) : SS! 29 39 := by
  GP! 29 drr4_o29
  have q28 : TT! 38 = .bool true := p28
  GG! q28
  GD! drr4_o29
  GX!
theorem drrD_s30 (H : HH!) (p29 : VV! 29 39) : SS! 30 40 := by
  GP! 30 drr4_o30
  have q29 : TT! 39 = .bool true := p29
  GG! q29
  GE! e29 g29 q29 29 39
  GF! drr4_o30
  GX!
theorem drrD_s31 (H : HH!) (p29 : VV! 29 39) : SS! 31 41 := by
  GP! 31 drr4_o31
  have q29 : TT! 39 = .bool true := p29
  GG! q29
  GE! e29 g29 q29 29 39
  GF! drr4_o31
  GX!
theorem drrD_s32 (H : HH!) (p30 : VV! 30 40) (p31 : VV! 31 41) (p29 : VV! 29 39) : SS! 32 42 := by
  GP! 32 drr4_o32
  have q30 : TT! 40 = undef := p30
  have q31 : TT! 41 = undef := p31
  have q29 : TT! 39 = .bool true := p29
  GG! q30 q31 q29
  GE! e29 g29 q29 29 39
  GF! drr4_o32
  GX!
theorem drrD_s33 (H : HH!) (p32 : VV! 32 42) (p29 : VV! 29 39) : SS! 33 43 := by
  GP! 33 drr4_o33
  have q32 : TT! 42 = undef := p32
  have q29 : TT! 39 = .bool true := p29
  GG! q32 q29
  GE! e29 g29 q29 29 39
  GF! drr4_o33
  GX!
theorem drrD_s34 (H : HH!) (p33 : VV! 33 43) (p29 : VV! 29 39) : SS! 34 44 := by
  GP! 34 drr4_o34
  have q33 : TT! 43 = undef := p33
  have q29 : TT! 39 = .bool true := p29
  GG! q33 q29
  GE! e29 g29 q29 29 39
  GF! drr4_o34
  GX!
theorem drrD_s35 (H : HH!) (p34 : VV! 34 44) (p29 : VV! 29 39) : SS! 35 45 := by
  GP! 35 drr4_o35
  have q34 : TT! 44 = undef := p34
  have q29 : TT! 39 = .bool true := p29
  GG! q34 q29
  GE! e29 g29 q29 29 39
  GF! drr4_o35
  GX!
theorem drrD_s36 (H : HH!) (p29 : VV! 29 39) (p35 : VV! 35 45) : SS! 36 46 := by
  GP! 36 drr4_o36
  have q29 : TT! 39 = .bool true := p29
  have q35 : TT! 45 = undef := p35
  GG! q29 q35
  GD! drr4_o36
  GX!
theorem drrD_s37 (H : HH!) (p36 : VV! 36 46) : SS! 37 47 := by
  GP! 37 drr4_o37
  have q36 : TT! 46 = .bool true := p36
  GG! q36
  GD! drr4_o37
  GX!
theorem drrD_s38 (H : HH!) (p37 : VV! 37 47) : SS! 38 48 := by
  GP! 38 drr4_o38
  have q37 : TT! 47 = .bool true := p37
  GG! q37
  GE! e37 g37 q37 37 47
  GF! drr4_o38
  GX!
theorem drrD_s39 (H : HH!) (p38 : VV! 38 48) (p37 : VV! 37 47) : SS! 39 49 := by
  GP! 39 drr4_o39
  have q38 : TT! 48 = undef := p38
  have q37 : TT! 47 = .bool true := p37
  GG! q38 q37
  GE! e37 g37 q37 37 47
  GF! drr4_o39
  GX!
theorem drrD_s40 (H : HH!) (p39 : VV! 39 49) (p37 : VV! 37 47) : SS! 40 50 := by
  GP! 40 drr4_o40
  have q39 : TT! 49 = undef := p39
  have q37 : TT! 47 = .bool true := p37
  GG! q39 q37
  GE! e37 g37 q37 37 47
  GF! drr4_o40
  GX!
theorem drrD_s41 (H : HH!) (p40 : VV! 40 50) : SS! 41 51 := by
  GP! 41 drr4_o41
  have q40 : TT! 50 = undef := p40
  GG! q40
  have e40 : (drr4_ops[40]?.bind fun x => x.dst) = some 50 := rfl
  exact op_skipped hF ho rfl e40 q40 ⟨_, rfl, rfl, Below.refl _ _⟩
theorem drrD_s42 (H : HH!) (p40 : VV! 40 50) : SS! 42 52 := by
  GP! 42 drr4_o42
  have q40 : TT! 50 = undef := p40
  GG! q40
  have e40 : (drr4_ops[40]?.bind fun x => x.dst) = some 50 := rfl
  exact op_skipped hF ho rfl e40 q40 ⟨_, rfl, rfl, Below.refl _ _⟩
theorem drrD_s43 (H : HH!) (p42 : VV! 42 52) (p40 : VV! 40 50) : SS! 43 53 := by
  GP! 43 drr4_o43
  have q42 : TT! 52 = undef := p42
  have q40 : TT! 50 = undef := p40
  GG! q42 q40
  have e40 : (drr4_ops[40]?.bind fun x => x.dst) = some 50 := rfl
  exact op_skipped hF ho rfl e40 q40 ⟨_, rfl, rfl, Below.refl _ _⟩
theorem drrD_s44 (H : HH!) (p41 : VV! 41 51) (p43 : VV! 43 53) (p40 : VV! 40 50) : SS! 44 54 := by
  GP! 44 drr4_o44
  have q41 : TT! 51 = undef := p41
  have q43 : TT! 53 = undef := p43
  have q40 : TT! 50 = undef := p40
  GG! q41 q43 q40
  have e40 : (drr4_ops[40]?.bind fun x => x.dst) = some 50 := rfl
  exact op_skipped hF ho rfl e40 q40 ⟨_, rfl, rfl, Below.refl _ _⟩
theorem drrD_s45 (H : HH!) (p44 : VV! 44 54) (p40 : VV! 40 50) : SS! 45 55 := by
  GP! 45 drr4_o45
  have q44 : TT! 54 = undef := p44
  have q40 : TT! 50 = undef := p40
  GG! q44 q40
  have e40 : (drr4_ops[40]?.bind fun x => x.dst) = some 50 := rfl
  exact op_skipped hF ho rfl e40 q40 ⟨_, rfl, rfl, Below.refl _ _⟩
theorem drrD_s46 (H : HH!) (p45 : VV! 45 55) (p40 : VV! 40 50) : SS! 46 56 := by
  GP! 46 drr4_o46
  have q45 : TT! 55 = undef := p45
  have q40 : TT! 50 = undef := p40
  GG! q45 q40
  have e40 : (drr4_ops[40]?.bind fun x => x.dst) = some 50 := rfl
  exact op_skipped hF ho rfl e40 q40 ⟨_, rfl, rfl, Below.refl _ _⟩
theorem drrD_s47 (H : HH!) (p40 : VV! 40 50) : SS! 47 57 := by
  GP! 47 drr4_o47
  have q40 : TT! 50 = undef := p40
  GG! q40
  have e40 : (drr4_ops[40]?.bind fun x => x.dst) = some 50 := rfl
  exact op_skipped hF ho rfl e40 q40 ⟨_, rfl, rfl, Below.refl _ _⟩
theorem drrD_s48 (H : HH!) (p40 : VV! 40 50) : SS! 48 58 := by
  GP! 48 drr4_o48
  have q40 : TT! 50 = undef := p40
  GG! q40
  have e40 : (drr4_ops[40]?.bind fun x => x.dst) = some 50 := rfl
  exact op_skipped hF ho rfl e40 q40 ⟨_, rfl, rfl, Below.refl _ _⟩
theorem drrD_s49 (H : HH!) (p47 : VV! 47 57) (p48 : VV! 48 58) (p40 : VV! 40 50) : SS! 49 59 := by
  GP! 49 drr4_o49
  have q47 : TT! 57 = undef := p47
  have q48 : TT! 58 = undef := p48
  have q40 : TT! 50 = undef := p40
  GG! q47 q48 q40
  have e40 : (drr4_ops[40]?.bind fun x => x.dst) = some 50 := rfl
  exact op_skipped hF ho rfl e40 q40 ⟨_, rfl, rfl, Below.refl _ _⟩
theorem drrD_s50 (H : HH!) (p49 : VV! 49 59) (p40 : VV! 40 50) : SS! 50 60 := by
  GP! 50 drr4_o50
  have q49 : TT! 59 = undef := p49
  have q40 : TT! 50 = undef := p40
  GG! q49 q40
  have e40 : (drr4_ops[40]?.bind fun x => x.dst) = some 50 := rfl
  exact op_skipped hF ho rfl e40 q40 ⟨_, rfl, rfl, Below.refl _ _⟩
theorem drrD_s51 (H : HH!) (p50 : VV! 50 60) (p40 : VV! 40 50) : SS! 51 61 := by
  GP! 51 drr4_o51
  have q50 : TT! 60 = undef := p50
  have q40 : TT! 50 = undef := p40
  GG! q50 q40
  have e40 : (drr4_ops[40]?.bind fun x => x.dst) = some 50 := rfl
  exact op_skipped hF ho rfl e40 q40 ⟨_, rfl, rfl, Below.refl _ _⟩
theorem drrD_s52 (H : HH!) (p46 : VV! 46 56) (p51 : VV! 51 61) (p40 : VV! 40 50) : SS! 52 62 := by
  GP! 52 drr4_o52
  have q46 : TT! 56 = undef := p46
  have q51 : TT! 61 = undef := p51
  have q40 : TT! 50 = undef := p40
  GG! q46 q51 q40
  have e40 : (drr4_ops[40]?.bind fun x => x.dst) = some 50 := rfl
  exact op_skipped hF ho rfl e40 q40 ⟨_, rfl, rfl, Below.refl _ _⟩
theorem drrD_s53 (H : HH!) (p40 : VV! 40 50) (p52 : VV! 52 62) (p37 : VV! 37 47) : SS! 53 63 := by
  GP! 53 drr4_o53
  have q40 : TT! 50 = undef := p40
  have q52 : TT! 62 = undef := p52
  have q37 : TT! 47 = .bool true := p37
  GG! q40 q52 q37
  GE! e37 g37 q37 37 47
  GF! drr4_o53
  GX!
theorem drrD_s54 (H : HH!) (p37 : VV! 37 47) (p53 : VV! 53 63) : SS! 54 64 := by
  GP! 54 drr4_o54
  have q37 : TT! 47 = .bool true := p37
  have q53 : TT! 63 = undef := p53
  GG! q37 q53
  GD! drr4_o54
  GX!
end
section
set_option hygiene false in
local macro "GY!" o:ident : tactic => `(tactic| (have e : o = $o := (Option.some.inj ho).symm; subst e))
set_option hygiene false in
local macro "hd!" k:num : term => `(hdeps { on := $k, ground := Ground.data } (by simp) rfl)
set_option hygiene false in
local macro "hg!" k:num : term => `(hdeps { on := $k, ground := Ground.guard } (by simp) rfl)

set_option maxRecDepth 100000 in
set_option maxHeartbeats 4000000 in
theorem drrD {Fc : Fence} (hF : Wide Fc) {nC : Nat} (gD oD n cD i jp : Nat) (d : DT) (P PQ : List UInt8) (Q : Exit → Act → World → Prop) (t0 : Array Value) (df : List Deferred) (w0 : World) (ht : t0.size = 68)
    (hs0 : t0.getD 0 undef = .slice (some ⟨gD, oD, none⟩) n cD) (hs3 : t0.getD 3 undef = .int .i64 (i : Nat))
    (hi : i < n) (hn : n ≤ 140737488351232) (d0 : w0.cell? ⟨gD, oD + i * 4, none⟩ = some (by8 P)) (hp : P.length ≤ 1000000) (hr : rightP P = true) (d1 : w0.cell? ⟨gD, oD + i * 4 + 1, none⟩ = some (by8 d.L)) (h2 : (!(d.L == ofL P)) = true)
    (hQ : ∀ (vs : Nat → Value) (w : World), Below w0.heap.size w0 w → (vs 64 = .bool true) → Q .normal { tmps := [10, 11, 12, 13, 14, 15, 16, 17, 18, 19, 20, 21, 22, 23, 24, 25, 26, 27, 28, 29, 30, 31, 32, 33, 34, 35, 36, 37, 38, 39, 40, 41, 42, 43, 44, 45, 46, 47, 48, 49, 50, 51, 52, 53, 54, 55, 56, 57, 58, 59, 60, 61, 62, 63, 64].foldl (fun y d => y.setIfInBounds d (vs d)) t0, defers := df } w) :
    (Code.region 4 drr4_ops true).wpIn Fc nC Tryz.prog Q { tmps := t0, defers := df } w0 := by
  refine wpIn_region_tail 55 (by decide) (by kernel_rfl) (fun a b => Below a.heap.size a b) (drrD_val gD oD n cD i jp d P PQ) t0 df w0 (by rw [ht]; kernel_rfl) (by kernel_rfl) (by kernel_rfl) (by kernel_rfl) ((Below.refl _ _).drew) (fun _ _ _ h k => h.trans (k.mono h.size)) (drrD_below gD oD n cD i jp d P PQ) ?_ ?_
  · intro j o ho hj x w hB hdef hsz hs hdeps
    have hs' : ∀ s, ¬ drr4_mem s → x.tmps.getD s undef = t0.getD s undef := fun s hn => hs s (fun j hj e => hn (by rw [e]; exact drr4_slots j hj))
    have u0 := (hs' 0 (by decide)).trans hs0
    have u3 := (hs' 3 (by decide)).trans hs3
    have H : drrD_H Fc gD oD n cD i jp d P PQ df w0 x w := ⟨hF, hi, hn, d0, hp, hr, d1, h2, hB, hdef, u0, u3⟩
    match j, ho, hj with
    | 0, ho, _ =>
      GY! drr4_o0
      exact drrD_s0 H 
    | 1, ho, _ =>
      GY! drr4_o1
      exact drrD_s1 H 
    | 2, ho, _ =>
      GY! drr4_o2
      exact drrD_s2 H (hd! 0) (hd! 1)
    | 3, ho, _ =>
      GY! drr4_o3
      exact drrD_s3 H (hd! 2)
    | 4, ho, _ =>
      GY! drr4_o4
      exact drrD_s4 H (hd! 3)
    | 5, ho, _ =>
      GY! drr4_o5
      exact drrD_s5 H (hd! 4)
    | 6, ho, _ =>
      GY! drr4_o6
      exact drrD_s6 H (hd! 5)
    | 7, ho, _ =>
      GY! drr4_o7
      exact drrD_s7 H (hd! 6)
    | 8, ho, _ =>
      GY! drr4_o8
      exact drrD_s8 H (hg! 7)
    | 9, ho, _ =>
      GY! drr4_o9
      exact drrD_s9 H (hg! 7)
    | 10, ho, _ =>
      GY! drr4_o10
      exact drrD_s10 H (hd! 8) (hd! 9) (hg! 7)
    | 11, ho, _ =>
      GY! drr4_o11
      exact drrD_s11 H (hd! 10) (hg! 7)
    | 12, ho, _ =>
      GY! drr4_o12
      exact drrD_s12 H (hd! 11) (hg! 7)
    | 13, ho, _ =>
      GY! drr4_o13
      exact drrD_s13 H (hg! 7)
    | 14, ho, _ =>
      GY! drr4_o14
      exact drrD_s14 H (hg! 7)
    | 15, ho, _ =>
      GY! drr4_o15
      exact drrD_s15 H (hd! 13) (hd! 14) (hg! 7)
    | 16, ho, _ =>
      GY! drr4_o16
      exact drrD_s16 H (hd! 15) (hg! 7)
    | 17, ho, _ =>
      GY! drr4_o17
      exact drrD_s17 H (hd! 16) (hg! 7)
    | 18, ho, _ =>
      GY! drr4_o18
      exact drrD_s18 H (hd! 17) (hg! 7)
    | 19, ho, _ =>
      GY! drr4_o19
      exact drrD_s19 H (hd! 12) (hd! 18) (hg! 7)
    | 20, ho, _ =>
      GY! drr4_o20
      exact drrD_s20 H (hd! 7) (hd! 19)
    | 21, ho, _ =>
      GY! drr4_o21
      exact drrD_s21 H (hd! 20)
    | 22, ho, _ =>
      GY! drr4_o22
      exact drrD_s22 H (hg! 21)
    | 23, ho, _ =>
      GY! drr4_o23
      exact drrD_s23 H (hg! 21)
    | 24, ho, _ =>
      GY! drr4_o24
      exact drrD_s24 H (hd! 22) (hd! 23) (hg! 21)
    | 25, ho, _ =>
      GY! drr4_o25
      exact drrD_s25 H (hd! 24) (hg! 21)
    | 26, ho, _ =>
      GY! drr4_o26
      exact drrD_s26 H (hd! 25) (hg! 21)
    | 27, ho, _ =>
      GY! drr4_o27
      exact drrD_s27 H (hd! 26) (hg! 21)
    | 28, ho, _ =>
      GY! drr4_o28
      exact drrD_s28 H (hd! 21) (hd! 27)
    | 29, ho, _ =>
      GY! drr4_o29
      exact drrD_s29 H (hd! 28)
    | 30, ho, _ =>
      GY! drr4_o30
      exact drrD_s30 H (hg! 29)
    | 31, ho, _ =>
      GY! drr4_o31
      exact drrD_s31 H (hg! 29)
    | 32, ho, _ =>
      GY! drr4_o32
      exact drrD_s32 H (hd! 30) (hd! 31) (hg! 29)
    | 33, ho, _ =>
      GY! drr4_o33
      exact drrD_s33 H (hd! 32) (hg! 29)
    | 34, ho, _ =>
      GY! drr4_o34
      exact drrD_s34 H (hd! 33) (hg! 29)
    | 35, ho, _ =>
      GY! drr4_o35
      exact drrD_s35 H (hd! 34) (hg! 29)
    | 36, ho, _ =>
      GY! drr4_o36
      exact drrD_s36 H (hd! 29) (hd! 35)
    | 37, ho, _ =>
      GY! drr4_o37
      exact drrD_s37 H (hd! 36)
    | 38, ho, _ =>
      GY! drr4_o38
      exact drrD_s38 H (hg! 37)
    | 39, ho, _ =>
      GY! drr4_o39
      exact drrD_s39 H (hd! 38) (hg! 37)
    | 40, ho, _ =>
      GY! drr4_o40
      exact drrD_s40 H (hd! 39) (hg! 37)
    | 41, ho, _ =>
      GY! drr4_o41
      exact drrD_s41 H (hg! 40)
    | 42, ho, _ =>
      GY! drr4_o42
      exact drrD_s42 H (hg! 40)
    | 43, ho, _ =>
      GY! drr4_o43
      exact drrD_s43 H (hd! 42) (hg! 40)
    | 44, ho, _ =>
      GY! drr4_o44
      exact drrD_s44 H (hd! 41) (hd! 43) (hg! 40)
    | 45, ho, _ =>
      GY! drr4_o45
      exact drrD_s45 H (hd! 44) (hg! 40)
    | 46, ho, _ =>
      GY! drr4_o46
      exact drrD_s46 H (hd! 45) (hg! 40)
    | 47, ho, _ =>
      GY! drr4_o47
      exact drrD_s47 H (hg! 40)
    | 48, ho, _ =>
      GY! drr4_o48
      exact drrD_s48 H (hg! 40)
    | 49, ho, _ =>
      GY! drr4_o49
      exact drrD_s49 H (hd! 47) (hd! 48) (hg! 40)
    | 50, ho, _ =>
      GY! drr4_o50
      exact drrD_s50 H (hd! 49) (hg! 40)
    | 51, ho, _ =>
      GY! drr4_o51
      exact drrD_s51 H (hd! 50) (hg! 40)
    | 52, ho, _ =>
      GY! drr4_o52
      exact drrD_s52 H (hd! 46) (hd! 51) (hg! 40)
    | 53, ho, _ =>
      GY! drr4_o53
      exact drrD_s53 H (hd! 40) (hd! 52) (hg! 37)
    | 54, ho, _ =>
      GY! drr4_o54
      exact drrD_s54 H (hd! 37) (hd! 53)
    | k + 55, _, hj => omega
  · intro x w hB hdef hsz hs hv
    have hx := frame_sets x.tmps t0 hsz [10, 11, 12, 13, 14, 15, 16, 17, 18, 19, 20, 21, 22, 23, 24, 25, 26, 27, 28, 29, 30, 31, 32, 33, 34, 35, 36, 37, 38, 39, 40, 41, 42, 43, 44, 45, 46, 47, 48, 49, 50, 51, 52, 53, 54, 55, 56, 57, 58, 59, 60, 61, 62, 63, 64] (fun s hn => hs s (fun j hj e => hn (by rw [e]; exact drr4_slots j hj)))
    have hq := hQ (fun d => x.tmps.getD d undef) w hB (hv 54 (by decide))
    obtain ⟨T, Df⟩ := x
    dsimp only at hx hdef hq
    subst hdef
    rw [← hx] at hq
    exact hq
end
def drrE_val (gD oD n cD i jp : Nat) (d : DT) (P PQ : List UInt8) : Nat → Value → World → Prop
  | 0, v, w => v = .slice (some ⟨gD, oD, none⟩) n cD
  | 1, v, w => v = .int .i64 (i : Nat)
  | 2, v, w => v = .pointer (some ⟨gD, oD + i * 4, none⟩)
  | 3, v, w => v = .pointer (some ⟨gD, oD + i * 4, none⟩)
  | 4, v, w => v = by8 P
  | 5, v, w => v = .bool true
  | 6, v, w => v = .bool false
  | 7, v, w => v = .bool false
  | 8, v, w => v = .slice (some ⟨gD, oD, none⟩) n cD
  | 9, v, w => v = .int .i64 (i : Nat)
  | 10, v, w => v = .pointer (some ⟨gD, oD + i * 4, none⟩)
  | 11, v, w => v = .pointer (some ⟨gD, oD + i * 4 + 1, none⟩)
  | 12, v, w => v = by8 d.L
  | 13, v, w => v = .slice (some ⟨gD, oD, none⟩) n cD
  | 14, v, w => v = .int .i64 (i : Nat)
  | 15, v, w => v = .pointer (some ⟨gD, oD + i * 4, none⟩)
  | 16, v, w => v = .pointer (some ⟨gD, oD + i * 4, none⟩)
  | 17, v, w => v = by8 P
  | 18, v, w => v = by8 (ofL P)
  | 19, v, w => v = .bool false
  | 20, v, w => v = .bool false
  | 21, v, w => v = .bool false
  | 22, v, w => v = .slice (some ⟨gD, oD, none⟩) n cD
  | 23, v, w => v = .int .i64 (i : Nat)
  | 24, v, w => v = .pointer (some ⟨gD, oD + i * 4, none⟩)
  | 25, v, w => v = .pointer (some ⟨gD, oD + i * 4 + 3, none⟩)
  | 26, v, w => v = .int .i64 d.Z
  | 27, v, w => v = .bool true
  | 28, v, w => v = .bool true
  | 29, v, w => v = .bool true
  | 30, v, w => v = undef
  | 31, v, w => v = undef
  | 32, v, w => v = undef
  | 33, v, w => v = undef
  | 34, v, w => v = undef
  | 35, v, w => v = undef
  | 36, v, w => v = .bool true
  | 37, v, w => v = .bool true
  | 38, v, w => v = undef
  | 39, v, w => v = undef
  | 40, v, w => v = undef
  | 41, v, w => v = undef
  | 42, v, w => v = undef
  | 43, v, w => v = undef
  | 44, v, w => v = undef
  | 45, v, w => v = undef
  | 46, v, w => v = undef
  | 47, v, w => v = undef
  | 48, v, w => v = undef
  | 49, v, w => v = undef
  | 50, v, w => v = undef
  | 51, v, w => v = undef
  | 52, v, w => v = undef
  | 53, v, w => v = undef
  | 54, v, w => v = .bool true
  | _, _, _ => True
theorem drrE_below (gD oD n cD i jp : Nat) (d : DT) (P PQ : List UInt8) (w w' : World) (hb : Below w.heap.size w w') : ∀ j v, drrE_val gD oD n cD i jp d P PQ j v w → drrE_val gD oD n cD i jp d P PQ j v w' := by
  intro j v h
  match j, h with
  | 0, h => exact h
  | 1, h => exact h
  | 2, h => exact h
  | 3, h => exact h
  | 4, h => exact h
  | 5, h => exact h
  | 6, h => exact h
  | 7, h => exact h
  | 8, h => exact h
  | 9, h => exact h
  | 10, h => exact h
  | 11, h => exact h
  | 12, h => exact h
  | 13, h => exact h
  | 14, h => exact h
  | 15, h => exact h
  | 16, h => exact h
  | 17, h => exact h
  | 18, h => exact h
  | 19, h => exact h
  | 20, h => exact h
  | 21, h => exact h
  | 22, h => exact h
  | 23, h => exact h
  | 24, h => exact h
  | 25, h => exact h
  | 26, h => exact h
  | 27, h => exact h
  | 28, h => exact h
  | 29, h => exact h
  | 30, h => exact h
  | 31, h => exact h
  | 32, h => exact h
  | 33, h => exact h
  | 34, h => exact h
  | 35, h => exact h
  | 36, h => exact h
  | 37, h => exact h
  | 38, h => exact h
  | 39, h => exact h
  | 40, h => exact h
  | 41, h => exact h
  | 42, h => exact h
  | 43, h => exact h
  | 44, h => exact h
  | 45, h => exact h
  | 46, h => exact h
  | 47, h => exact h
  | 48, h => exact h
  | 49, h => exact h
  | 50, h => exact h
  | 51, h => exact h
  | 52, h => exact h
  | 53, h => exact h
  | 54, h => exact h
  | _ + 55, h => exact h
def drrE_H (Fc : Fence) (gD oD n cD i jp : Nat) (d : DT) (P PQ : List UInt8) (df : List Deferred) (w0 : World) (x : Act) (w : World) : Prop :=
  (Wide Fc) ∧ (i < n) ∧ (n ≤ 140737488351232) ∧ (w0.cell? ⟨gD, oD + i * 4, none⟩ = some (by8 P)) ∧ (P.length ≤ 1000000) ∧ (rightP P = true) ∧ (w0.cell? ⟨gD, oD + i * 4 + 1, none⟩ = some (by8 d.L)) ∧ ((!(d.L == ofL P)) = false) ∧ (w0.cell? ⟨gD, oD + i * 4 + 3, none⟩ = some (.int .i64 d.Z)) ∧ (decide (d.Z < 0) = true) ∧ (Below w0.heap.size w0 w) ∧ (x.defers = df) ∧ (x.tmps.getD 0 undef = .slice (some ⟨gD, oD, none⟩) n cD) ∧ (x.tmps.getD 3 undef = .int .i64 (i : Nat))
section
set_option maxRecDepth 100000
set_option maxHeartbeats 2000000
variable {Fc : Fence} {nC : Nat} {gD oD n cD i jp : Nat} {d : DT} {P PQ : List UInt8} {Q : Exit → Act → World → Prop} {df : List Deferred} {w0 : World} {x : Act} {w : World}
local notation "HH!" => drrE_H Fc gD oD n cD i jp d P PQ df w0 x w
local notation "VV!" j:max s:max => drrE_val gD oD n cD i jp d P PQ j (x.tmps.getD s undef) w
local notation "TT!" s:max => Array.getD (Act.tmps x) s undef
local notation "SS!" j:max s:max => Stp Fc nC Tryz.prog drr4_ops Q j s (drrE_val gD oD n cD i jp d P PQ j) x w
set_option hygiene false in
local macro "GP!" j:num o:ident : tactic => `(tactic| (obtain ⟨hF, hi, hn, d0, hp, hr, d1, h2, d3, h3, hB, hdef, u0, u3⟩ := H; have ho : drr4_ops[$j]? = some $o := rfl; simp only [Array.getD_eq_getD_getElem?] at u0 u3))
local macro "GG!" hs:(colGt ident)+ : tactic => `(tactic| simp only [Array.getD_eq_getD_getElem?] at $[$hs:ident]*)
set_option hygiene false in
local macro "GE!" e:ident g:ident q:ident k:num s:num : tactic => `(tactic| (have $e : (drr4_ops[$k]?.bind fun x => x.dst) = some $s := rfl; have $g := get_someT $q (fun h => by cases h)))
set_option hygiene false in
local macro "GF!" o:ident : tactic => `(tactic| (refine wpOpIn_stepT hF ho (fun K hK => ?_); clear ho; rw [Oper.semAt_plain Fc _ _ (by intro c h; cases h)]; simp only [$o:ident]; go_simp))
set_option hygiene false in
local macro "GD!" o:ident : tactic => `(tactic| (refine wpOpIn_plain ho rfl (oper_inK hF.fn (fun K hK => ?_)); clear ho; rw [Oper.semAt_plain Fc _ _ (by intro c h; cases h)]; simp only [$o:ident]; go_simp))
set_option hygiene false in
local macro "GX!" : tactic => `(tactic| exact hK _ _ ⟨_, act_putD x hdef _ _, rfl, Below.refl _ _⟩)
theorem drrE_s0 (H : HH!) : SS! 0 10 := by
  GP! 0 drr4_o0
  GD! drr4_o0
  GX!
theorem drrE_s1 (H : HH!) : SS! 1 11 := by
  GP! 1 drr4_o1
  GD! drr4_o1
  GX!
theorem drrE_s2 (H : HH!) (p0 : VV! 0 10) (p1 : VV! 1 11) : SS! 2 12 := by
  GP! 2 drr4_o2
  have q0 : TT! 10 = .slice (some ⟨gD, oD, none⟩) n cD := p0
  have q1 : TT! 11 = .int .i64 (i : Nat) := p1
  GG! q0 q1
  have i0 : (0 : Int) ≤ (i : Int) := by omega
  have i1 : (i : Int) < (n : Int) := by omega
  GD! drr4_o2
  GX!
theorem drrE_s3 (H : HH!) (p2 : VV! 2 12) : SS! 3 13 := by
  GP! 3 drr4_o3
  have q2 : TT! 12 = .pointer (some ⟨gD, oD + i * 4, none⟩) := p2
  GG! q2
  GD! drr4_o3
  GX!
theorem drrE_s4 (H : HH!) (p3 : VV! 3 13) : SS! 4 14 := by
  GP! 4 drr4_o4
  have q3 : TT! 13 = .pointer (some ⟨gD, oD + i * 4, none⟩) := p3
  GG! q3
  have m := cell_thru d0 hB
  GD! drr4_o4
  GX!
theorem drrE_s5 (H : HH!) (p4 : VV! 4 14) : SS! 5 15 := by
  GP! 5 drr4_o5
  have q4 : TT! 14 = by8 P := p4
  GG! q4
  GD! drr4_o5
  refine ⟨hF.deep, (hF.call (refRight_any P w hp)).mono ?_⟩
  rintro e w' ⟨rfl, hb⟩
  exact hK _ _ ⟨_, act_putD x hdef _ _, by rw [hr]; exact rfl, hb⟩
theorem drrE_s6 (H : HH!) (p5 : VV! 5 15) : SS! 6 16 := by
  GP! 6 drr4_o6
  have q5 : TT! 15 = .bool true := p5
  GG! q5
  GD! drr4_o6
  GX!
theorem drrE_s7 (H : HH!) (p6 : VV! 6 16) : SS! 7 17 := by
  GP! 7 drr4_o7
  have q6 : TT! 16 = .bool false := p6
  GG! q6
  GD! drr4_o7
  GX!
theorem drrE_s8 (H : HH!) (p7 : VV! 7 17) : SS! 8 18 := by
  GP! 8 drr4_o8
  have q7 : TT! 17 = .bool false := p7
  GG! q7
  GE! e7 g7 q7 7 17
  GF! drr4_o8
  GX!
theorem drrE_s9 (H : HH!) (p7 : VV! 7 17) : SS! 9 19 := by
  GP! 9 drr4_o9
  have q7 : TT! 17 = .bool false := p7
  GG! q7
  GE! e7 g7 q7 7 17
  GF! drr4_o9
  GX!
theorem drrE_s10 (H : HH!) (p8 : VV! 8 18) (p9 : VV! 9 19) (p7 : VV! 7 17) : SS! 10 20 := by
  GP! 10 drr4_o10
  have q8 : TT! 18 = .slice (some ⟨gD, oD, none⟩) n cD := p8
  have q9 : TT! 19 = .int .i64 (i : Nat) := p9
  have q7 : TT! 17 = .bool false := p7
  GG! q8 q9 q7
  GE! e7 g7 q7 7 17
  have i0 : (0 : Int) ≤ (i : Int) := by omega
  have i1 : (i : Int) < (n : Int) := by omega
  GF! drr4_o10
  GX!
theorem drrE_s11 (H : HH!) (p10 : VV! 10 20) (p7 : VV! 7 17) : SS! 11 21 := by
  GP! 11 drr4_o11
  have q10 : TT! 20 = .pointer (some ⟨gD, oD + i * 4, none⟩) := p10
  have q7 : TT! 17 = .bool false := p7
  GG! q10 q7
  GE! e7 g7 q7 7 17
  GF! drr4_o11
  GX!
theorem drrE_s12 (H : HH!) (p11 : VV! 11 21) (p7 : VV! 7 17) : SS! 12 22 := by
  GP! 12 drr4_o12
  have q11 : TT! 21 = .pointer (some ⟨gD, oD + i * 4 + 1, none⟩) := p11
  have q7 : TT! 17 = .bool false := p7
  GG! q11 q7
  GE! e7 g7 q7 7 17
  have m := cell_thru d1 hB
  GF! drr4_o12
  GX!
theorem drrE_s13 (H : HH!) (p7 : VV! 7 17) : SS! 13 23 := by
  GP! 13 drr4_o13
  have q7 : TT! 17 = .bool false := p7
  GG! q7
  GE! e7 g7 q7 7 17
  GF! drr4_o13
  GX!
theorem drrE_s14 (H : HH!) (p7 : VV! 7 17) : SS! 14 24 := by
  GP! 14 drr4_o14
  have q7 : TT! 17 = .bool false := p7
  GG! q7
  GE! e7 g7 q7 7 17
  GF! drr4_o14
  GX!
theorem drrE_s15 (H : HH!) (p13 : VV! 13 23) (p14 : VV! 14 24) (p7 : VV! 7 17) : SS! 15 25 := by
  GP! 15 drr4_o15
  have q13 : TT! 23 = .slice (some ⟨gD, oD, none⟩) n cD := p13
  have q14 : TT! 24 = .int .i64 (i : Nat) := p14
  have q7 : TT! 17 = .bool false := p7
  GG! q13 q14 q7
  GE! e7 g7 q7 7 17
  have i0 : (0 : Int) ≤ (i : Int) := by omega
  have i1 : (i : Int) < (n : Int) := by omega
  GF! drr4_o15
  GX!
theorem drrE_s16 (H : HH!) (p15 : VV! 15 25) (p7 : VV! 7 17) : SS! 16 26 := by
  GP! 16 drr4_o16
  have q15 : TT! 25 = .pointer (some ⟨gD, oD + i * 4, none⟩) := p15
  have q7 : TT! 17 = .bool false := p7
  GG! q15 q7
  GE! e7 g7 q7 7 17
  GF! drr4_o16
  GX!
theorem drrE_s17 (H : HH!) (p16 : VV! 16 26) (p7 : VV! 7 17) : SS! 17 27 := by
  GP! 17 drr4_o17
  have q16 : TT! 26 = .pointer (some ⟨gD, oD + i * 4, none⟩) := p16
  have q7 : TT! 17 = .bool false := p7
  GG! q16 q7
  GE! e7 g7 q7 7 17
  have m := cell_thru d0 hB
  GF! drr4_o17
  GX!
theorem drrE_s18 (H : HH!) (p17 : VV! 17 27) (p7 : VV! 7 17) : SS! 18 28 := by
  GP! 18 drr4_o18
  have q17 : TT! 27 = by8 P := p17
  have q7 : TT! 17 = .bool false := p7
  GG! q17 q7
  GE! e7 g7 q7 7 17
  GF! drr4_o18
  refine ⟨hF.deep, (hF.call (refOf_any P w hp)).mono ?_⟩
  rintro e w' ⟨rfl, hb⟩
  exact hK _ _ ⟨_, act_putD x hdef _ _, rfl, hb⟩
theorem drrE_s19 (H : HH!) (p12 : VV! 12 22) (p18 : VV! 18 28) (p7 : VV! 7 17) : SS! 19 29 := by
  GP! 19 drr4_o19
  have q12 : TT! 22 = by8 d.L := p12
  have q18 : TT! 28 = by8 (ofL P) := p18
  have q7 : TT! 17 = .bool false := p7
  GG! q12 q18 q7
  GE! e7 g7 q7 7 17
  have m := h2
  unfold by8 at q12 q18
  GF! drr4_o19
  GX!
theorem drrE_s20 (H : HH!) (p7 : VV! 7 17) (p19 : VV! 19 29) : SS! 20 30 := by
  GP! 20 drr4_o20
  have q7 : TT! 17 = .bool false := p7
  have q19 : TT! 29 = .bool false := p19
  GG! q7 q19
  GD! drr4_o20
  GX!
theorem drrE_s21 (H : HH!) (p20 : VV! 20 30) : SS! 21 31 := by
  GP! 21 drr4_o21
  have q20 : TT! 30 = .bool false := p20
  GG! q20
  GD! drr4_o21
  GX!
theorem drrE_s22 (H : HH!) (p21 : VV! 21 31) : SS! 22 32 := by
  GP! 22 drr4_o22
  have q21 : TT! 31 = .bool false := p21
  GG! q21
  GE! e21 g21 q21 21 31
  GF! drr4_o22
  GX!
theorem drrE_s23 (H : HH!) (p21 : VV! 21 31) : SS! 23 33 := by
  GP! 23 drr4_o23
  have q21 : TT! 31 = .bool false := p21
  GG! q21
  GE! e21 g21 q21 21 31
  GF! drr4_o23
  GX!
theorem drrE_s24 (H : HH!) (p22 : VV! 22 32) (p23 : VV! 23 33) (p21 : VV! 21 31) : SS! 24 34 := by
  GP! 24 drr4_o24
  have q22 : TT! 32 = .slice (some ⟨gD, oD, none⟩) n cD := p22
  have q23 : TT! 33 = .int .i64 (i : Nat) := p23
  have q21 : TT! 31 = .bool false := p21
  GG! q22 q23 q21
  GE! e21 g21 q21 21 31
  have i0 : (0 : Int) ≤ (i : Int) := by omega
  have i1 : (i : Int) < (n : Int) := by omega
  GF! drr4_o24
  GX!
theorem drrE_s25 (H : HH!) (p24 : VV! 24 34) (p21 : VV! 21 31) : SS! 25 35 := by
  GP! 25 drr4_o25
  have q24 : TT! 34 = .pointer (some ⟨gD, oD + i * 4, none⟩) := p24
  have q21 : TT! 31 = .bool false := p21
  GG! q24 q21
  GE! e21 g21 q21 21 31
  GF! drr4_o25
  GX!
theorem drrE_s26 (H : HH!) (p25 : VV! 25 35) (p21 : VV! 21 31) : SS! 26 36 := by
  GP! 26 drr4_o26
  have q25 : TT! 35 = .pointer (some ⟨gD, oD + i * 4 + 3, none⟩) := p25
  have q21 : TT! 31 = .bool false := p21
  GG! q25 q21
  GE! e21 g21 q21 21 31
  have m := cell_thru d3 hB
  GF! drr4_o26
  GX!
theorem drrE_s27 (H : HH!) (p26 : VV! 26 36) (p21 : VV! 21 31) : SS! 27 37 := by
  GP! 27 drr4_o27
  have q26 : TT! 36 = .int .i64 d.Z := p26
  have q21 : TT! 31 = .bool false := p21
  GG! q26 q21
  GE! e21 g21 q21 21 31
  have m := h3
  GF! drr4_o27
  GX!
theorem drrE_s28 (H : HH!) (p21 : VV! 21 31) (p27 : VV! 27 37) : SS! 28 38 := by
  GP! 28 drr4_o28
  have q21 : TT! 31 = .bool false := p21
  have q27 : TT! 37 = .bool true := p27
  GG! q21 q27
  GD! drr4_o28
  GX!
theorem drrE_s29 (H : HH!) (p28 : VV! 28 38) : SS! 29 39 := by
  GP! 29 drr4_o29
  have q28 : TT! 38 = .bool true := p28
  GG! q28
  GD! drr4_o29
  GX!
theorem drrE_s30 (H : HH!) (p29 : VV! 29 39) : SS! 30 40 := by
  GP! 30 drr4_o30
  have q29 : TT! 39 = .bool true := p29
  GG! q29
  GE! e29 g29 q29 29 39
  GF! drr4_o30
  GX!
theorem drrE_s31 (H : HH!) (p29 : VV! 29 39) : SS! 31 41 := by
  GP! 31 drr4_o31
  have q29 : TT! 39 = .bool true := p29
  GG! q29
  GE! e29 g29 q29 29 39
  GF! drr4_o31
  GX!
theorem drrE_s32 (H : HH!) (p30 : VV! 30 40) (p31 : VV! 31 41) (p29 : VV! 29 39) : SS! 32 42 := by
  GP! 32 drr4_o32
  have q30 : TT! 40 = undef := p30
  have q31 : TT! 41 = undef := p31
  have q29 : TT! 39 = .bool true := p29
  GG! q30 q31 q29
  GE! e29 g29 q29 29 39
  GF! drr4_o32
  GX!
theorem drrE_s33 (H : HH!) (p32 : VV! 32 42) (p29 : VV! 29 39) : SS! 33 43 := by
  GP! 33 drr4_o33
  have q32 : TT! 42 = undef := p32
  have q29 : TT! 39 = .bool true := p29
  GG! q32 q29
  GE! e29 g29 q29 29 39
  GF! drr4_o33
  GX!
theorem drrE_s34 (H : HH!) (p33 : VV! 33 43) (p29 : VV! 29 39) : SS! 34 44 := by
  GP! 34 drr4_o34
  have q33 : TT! 43 = undef := p33
  have q29 : TT! 39 = .bool true := p29
  GG! q33 q29
  GE! e29 g29 q29 29 39
  GF! drr4_o34
  GX!
theorem drrE_s35 (H : HH!) (p34 : VV! 34 44) (p29 : VV! 29 39) : SS! 35 45 := by
  GP! 35 drr4_o35
  have q34 : TT! 44 = undef := p34
  have q29 : TT! 39 = .bool true := p29
  GG! q34 q29
  GE! e29 g29 q29 29 39
  GF! drr4_o35
  GX!
theorem drrE_s36 (H : HH!) (p29 : VV! 29 39) (p35 : VV! 35 45) : SS! 36 46 := by
  GP! 36 drr4_o36
  have q29 : TT! 39 = .bool true := p29
  have q35 : TT! 45 = undef := p35
  GG! q29 q35
  GD! drr4_o36
  GX!
theorem drrE_s37 (H : HH!) (p36 : VV! 36 46) : SS! 37 47 := by
  GP! 37 drr4_o37
  have q36 : TT! 46 = .bool true := p36
  GG! q36
  GD! drr4_o37
  GX!
theorem drrE_s38 (H : HH!) (p37 : VV! 37 47) : SS! 38 48 := by
  GP! 38 drr4_o38
  have q37 : TT! 47 = .bool true := p37
  GG! q37
  GE! e37 g37 q37 37 47
  GF! drr4_o38
  GX!
theorem drrE_s39 (H : HH!) (p38 : VV! 38 48) (p37 : VV! 37 47) : SS! 39 49 := by
  GP! 39 drr4_o39
  have q38 : TT! 48 = undef := p38
  have q37 : TT! 47 = .bool true := p37
  GG! q38 q37
  GE! e37 g37 q37 37 47
  GF! drr4_o39
  GX!
theorem drrE_s40 (H : HH!) (p39 : VV! 39 49) (p37 : VV! 37 47) : SS! 40 50 := by
  GP! 40 drr4_o40
  have q39 : TT! 49 = undef := p39
  have q37 : TT! 47 = .bool true := p37
  GG! q39 q37
  GE! e37 g37 q37 37 47
  GF! drr4_o40
  GX!
theorem drrE_s41 (H : HH!) (p40 : VV! 40 50) : SS! 41 51 := by
  GP! 41 drr4_o41
  have q40 : TT! 50 = undef := p40
  GG! q40
  have e40 : (drr4_ops[40]?.bind fun x => x.dst) = some 50 := rfl
  exact op_skipped hF ho rfl e40 q40 ⟨_, rfl, rfl, Below.refl _ _⟩
theorem drrE_s42 (H : HH!) (p40 : VV! 40 50) : SS! 42 52 := by
  GP! 42 drr4_o42
  have q40 : TT! 50 = undef := p40
  GG! q40
  have e40 : (drr4_ops[40]?.bind fun x => x.dst) = some 50 := rfl
  exact op_skipped hF ho rfl e40 q40 ⟨_, rfl, rfl, Below.refl _ _⟩
theorem drrE_s43 (H : HH!) (p42 : VV! 42 52) (p40 : VV! 40 50) : SS! 43 53 := by
  GP! 43 drr4_o43
  have q42 : TT! 52 = undef := p42
  have q40 : TT! 50 = undef := p40
  GG! q42 q40
  have e40 : (drr4_ops[40]?.bind fun x => x.dst) = some 50 := rfl
  exact op_skipped hF ho rfl e40 q40 ⟨_, rfl, rfl, Below.refl _ _⟩
theorem drrE_s44 (H : HH!) (p41 : VV! 41 51) (p43 : VV! 43 53) (p40 : VV! 40 50) : SS! 44 54 := by
  GP! 44 drr4_o44
  have q41 : TT! 51 = undef := p41
  have q43 : TT! 53 = undef := p43
  have q40 : TT! 50 = undef := p40
  GG! q41 q43 q40
  have e40 : (drr4_ops[40]?.bind fun x => x.dst) = some 50 := rfl
  exact op_skipped hF ho rfl e40 q40 ⟨_, rfl, rfl, Below.refl _ _⟩
theorem drrE_s45 (H : HH!) (p44 : VV! 44 54) (p40 : VV! 40 50) : SS! 45 55 := by
  GP! 45 drr4_o45
  have q44 : TT! 54 = undef := p44
  have q40 : TT! 50 = undef := p40
  GG! q44 q40
  have e40 : (drr4_ops[40]?.bind fun x => x.dst) = some 50 := rfl
  exact op_skipped hF ho rfl e40 q40 ⟨_, rfl, rfl, Below.refl _ _⟩
theorem drrE_s46 (H : HH!) (p45 : VV! 45 55) (p40 : VV! 40 50) : SS! 46 56 := by
  GP! 46 drr4_o46
  have q45 : TT! 55 = undef := p45
  have q40 : TT! 50 = undef := p40
  GG! q45 q40
  have e40 : (drr4_ops[40]?.bind fun x => x.dst) = some 50 := rfl
  exact op_skipped hF ho rfl e40 q40 ⟨_, rfl, rfl, Below.refl _ _⟩
theorem drrE_s47 (H : HH!) (p40 : VV! 40 50) : SS! 47 57 := by
  GP! 47 drr4_o47
  have q40 : TT! 50 = undef := p40
  GG! q40
  have e40 : (drr4_ops[40]?.bind fun x => x.dst) = some 50 := rfl
  exact op_skipped hF ho rfl e40 q40 ⟨_, rfl, rfl, Below.refl _ _⟩
theorem drrE_s48 (H : HH!) (p40 : VV! 40 50) : SS! 48 58 := by
  GP! 48 drr4_o48
  have q40 : TT! 50 = undef := p40
  GG! q40
  have e40 : (drr4_ops[40]?.bind fun x => x.dst) = some 50 := rfl
  exact op_skipped hF ho rfl e40 q40 ⟨_, rfl, rfl, Below.refl _ _⟩
theorem drrE_s49 (H : HH!) (p47 : VV! 47 57) (p48 : VV! 48 58) (p40 : VV! 40 50) : SS! 49 59 := by
  GP! 49 drr4_o49
  have q47 : TT! 57 = undef := p47
  have q48 : TT! 58 = undef := p48
  have q40 : TT! 50 = undef := p40
  GG! q47 q48 q40
  have e40 : (drr4_ops[40]?.bind fun x => x.dst) = some 50 := rfl
  exact op_skipped hF ho rfl e40 q40 ⟨_, rfl, rfl, Below.refl _ _⟩
theorem drrE_s50 (H : HH!) (p49 : VV! 49 59) (p40 : VV! 40 50) : SS! 50 60 := by
  GP! 50 drr4_o50
  have q49 : TT! 59 = undef := p49
  have q40 : TT! 50 = undef := p40
  GG! q49 q40
  have e40 : (drr4_ops[40]?.bind fun x => x.dst) = some 50 := rfl
  exact op_skipped hF ho rfl e40 q40 ⟨_, rfl, rfl, Below.refl _ _⟩
theorem drrE_s51 (H : HH!) (p50 : VV! 50 60) (p40 : VV! 40 50) : SS! 51 61 := by
  GP! 51 drr4_o51
  have q50 : TT! 60 = undef := p50
  have q40 : TT! 50 = undef := p40
  GG! q50 q40
  have e40 : (drr4_ops[40]?.bind fun x => x.dst) = some 50 := rfl
  exact op_skipped hF ho rfl e40 q40 ⟨_, rfl, rfl, Below.refl _ _⟩
theorem drrE_s52 (H : HH!) (p46 : VV! 46 56) (p51 : VV! 51 61) (p40 : VV! 40 50) : SS! 52 62 := by
  GP! 52 drr4_o52
  have q46 : TT! 56 = undef := p46
  have q51 : TT! 61 = undef := p51
  have q40 : TT! 50 = undef := p40
  GG! q46 q51 q40
  have e40 : (drr4_ops[40]?.bind fun x => x.dst) = some 50 := rfl
  exact op_skipped hF ho rfl e40 q40 ⟨_, rfl, rfl, Below.refl _ _⟩
theorem drrE_s53 (H : HH!) (p40 : VV! 40 50) (p52 : VV! 52 62) (p37 : VV! 37 47) : SS! 53 63 := by
  GP! 53 drr4_o53
  have q40 : TT! 50 = undef := p40
  have q52 : TT! 62 = undef := p52
  have q37 : TT! 47 = .bool true := p37
  GG! q40 q52 q37
  GE! e37 g37 q37 37 47
  GF! drr4_o53
  GX!
theorem drrE_s54 (H : HH!) (p37 : VV! 37 47) (p53 : VV! 53 63) : SS! 54 64 := by
  GP! 54 drr4_o54
  have q37 : TT! 47 = .bool true := p37
  have q53 : TT! 63 = undef := p53
  GG! q37 q53
  GD! drr4_o54
  GX!
end
section
set_option hygiene false in
local macro "GY!" o:ident : tactic => `(tactic| (have e : o = $o := (Option.some.inj ho).symm; subst e))
set_option hygiene false in
local macro "hd!" k:num : term => `(hdeps { on := $k, ground := Ground.data } (by simp) rfl)
set_option hygiene false in
local macro "hg!" k:num : term => `(hdeps { on := $k, ground := Ground.guard } (by simp) rfl)

set_option maxRecDepth 100000 in
set_option maxHeartbeats 4000000 in
theorem drrE {Fc : Fence} (hF : Wide Fc) {nC : Nat} (gD oD n cD i jp : Nat) (d : DT) (P PQ : List UInt8) (Q : Exit → Act → World → Prop) (t0 : Array Value) (df : List Deferred) (w0 : World) (ht : t0.size = 68)
    (hs0 : t0.getD 0 undef = .slice (some ⟨gD, oD, none⟩) n cD) (hs3 : t0.getD 3 undef = .int .i64 (i : Nat))
    (hi : i < n) (hn : n ≤ 140737488351232) (d0 : w0.cell? ⟨gD, oD + i * 4, none⟩ = some (by8 P)) (hp : P.length ≤ 1000000) (hr : rightP P = true) (d1 : w0.cell? ⟨gD, oD + i * 4 + 1, none⟩ = some (by8 d.L)) (h2 : (!(d.L == ofL P)) = false) (d3 : w0.cell? ⟨gD, oD + i * 4 + 3, none⟩ = some (.int .i64 d.Z)) (h3 : decide (d.Z < 0) = true)
    (hQ : ∀ (vs : Nat → Value) (w : World), Below w0.heap.size w0 w → (vs 64 = .bool true) → Q .normal { tmps := [10, 11, 12, 13, 14, 15, 16, 17, 18, 19, 20, 21, 22, 23, 24, 25, 26, 27, 28, 29, 30, 31, 32, 33, 34, 35, 36, 37, 38, 39, 40, 41, 42, 43, 44, 45, 46, 47, 48, 49, 50, 51, 52, 53, 54, 55, 56, 57, 58, 59, 60, 61, 62, 63, 64].foldl (fun y d => y.setIfInBounds d (vs d)) t0, defers := df } w) :
    (Code.region 4 drr4_ops true).wpIn Fc nC Tryz.prog Q { tmps := t0, defers := df } w0 := by
  refine wpIn_region_tail 55 (by decide) (by kernel_rfl) (fun a b => Below a.heap.size a b) (drrE_val gD oD n cD i jp d P PQ) t0 df w0 (by rw [ht]; kernel_rfl) (by kernel_rfl) (by kernel_rfl) (by kernel_rfl) ((Below.refl _ _).drew) (fun _ _ _ h k => h.trans (k.mono h.size)) (drrE_below gD oD n cD i jp d P PQ) ?_ ?_
  · intro j o ho hj x w hB hdef hsz hs hdeps
    have hs' : ∀ s, ¬ drr4_mem s → x.tmps.getD s undef = t0.getD s undef := fun s hn => hs s (fun j hj e => hn (by rw [e]; exact drr4_slots j hj))
    have u0 := (hs' 0 (by decide)).trans hs0
    have u3 := (hs' 3 (by decide)).trans hs3
    have H : drrE_H Fc gD oD n cD i jp d P PQ df w0 x w := ⟨hF, hi, hn, d0, hp, hr, d1, h2, d3, h3, hB, hdef, u0, u3⟩
    match j, ho, hj with
    | 0, ho, _ =>
      GY! drr4_o0
      exact drrE_s0 H 
    | 1, ho, _ =>
      GY! drr4_o1
      exact drrE_s1 H 
    | 2, ho, _ =>
      GY! drr4_o2
      exact drrE_s2 H (hd! 0) (hd! 1)
    | 3, ho, _ =>
      GY! drr4_o3
      exact drrE_s3 H (hd! 2)
    | 4, ho, _ =>
      GY! drr4_o4
      exact drrE_s4 H (hd! 3)
    | 5, ho, _ =>
      GY! drr4_o5
      exact drrE_s5 H (hd! 4)
    | 6, ho, _ =>
      GY! drr4_o6
      exact drrE_s6 H (hd! 5)
    | 7, ho, _ =>
      GY! drr4_o7
      exact drrE_s7 H (hd! 6)
    | 8, ho, _ =>
      GY! drr4_o8
      exact drrE_s8 H (hg! 7)
    | 9, ho, _ =>
      GY! drr4_o9
      exact drrE_s9 H (hg! 7)
    | 10, ho, _ =>
      GY! drr4_o10
      exact drrE_s10 H (hd! 8) (hd! 9) (hg! 7)
    | 11, ho, _ =>
      GY! drr4_o11
      exact drrE_s11 H (hd! 10) (hg! 7)
    | 12, ho, _ =>
      GY! drr4_o12
      exact drrE_s12 H (hd! 11) (hg! 7)
    | 13, ho, _ =>
      GY! drr4_o13
      exact drrE_s13 H (hg! 7)
    | 14, ho, _ =>
      GY! drr4_o14
      exact drrE_s14 H (hg! 7)
    | 15, ho, _ =>
      GY! drr4_o15
      exact drrE_s15 H (hd! 13) (hd! 14) (hg! 7)
    | 16, ho, _ =>
      GY! drr4_o16
      exact drrE_s16 H (hd! 15) (hg! 7)
    | 17, ho, _ =>
      GY! drr4_o17
      exact drrE_s17 H (hd! 16) (hg! 7)
    | 18, ho, _ =>
      GY! drr4_o18
      exact drrE_s18 H (hd! 17) (hg! 7)
    | 19, ho, _ =>
      GY! drr4_o19
      exact drrE_s19 H (hd! 12) (hd! 18) (hg! 7)
    | 20, ho, _ =>
      GY! drr4_o20
      exact drrE_s20 H (hd! 7) (hd! 19)
    | 21, ho, _ =>
      GY! drr4_o21
      exact drrE_s21 H (hd! 20)
    | 22, ho, _ =>
      GY! drr4_o22
      exact drrE_s22 H (hg! 21)
    | 23, ho, _ =>
      GY! drr4_o23
      exact drrE_s23 H (hg! 21)
    | 24, ho, _ =>
      GY! drr4_o24
      exact drrE_s24 H (hd! 22) (hd! 23) (hg! 21)
    | 25, ho, _ =>
      GY! drr4_o25
      exact drrE_s25 H (hd! 24) (hg! 21)
    | 26, ho, _ =>
      GY! drr4_o26
      exact drrE_s26 H (hd! 25) (hg! 21)
    | 27, ho, _ =>
      GY! drr4_o27
      exact drrE_s27 H (hd! 26) (hg! 21)
    | 28, ho, _ =>
      GY! drr4_o28
      exact drrE_s28 H (hd! 21) (hd! 27)
    | 29, ho, _ =>
      GY! drr4_o29
      exact drrE_s29 H (hd! 28)
    | 30, ho, _ =>
      GY! drr4_o30
      exact drrE_s30 H (hg! 29)
    | 31, ho, _ =>
      GY! drr4_o31
      exact drrE_s31 H (hg! 29)
    | 32, ho, _ =>
      GY! drr4_o32
      exact drrE_s32 H (hd! 30) (hd! 31) (hg! 29)
    | 33, ho, _ =>
      GY! drr4_o33
      exact drrE_s33 H (hd! 32) (hg! 29)
    | 34, ho, _ =>
      GY! drr4_o34
      exact drrE_s34 H (hd! 33) (hg! 29)
    | 35, ho, _ =>
      GY! drr4_o35
      exact drrE_s35 H (hd! 34) (hg! 29)
    | 36, ho, _ =>
      GY! drr4_o36
      exact drrE_s36 H (hd! 29) (hd! 35)
    | 37, ho, _ =>
      GY! drr4_o37
      exact drrE_s37 H (hd! 36)
    | 38, ho, _ =>
      GY! drr4_o38
      exact drrE_s38 H (hg! 37)
    | 39, ho, _ =>
      GY! drr4_o39
      exact drrE_s39 H (hd! 38) (hg! 37)
    | 40, ho, _ =>
      GY! drr4_o40
      exact drrE_s40 H (hd! 39) (hg! 37)
    | 41, ho, _ =>
      GY! drr4_o41
      exact drrE_s41 H (hg! 40)
    | 42, ho, _ =>
      GY! drr4_o42
      exact drrE_s42 H (hg! 40)
    | 43, ho, _ =>
      GY! drr4_o43
      exact drrE_s43 H (hd! 42) (hg! 40)
    | 44, ho, _ =>
      GY! drr4_o44
      exact drrE_s44 H (hd! 41) (hd! 43) (hg! 40)
    | 45, ho, _ =>
      GY! drr4_o45
      exact drrE_s45 H (hd! 44) (hg! 40)
    | 46, ho, _ =>
      GY! drr4_o46
      exact drrE_s46 H (hd! 45) (hg! 40)
    | 47, ho, _ =>
      GY! drr4_o47
      exact drrE_s47 H (hg! 40)
    | 48, ho, _ =>
      GY! drr4_o48
      exact drrE_s48 H (hg! 40)
    | 49, ho, _ =>
      GY! drr4_o49
      exact drrE_s49 H (hd! 47) (hd! 48) (hg! 40)
    | 50, ho, _ =>
      GY! drr4_o50
      exact drrE_s50 H (hd! 49) (hg! 40)
    | 51, ho, _ =>
      GY! drr4_o51
      exact drrE_s51 H (hd! 50) (hg! 40)
    | 52, ho, _ =>
      GY! drr4_o52
      exact drrE_s52 H (hd! 46) (hd! 51) (hg! 40)
    | 53, ho, _ =>
      GY! drr4_o53
      exact drrE_s53 H (hd! 40) (hd! 52) (hg! 37)
    | 54, ho, _ =>
      GY! drr4_o54
      exact drrE_s54 H (hd! 37) (hd! 53)
    | k + 55, _, hj => omega
  · intro x w hB hdef hsz hs hv
    have hx := frame_sets x.tmps t0 hsz [10, 11, 12, 13, 14, 15, 16, 17, 18, 19, 20, 21, 22, 23, 24, 25, 26, 27, 28, 29, 30, 31, 32, 33, 34, 35, 36, 37, 38, 39, 40, 41, 42, 43, 44, 45, 46, 47, 48, 49, 50, 51, 52, 53, 54, 55, 56, 57, 58, 59, 60, 61, 62, 63, 64] (fun s hn => hs s (fun j hj e => hn (by rw [e]; exact drr4_slots j hj)))
    have hq := hQ (fun d => x.tmps.getD d undef) w hB (hv 54 (by decide))
    obtain ⟨T, Df⟩ := x
    dsimp only at hx hdef hq
    subst hdef
    rw [← hx] at hq
    exact hq
end
def drrF_val (gD oD n cD i jp : Nat) (d : DT) (P PQ : List UInt8) : Nat → Value → World → Prop
  | 0, v, w => v = .slice (some ⟨gD, oD, none⟩) n cD
  | 1, v, w => v = .int .i64 (i : Nat)
  | 2, v, w => v = .pointer (some ⟨gD, oD + i * 4, none⟩)
  | 3, v, w => v = .pointer (some ⟨gD, oD + i * 4, none⟩)
  | 4, v, w => v = by8 P
  | 5, v, w => v = .bool true
  | 6, v, w => v = .bool false
  | 7, v, w => v = .bool false
  | 8, v, w => v = .slice (some ⟨gD, oD, none⟩) n cD
  | 9, v, w => v = .int .i64 (i : Nat)
  | 10, v, w => v = .pointer (some ⟨gD, oD + i * 4, none⟩)
  | 11, v, w => v = .pointer (some ⟨gD, oD + i * 4 + 1, none⟩)
  | 12, v, w => v = by8 d.L
  | 13, v, w => v = .slice (some ⟨gD, oD, none⟩) n cD
  | 14, v, w => v = .int .i64 (i : Nat)
  | 15, v, w => v = .pointer (some ⟨gD, oD + i * 4, none⟩)
  | 16, v, w => v = .pointer (some ⟨gD, oD + i * 4, none⟩)
  | 17, v, w => v = by8 P
  | 18, v, w => v = by8 (ofL P)
  | 19, v, w => v = .bool false
  | 20, v, w => v = .bool false
  | 21, v, w => v = .bool false
  | 22, v, w => v = .slice (some ⟨gD, oD, none⟩) n cD
  | 23, v, w => v = .int .i64 (i : Nat)
  | 24, v, w => v = .pointer (some ⟨gD, oD + i * 4, none⟩)
  | 25, v, w => v = .pointer (some ⟨gD, oD + i * 4 + 3, none⟩)
  | 26, v, w => v = .int .i64 d.Z
  | 27, v, w => v = .bool false
  | 28, v, w => v = .bool false
  | 29, v, w => v = .bool false
  | 30, v, w => v = .slice (some ⟨gD, oD, none⟩) n cD
  | 31, v, w => v = .int .i64 (i : Nat)
  | 32, v, w => v = .pointer (some ⟨gD, oD + i * 4, none⟩)
  | 33, v, w => v = .pointer (some ⟨gD, oD + i * 4 + 3, none⟩)
  | 34, v, w => v = .int .i64 d.Z
  | 35, v, w => v = .bool true
  | 36, v, w => v = .bool true
  | 37, v, w => v = .bool true
  | 38, v, w => v = undef
  | 39, v, w => v = undef
  | 40, v, w => v = undef
  | 41, v, w => v = undef
  | 42, v, w => v = undef
  | 43, v, w => v = undef
  | 44, v, w => v = undef
  | 45, v, w => v = undef
  | 46, v, w => v = undef
  | 47, v, w => v = undef
  | 48, v, w => v = undef
  | 49, v, w => v = undef
  | 50, v, w => v = undef
  | 51, v, w => v = undef
  | 52, v, w => v = undef
  | 53, v, w => v = undef
  | 54, v, w => v = .bool true
  | _, _, _ => True
theorem drrF_below (gD oD n cD i jp : Nat) (d : DT) (P PQ : List UInt8) (w w' : World) (hb : Below w.heap.size w w') : ∀ j v, drrF_val gD oD n cD i jp d P PQ j v w → drrF_val gD oD n cD i jp d P PQ j v w' := by
  intro j v h
  match j, h with
  | 0, h => exact h
  | 1, h => exact h
  | 2, h => exact h
  | 3, h => exact h
  | 4, h => exact h
  | 5, h => exact h
  | 6, h => exact h
  | 7, h => exact h
  | 8, h => exact h
  | 9, h => exact h
  | 10, h => exact h
  | 11, h => exact h
  | 12, h => exact h
  | 13, h => exact h
  | 14, h => exact h
  | 15, h => exact h
  | 16, h => exact h
  | 17, h => exact h
  | 18, h => exact h
  | 19, h => exact h
  | 20, h => exact h
  | 21, h => exact h
  | 22, h => exact h
  | 23, h => exact h
  | 24, h => exact h
  | 25, h => exact h
  | 26, h => exact h
  | 27, h => exact h
  | 28, h => exact h
  | 29, h => exact h
  | 30, h => exact h
  | 31, h => exact h
  | 32, h => exact h
  | 33, h => exact h
  | 34, h => exact h
  | 35, h => exact h
  | 36, h => exact h
  | 37, h => exact h
  | 38, h => exact h
  | 39, h => exact h
  | 40, h => exact h
  | 41, h => exact h
  | 42, h => exact h
  | 43, h => exact h
  | 44, h => exact h
  | 45, h => exact h
  | 46, h => exact h
  | 47, h => exact h
  | 48, h => exact h
  | 49, h => exact h
  | 50, h => exact h
  | 51, h => exact h
  | 52, h => exact h
  | 53, h => exact h
  | 54, h => exact h
  | _ + 55, h => exact h
def drrF_H (Fc : Fence) (gD oD n cD i jp : Nat) (d : DT) (P PQ : List UInt8) (df : List Deferred) (w0 : World) (x : Act) (w : World) : Prop :=
  (Wide Fc) ∧ (i < n) ∧ (n ≤ 140737488351232) ∧ (w0.cell? ⟨gD, oD + i * 4, none⟩ = some (by8 P)) ∧ (P.length ≤ 1000000) ∧ (rightP P = true) ∧ (w0.cell? ⟨gD, oD + i * 4 + 1, none⟩ = some (by8 d.L)) ∧ ((!(d.L == ofL P)) = false) ∧ (w0.cell? ⟨gD, oD + i * 4 + 3, none⟩ = some (.int .i64 d.Z)) ∧ (decide (d.Z < 0) = false) ∧ (decide ((1048576 : Int) < d.Z) = true) ∧ (Below w0.heap.size w0 w) ∧ (x.defers = df) ∧ (x.tmps.getD 0 undef = .slice (some ⟨gD, oD, none⟩) n cD) ∧ (x.tmps.getD 3 undef = .int .i64 (i : Nat))
section
set_option maxRecDepth 100000
set_option maxHeartbeats 2000000
variable {Fc : Fence} {nC : Nat} {gD oD n cD i jp : Nat} {d : DT} {P PQ : List UInt8} {Q : Exit → Act → World → Prop} {df : List Deferred} {w0 : World} {x : Act} {w : World}
local notation "HH!" => drrF_H Fc gD oD n cD i jp d P PQ df w0 x w
local notation "VV!" j:max s:max => drrF_val gD oD n cD i jp d P PQ j (x.tmps.getD s undef) w
local notation "TT!" s:max => Array.getD (Act.tmps x) s undef
local notation "SS!" j:max s:max => Stp Fc nC Tryz.prog drr4_ops Q j s (drrF_val gD oD n cD i jp d P PQ j) x w
set_option hygiene false in
local macro "GP!" j:num o:ident : tactic => `(tactic| (obtain ⟨hF, hi, hn, d0, hp, hr, d1, h2, d3, h3, h4, hB, hdef, u0, u3⟩ := H; have ho : drr4_ops[$j]? = some $o := rfl; simp only [Array.getD_eq_getD_getElem?] at u0 u3))
local macro "GG!" hs:(colGt ident)+ : tactic => `(tactic| simp only [Array.getD_eq_getD_getElem?] at $[$hs:ident]*)
set_option hygiene false in
local macro "GE!" e:ident g:ident q:ident k:num s:num : tactic => `(tactic| (have $e : (drr4_ops[$k]?.bind fun x => x.dst) = some $s := rfl; have $g := get_someT $q (fun h => by cases h)))
set_option hygiene false in
local macro "GF!" o:ident : tactic => `(tactic| (refine wpOpIn_stepT hF ho (fun K hK => ?_); clear ho; rw [Oper.semAt_plain Fc _ _ (by intro c h; cases h)]; simp only [$o:ident]; go_simp))
set_option hygiene false in
local macro "GD!" o:ident : tactic => `(tactic| (refine wpOpIn_plain ho rfl (oper_inK hF.fn (fun K hK => ?_)); clear ho; rw [Oper.semAt_plain Fc _ _ (by intro c h; cases h)]; simp only [$o:ident]; go_simp))
set_option hygiene false in
local macro "GX!" : tactic => `(tactic| exact hK _ _ ⟨_, act_putD x hdef _ _, rfl, Below.refl _ _⟩)
theorem drrF_s0 (H : HH!) : SS! 0 10 := by
  GP! 0 drr4_o0
  GD! drr4_o0
  GX!
theorem drrF_s1 (H : HH!) : SS! 1 11 := by
  GP! 1 drr4_o1
  GD! drr4_o1
  GX!
theorem drrF_s2 (H : HH!) (p0 : VV! 0 10) (p1 : VV! 1 11) : SS! 2 12 := by
  GP! 2 drr4_o2
  have q0 : TT! 10 = .slice (some ⟨gD, oD, none⟩) n cD := p0
  have q1 : TT! 11 = .int .i64 (i : Nat) := p1
  GG! q0 q1
  have i0 : (0 : Int) ≤ (i : Int) := by omega
  have i1 : (i : Int) < (n : Int) := by omega
  GD! drr4_o2
  GX!
theorem drrF_s3 (H : HH!) (p2 : VV! 2 12) : SS! 3 13 := by
  GP! 3 drr4_o3
  have q2 : TT! 12 = .pointer (some ⟨gD, oD + i * 4, none⟩) := p2
  GG! q2
  GD! drr4_o3
  GX!
theorem drrF_s4 (H : HH!) (p3 : VV! 3 13) : SS! 4 14 := by
  GP! 4 drr4_o4
  have q3 : TT! 13 = .pointer (some ⟨gD, oD + i * 4, none⟩) := p3
  GG! q3
  have m := cell_thru d0 hB
  GD! drr4_o4
  GX!
theorem drrF_s5 (H : HH!) (p4 : VV! 4 14) : SS! 5 15 := by
  GP! 5 drr4_o5
  have q4 : TT! 14 = by8 P := p4
  GG! q4
  GD! drr4_o5
  refine ⟨hF.deep, (hF.call (refRight_any P w hp)).mono ?_⟩
  rintro e w' ⟨rfl, hb⟩
  exact hK _ _ ⟨_, act_putD x hdef _ _, by rw [hr]; exact rfl, hb⟩
theorem drrF_s6 (H : HH!) (p5 : VV! 5 15) : SS! 6 16 := by
  GP! 6 drr4_o6
  have q5 : TT! 15 = .bool true := p5
  GG! q5
  GD! drr4_o6
  GX!
theorem drrF_s7 (H : HH!) (p6 : VV! 6 16) : SS! 7 17 := by
  GP! 7 drr4_o7
  have q6 : TT! 16 = .bool false := p6
  GG! q6
  GD! drr4_o7
  GX!
theorem drrF_s8 (H : HH!) (p7 : VV! 7 17) : SS! 8 18 := by
  GP! 8 drr4_o8
  have q7 : TT! 17 = .bool false := p7
  GG! q7
  GE! e7 g7 q7 7 17
  GF! drr4_o8
  GX!
theorem drrF_s9 (H : HH!) (p7 : VV! 7 17) : SS! 9 19 := by
  GP! 9 drr4_o9
  have q7 : TT! 17 = .bool false := p7
  GG! q7
  GE! e7 g7 q7 7 17
  GF! drr4_o9
  GX!
theorem drrF_s10 (H : HH!) (p8 : VV! 8 18) (p9 : VV! 9 19) (p7 : VV! 7 17) : SS! 10 20 := by
  GP! 10 drr4_o10
  have q8 : TT! 18 = .slice (some ⟨gD, oD, none⟩) n cD := p8
  have q9 : TT! 19 = .int .i64 (i : Nat) := p9
  have q7 : TT! 17 = .bool false := p7
  GG! q8 q9 q7
  GE! e7 g7 q7 7 17
  have i0 : (0 : Int) ≤ (i : Int) := by omega
  have i1 : (i : Int) < (n : Int) := by omega
  GF! drr4_o10
  GX!
theorem drrF_s11 (H : HH!) (p10 : VV! 10 20) (p7 : VV! 7 17) : SS! 11 21 := by
  GP! 11 drr4_o11
  have q10 : TT! 20 = .pointer (some ⟨gD, oD + i * 4, none⟩) := p10
  have q7 : TT! 17 = .bool false := p7
  GG! q10 q7
  GE! e7 g7 q7 7 17
  GF! drr4_o11
  GX!
theorem drrF_s12 (H : HH!) (p11 : VV! 11 21) (p7 : VV! 7 17) : SS! 12 22 := by
  GP! 12 drr4_o12
  have q11 : TT! 21 = .pointer (some ⟨gD, oD + i * 4 + 1, none⟩) := p11
  have q7 : TT! 17 = .bool false := p7
  GG! q11 q7
  GE! e7 g7 q7 7 17
  have m := cell_thru d1 hB
  GF! drr4_o12
  GX!
theorem drrF_s13 (H : HH!) (p7 : VV! 7 17) : SS! 13 23 := by
  GP! 13 drr4_o13
  have q7 : TT! 17 = .bool false := p7
  GG! q7
  GE! e7 g7 q7 7 17
  GF! drr4_o13
  GX!
theorem drrF_s14 (H : HH!) (p7 : VV! 7 17) : SS! 14 24 := by
  GP! 14 drr4_o14
  have q7 : TT! 17 = .bool false := p7
  GG! q7
  GE! e7 g7 q7 7 17
  GF! drr4_o14
  GX!
theorem drrF_s15 (H : HH!) (p13 : VV! 13 23) (p14 : VV! 14 24) (p7 : VV! 7 17) : SS! 15 25 := by
  GP! 15 drr4_o15
  have q13 : TT! 23 = .slice (some ⟨gD, oD, none⟩) n cD := p13
  have q14 : TT! 24 = .int .i64 (i : Nat) := p14
  have q7 : TT! 17 = .bool false := p7
  GG! q13 q14 q7
  GE! e7 g7 q7 7 17
  have i0 : (0 : Int) ≤ (i : Int) := by omega
  have i1 : (i : Int) < (n : Int) := by omega
  GF! drr4_o15
  GX!
theorem drrF_s16 (H : HH!) (p15 : VV! 15 25) (p7 : VV! 7 17) : SS! 16 26 := by
  GP! 16 drr4_o16
  have q15 : TT! 25 = .pointer (some ⟨gD, oD + i * 4, none⟩) := p15
  have q7 : TT! 17 = .bool false := p7
  GG! q15 q7
  GE! e7 g7 q7 7 17
  GF! drr4_o16
  GX!
theorem drrF_s17 (H : HH!) (p16 : VV! 16 26) (p7 : VV! 7 17) : SS! 17 27 := by
  GP! 17 drr4_o17
  have q16 : TT! 26 = .pointer (some ⟨gD, oD + i * 4, none⟩) := p16
  have q7 : TT! 17 = .bool false := p7
  GG! q16 q7
  GE! e7 g7 q7 7 17
  have m := cell_thru d0 hB
  GF! drr4_o17
  GX!
theorem drrF_s18 (H : HH!) (p17 : VV! 17 27) (p7 : VV! 7 17) : SS! 18 28 := by
  GP! 18 drr4_o18
  have q17 : TT! 27 = by8 P := p17
  have q7 : TT! 17 = .bool false := p7
  GG! q17 q7
  GE! e7 g7 q7 7 17
  GF! drr4_o18
  refine ⟨hF.deep, (hF.call (refOf_any P w hp)).mono ?_⟩
  rintro e w' ⟨rfl, hb⟩
  exact hK _ _ ⟨_, act_putD x hdef _ _, rfl, hb⟩
theorem drrF_s19 (H : HH!) (p12 : VV! 12 22) (p18 : VV! 18 28) (p7 : VV! 7 17) : SS! 19 29 := by
  GP! 19 drr4_o19
  have q12 : TT! 22 = by8 d.L := p12
  have q18 : TT! 28 = by8 (ofL P) := p18
  have q7 : TT! 17 = .bool false := p7
  GG! q12 q18 q7
  GE! e7 g7 q7 7 17
  have m := h2
  unfold by8 at q12 q18
  GF! drr4_o19
  GX!
theorem drrF_s20 (H : HH!) (p7 : VV! 7 17) (p19 : VV! 19 29) : SS! 20 30 := by
  GP! 20 drr4_o20
  have q7 : TT! 17 = .bool false := p7
  have q19 : TT! 29 = .bool false := p19
  GG! q7 q19
  GD! drr4_o20
  GX!
theorem drrF_s21 (H : HH!) (p20 : VV! 20 30) : SS! 21 31 := by
  GP! 21 drr4_o21
  have q20 : TT! 30 = .bool false := p20
  GG! q20
  GD! drr4_o21
  GX!
theorem drrF_s22 (H : HH!) (p21 : VV! 21 31) : SS! 22 32 := by
  GP! 22 drr4_o22
  have q21 : TT! 31 = .bool false := p21
  GG! q21
  GE! e21 g21 q21 21 31
  GF! drr4_o22
  GX!
theorem drrF_s23 (H : HH!) (p21 : VV! 21 31) : SS! 23 33 := by
  GP! 23 drr4_o23
  have q21 : TT! 31 = .bool false := p21
  GG! q21
  GE! e21 g21 q21 21 31
  GF! drr4_o23
  GX!
theorem drrF_s24 (H : HH!) (p22 : VV! 22 32) (p23 : VV! 23 33) (p21 : VV! 21 31) : SS! 24 34 := by
  GP! 24 drr4_o24
  have q22 : TT! 32 = .slice (some ⟨gD, oD, none⟩) n cD := p22
  have q23 : TT! 33 = .int .i64 (i : Nat) := p23
  have q21 : TT! 31 = .bool false := p21
  GG! q22 q23 q21
  GE! e21 g21 q21 21 31
  have i0 : (0 : Int) ≤ (i : Int) := by omega
  have i1 : (i : Int) < (n : Int) := by omega
  GF! drr4_o24
  GX!
theorem drrF_s25 (H : HH!) (p24 : VV! 24 34) (p21 : VV! 21 31) : SS! 25 35 := by
  GP! 25 drr4_o25
  have q24 : TT! 34 = .pointer (some ⟨gD, oD + i * 4, none⟩) := p24
  have q21 : TT! 31 = .bool false := p21
  GG! q24 q21
  GE! e21 g21 q21 21 31
  GF! drr4_o25
  GX!
theorem drrF_s26 (H : HH!) (p25 : VV! 25 35) (p21 : VV! 21 31) : SS! 26 36 := by
  GP! 26 drr4_o26
  have q25 : TT! 35 = .pointer (some ⟨gD, oD + i * 4 + 3, none⟩) := p25
  have q21 : TT! 31 = .bool false := p21
  GG! q25 q21
  GE! e21 g21 q21 21 31
  have m := cell_thru d3 hB
  GF! drr4_o26
  GX!
theorem drrF_s27 (H : HH!) (p26 : VV! 26 36) (p21 : VV! 21 31) : SS! 27 37 := by
  GP! 27 drr4_o27
  have q26 : TT! 36 = .int .i64 d.Z := p26
  have q21 : TT! 31 = .bool false := p21
  GG! q26 q21
  GE! e21 g21 q21 21 31
  have m := h3
  GF! drr4_o27
  GX!
theorem drrF_s28 (H : HH!) (p21 : VV! 21 31) (p27 : VV! 27 37) : SS! 28 38 := by
  GP! 28 drr4_o28
  have q21 : TT! 31 = .bool false := p21
  have q27 : TT! 37 = .bool false := p27
  GG! q21 q27
  GD! drr4_o28
  GX!
theorem drrF_s29 (H : HH!) (p28 : VV! 28 38) : SS! 29 39 := by
  GP! 29 drr4_o29
  have q28 : TT! 38 = .bool false := p28
  GG! q28
  GD! drr4_o29
  GX!
theorem drrF_s30 (H : HH!) (p29 : VV! 29 39) : SS! 30 40 := by
  GP! 30 drr4_o30
  have q29 : TT! 39 = .bool false := p29
  GG! q29
  GE! e29 g29 q29 29 39
  GF! drr4_o30
  GX!
theorem drrF_s31 (H : HH!) (p29 : VV! 29 39) : SS! 31 41 := by
  GP! 31 drr4_o31
  have q29 : TT! 39 = .bool false := p29
  GG! q29
  GE! e29 g29 q29 29 39
  GF! drr4_o31
  GX!
theorem drrF_s32 (H : HH!) (p30 : VV! 30 40) (p31 : VV! 31 41) (p29 : VV! 29 39) : SS! 32 42 := by
  GP! 32 drr4_o32
  have q30 : TT! 40 = .slice (some ⟨gD, oD, none⟩) n cD := p30
  have q31 : TT! 41 = .int .i64 (i : Nat) := p31
  have q29 : TT! 39 = .bool false := p29
  GG! q30 q31 q29
  GE! e29 g29 q29 29 39
  have i0 : (0 : Int) ≤ (i : Int) := by omega
  have i1 : (i : Int) < (n : Int) := by omega
  GF! drr4_o32
  GX!
theorem drrF_s33 (H : HH!) (p32 : VV! 32 42) (p29 : VV! 29 39) : SS! 33 43 := by
  GP! 33 drr4_o33
  have q32 : TT! 42 = .pointer (some ⟨gD, oD + i * 4, none⟩) := p32
  have q29 : TT! 39 = .bool false := p29
  GG! q32 q29
  GE! e29 g29 q29 29 39
  GF! drr4_o33
  GX!
theorem drrF_s34 (H : HH!) (p33 : VV! 33 43) (p29 : VV! 29 39) : SS! 34 44 := by
  GP! 34 drr4_o34
  have q33 : TT! 43 = .pointer (some ⟨gD, oD + i * 4 + 3, none⟩) := p33
  have q29 : TT! 39 = .bool false := p29
  GG! q33 q29
  GE! e29 g29 q29 29 39
  have m := cell_thru d3 hB
  GF! drr4_o34
  GX!
theorem drrF_s35 (H : HH!) (p34 : VV! 34 44) (p29 : VV! 29 39) : SS! 35 45 := by
  GP! 35 drr4_o35
  have q34 : TT! 44 = .int .i64 d.Z := p34
  have q29 : TT! 39 = .bool false := p29
  GG! q34 q29
  GE! e29 g29 q29 29 39
  have m := h4
  GF! drr4_o35
  GX!
theorem drrF_s36 (H : HH!) (p29 : VV! 29 39) (p35 : VV! 35 45) : SS! 36 46 := by
  GP! 36 drr4_o36
  have q29 : TT! 39 = .bool false := p29
  have q35 : TT! 45 = .bool true := p35
  GG! q29 q35
  GD! drr4_o36
  GX!
theorem drrF_s37 (H : HH!) (p36 : VV! 36 46) : SS! 37 47 := by
  GP! 37 drr4_o37
  have q36 : TT! 46 = .bool true := p36
  GG! q36
  GD! drr4_o37
  GX!
theorem drrF_s38 (H : HH!) (p37 : VV! 37 47) : SS! 38 48 := by
  GP! 38 drr4_o38
  have q37 : TT! 47 = .bool true := p37
  GG! q37
  GE! e37 g37 q37 37 47
  GF! drr4_o38
  GX!
theorem drrF_s39 (H : HH!) (p38 : VV! 38 48) (p37 : VV! 37 47) : SS! 39 49 := by
  GP! 39 drr4_o39
  have q38 : TT! 48 = undef := p38
  have q37 : TT! 47 = .bool true := p37
  GG! q38 q37
  GE! e37 g37 q37 37 47
  GF! drr4_o39
  GX!
theorem drrF_s40 (H : HH!) (p39 : VV! 39 49) (p37 : VV! 37 47) : SS! 40 50 := by
  GP! 40 drr4_o40
  have q39 : TT! 49 = undef := p39
  have q37 : TT! 47 = .bool true := p37
  GG! q39 q37
  GE! e37 g37 q37 37 47
  GF! drr4_o40
  GX!
theorem drrF_s41 (H : HH!) (p40 : VV! 40 50) : SS! 41 51 := by
  GP! 41 drr4_o41
  have q40 : TT! 50 = undef := p40
  GG! q40
  have e40 : (drr4_ops[40]?.bind fun x => x.dst) = some 50 := rfl
  exact op_skipped hF ho rfl e40 q40 ⟨_, rfl, rfl, Below.refl _ _⟩
theorem drrF_s42 (H : HH!) (p40 : VV! 40 50) : SS! 42 52 := by
  GP! 42 drr4_o42
  have q40 : TT! 50 = undef := p40
  GG! q40
  have e40 : (drr4_ops[40]?.bind fun x => x.dst) = some 50 := rfl
  exact op_skipped hF ho rfl e40 q40 ⟨_, rfl, rfl, Below.refl _ _⟩
theorem drrF_s43 (H : HH!) (p42 : VV! 42 52) (p40 : VV! 40 50) : SS! 43 53 := by
  GP! 43 drr4_o43
  have q42 : TT! 52 = undef := p42
  have q40 : TT! 50 = undef := p40
  GG! q42 q40
  have e40 : (drr4_ops[40]?.bind fun x => x.dst) = some 50 := rfl
  exact op_skipped hF ho rfl e40 q40 ⟨_, rfl, rfl, Below.refl _ _⟩
theorem drrF_s44 (H : HH!) (p41 : VV! 41 51) (p43 : VV! 43 53) (p40 : VV! 40 50) : SS! 44 54 := by
  GP! 44 drr4_o44
  have q41 : TT! 51 = undef := p41
  have q43 : TT! 53 = undef := p43
  have q40 : TT! 50 = undef := p40
  GG! q41 q43 q40
  have e40 : (drr4_ops[40]?.bind fun x => x.dst) = some 50 := rfl
  exact op_skipped hF ho rfl e40 q40 ⟨_, rfl, rfl, Below.refl _ _⟩
theorem drrF_s45 (H : HH!) (p44 : VV! 44 54) (p40 : VV! 40 50) : SS! 45 55 := by
  GP! 45 drr4_o45
  have q44 : TT! 54 = undef := p44
  have q40 : TT! 50 = undef := p40
  GG! q44 q40
  have e40 : (drr4_ops[40]?.bind fun x => x.dst) = some 50 := rfl
  exact op_skipped hF ho rfl e40 q40 ⟨_, rfl, rfl, Below.refl _ _⟩
theorem drrF_s46 (H : HH!) (p45 : VV! 45 55) (p40 : VV! 40 50) : SS! 46 56 := by
  GP! 46 drr4_o46
  have q45 : TT! 55 = undef := p45
  have q40 : TT! 50 = undef := p40
  GG! q45 q40
  have e40 : (drr4_ops[40]?.bind fun x => x.dst) = some 50 := rfl
  exact op_skipped hF ho rfl e40 q40 ⟨_, rfl, rfl, Below.refl _ _⟩
theorem drrF_s47 (H : HH!) (p40 : VV! 40 50) : SS! 47 57 := by
  GP! 47 drr4_o47
  have q40 : TT! 50 = undef := p40
  GG! q40
  have e40 : (drr4_ops[40]?.bind fun x => x.dst) = some 50 := rfl
  exact op_skipped hF ho rfl e40 q40 ⟨_, rfl, rfl, Below.refl _ _⟩
theorem drrF_s48 (H : HH!) (p40 : VV! 40 50) : SS! 48 58 := by
  GP! 48 drr4_o48
  have q40 : TT! 50 = undef := p40
  GG! q40
  have e40 : (drr4_ops[40]?.bind fun x => x.dst) = some 50 := rfl
  exact op_skipped hF ho rfl e40 q40 ⟨_, rfl, rfl, Below.refl _ _⟩
theorem drrF_s49 (H : HH!) (p47 : VV! 47 57) (p48 : VV! 48 58) (p40 : VV! 40 50) : SS! 49 59 := by
  GP! 49 drr4_o49
  have q47 : TT! 57 = undef := p47
  have q48 : TT! 58 = undef := p48
  have q40 : TT! 50 = undef := p40
  GG! q47 q48 q40
  have e40 : (drr4_ops[40]?.bind fun x => x.dst) = some 50 := rfl
  exact op_skipped hF ho rfl e40 q40 ⟨_, rfl, rfl, Below.refl _ _⟩
theorem drrF_s50 (H : HH!) (p49 : VV! 49 59) (p40 : VV! 40 50) : SS! 50 60 := by
  GP! 50 drr4_o50
  have q49 : TT! 59 = undef := p49
  have q40 : TT! 50 = undef := p40
  GG! q49 q40
  have e40 : (drr4_ops[40]?.bind fun x => x.dst) = some 50 := rfl
  exact op_skipped hF ho rfl e40 q40 ⟨_, rfl, rfl, Below.refl _ _⟩
theorem drrF_s51 (H : HH!) (p50 : VV! 50 60) (p40 : VV! 40 50) : SS! 51 61 := by
  GP! 51 drr4_o51
  have q50 : TT! 60 = undef := p50
  have q40 : TT! 50 = undef := p40
  GG! q50 q40
  have e40 : (drr4_ops[40]?.bind fun x => x.dst) = some 50 := rfl
  exact op_skipped hF ho rfl e40 q40 ⟨_, rfl, rfl, Below.refl _ _⟩
theorem drrF_s52 (H : HH!) (p46 : VV! 46 56) (p51 : VV! 51 61) (p40 : VV! 40 50) : SS! 52 62 := by
  GP! 52 drr4_o52
  have q46 : TT! 56 = undef := p46
  have q51 : TT! 61 = undef := p51
  have q40 : TT! 50 = undef := p40
  GG! q46 q51 q40
  have e40 : (drr4_ops[40]?.bind fun x => x.dst) = some 50 := rfl
  exact op_skipped hF ho rfl e40 q40 ⟨_, rfl, rfl, Below.refl _ _⟩
theorem drrF_s53 (H : HH!) (p40 : VV! 40 50) (p52 : VV! 52 62) (p37 : VV! 37 47) : SS! 53 63 := by
  GP! 53 drr4_o53
  have q40 : TT! 50 = undef := p40
  have q52 : TT! 62 = undef := p52
  have q37 : TT! 47 = .bool true := p37
  GG! q40 q52 q37
  GE! e37 g37 q37 37 47
  GF! drr4_o53
  GX!
theorem drrF_s54 (H : HH!) (p37 : VV! 37 47) (p53 : VV! 53 63) : SS! 54 64 := by
  GP! 54 drr4_o54
  have q37 : TT! 47 = .bool true := p37
  have q53 : TT! 63 = undef := p53
  GG! q37 q53
  GD! drr4_o54
  GX!
end
section
set_option hygiene false in
local macro "GY!" o:ident : tactic => `(tactic| (have e : o = $o := (Option.some.inj ho).symm; subst e))
set_option hygiene false in
local macro "hd!" k:num : term => `(hdeps { on := $k, ground := Ground.data } (by simp) rfl)
set_option hygiene false in
local macro "hg!" k:num : term => `(hdeps { on := $k, ground := Ground.guard } (by simp) rfl)

set_option maxRecDepth 100000 in
set_option maxHeartbeats 4000000 in
theorem drrF {Fc : Fence} (hF : Wide Fc) {nC : Nat} (gD oD n cD i jp : Nat) (d : DT) (P PQ : List UInt8) (Q : Exit → Act → World → Prop) (t0 : Array Value) (df : List Deferred) (w0 : World) (ht : t0.size = 68)
    (hs0 : t0.getD 0 undef = .slice (some ⟨gD, oD, none⟩) n cD) (hs3 : t0.getD 3 undef = .int .i64 (i : Nat))
    (hi : i < n) (hn : n ≤ 140737488351232) (d0 : w0.cell? ⟨gD, oD + i * 4, none⟩ = some (by8 P)) (hp : P.length ≤ 1000000) (hr : rightP P = true) (d1 : w0.cell? ⟨gD, oD + i * 4 + 1, none⟩ = some (by8 d.L)) (h2 : (!(d.L == ofL P)) = false) (d3 : w0.cell? ⟨gD, oD + i * 4 + 3, none⟩ = some (.int .i64 d.Z)) (h3 : decide (d.Z < 0) = false) (h4 : decide ((1048576 : Int) < d.Z) = true)
    (hQ : ∀ (vs : Nat → Value) (w : World), Below w0.heap.size w0 w → (vs 64 = .bool true) → Q .normal { tmps := [10, 11, 12, 13, 14, 15, 16, 17, 18, 19, 20, 21, 22, 23, 24, 25, 26, 27, 28, 29, 30, 31, 32, 33, 34, 35, 36, 37, 38, 39, 40, 41, 42, 43, 44, 45, 46, 47, 48, 49, 50, 51, 52, 53, 54, 55, 56, 57, 58, 59, 60, 61, 62, 63, 64].foldl (fun y d => y.setIfInBounds d (vs d)) t0, defers := df } w) :
    (Code.region 4 drr4_ops true).wpIn Fc nC Tryz.prog Q { tmps := t0, defers := df } w0 := by
  refine wpIn_region_tail 55 (by decide) (by kernel_rfl) (fun a b => Below a.heap.size a b) (drrF_val gD oD n cD i jp d P PQ) t0 df w0 (by rw [ht]; kernel_rfl) (by kernel_rfl) (by kernel_rfl) (by kernel_rfl) ((Below.refl _ _).drew) (fun _ _ _ h k => h.trans (k.mono h.size)) (drrF_below gD oD n cD i jp d P PQ) ?_ ?_
  · intro j o ho hj x w hB hdef hsz hs hdeps
    have hs' : ∀ s, ¬ drr4_mem s → x.tmps.getD s undef = t0.getD s undef := fun s hn => hs s (fun j hj e => hn (by rw [e]; exact drr4_slots j hj))
    have u0 := (hs' 0 (by decide)).trans hs0
    have u3 := (hs' 3 (by decide)).trans hs3
    have H : drrF_H Fc gD oD n cD i jp d P PQ df w0 x w := ⟨hF, hi, hn, d0, hp, hr, d1, h2, d3, h3, h4, hB, hdef, u0, u3⟩
    match j, ho, hj with
    | 0, ho, _ =>
      GY! drr4_o0
      exact drrF_s0 H 
    | 1, ho, _ =>
      GY! drr4_o1
      exact drrF_s1 H 
    | 2, ho, _ =>
      GY! drr4_o2
      exact drrF_s2 H (hd! 0) (hd! 1)
    | 3, ho, _ =>
      GY! drr4_o3
      exact drrF_s3 H (hd! 2)
    | 4, ho, _ =>
      GY! drr4_o4
      exact drrF_s4 H (hd! 3)
    | 5, ho, _ =>
      GY! drr4_o5
      exact drrF_s5 H (hd! 4)
    | 6, ho, _ =>
      GY! drr4_o6
      exact drrF_s6 H (hd! 5)
    | 7, ho, _ =>
      GY! drr4_o7
      exact drrF_s7 H (hd! 6)
    | 8, ho, _ =>
      GY! drr4_o8
      exact drrF_s8 H (hg! 7)
    | 9, ho, _ =>
      GY! drr4_o9
      exact drrF_s9 H (hg! 7)
    | 10, ho, _ =>
      GY! drr4_o10
      exact drrF_s10 H (hd! 8) (hd! 9) (hg! 7)
    | 11, ho, _ =>
      GY! drr4_o11
      exact drrF_s11 H (hd! 10) (hg! 7)
    | 12, ho, _ =>
      GY! drr4_o12
      exact drrF_s12 H (hd! 11) (hg! 7)
    | 13, ho, _ =>
      GY! drr4_o13
      exact drrF_s13 H (hg! 7)
    | 14, ho, _ =>
      GY! drr4_o14
      exact drrF_s14 H (hg! 7)
    | 15, ho, _ =>
      GY! drr4_o15
      exact drrF_s15 H (hd! 13) (hd! 14) (hg! 7)
    | 16, ho, _ =>
      GY! drr4_o16
      exact drrF_s16 H (hd! 15) (hg! 7)
    | 17, ho, _ =>
      GY! drr4_o17
      exact drrF_s17 H (hd! 16) (hg! 7)
    | 18, ho, _ =>
      GY! drr4_o18
      exact drrF_s18 H (hd! 17) (hg! 7)
    | 19, ho, _ =>
      GY! drr4_o19
      exact drrF_s19 H (hd! 12) (hd! 18) (hg! 7)
    | 20, ho, _ =>
      GY! drr4_o20
      exact drrF_s20 H (hd! 7) (hd! 19)
    | 21, ho, _ =>
      GY! drr4_o21
      exact drrF_s21 H (hd! 20)
    | 22, ho, _ =>
      GY! drr4_o22
      exact drrF_s22 H (hg! 21)
    | 23, ho, _ =>
      GY! drr4_o23
      exact drrF_s23 H (hg! 21)
    | 24, ho, _ =>
      GY! drr4_o24
      exact drrF_s24 H (hd! 22) (hd! 23) (hg! 21)
    | 25, ho, _ =>
      GY! drr4_o25
      exact drrF_s25 H (hd! 24) (hg! 21)
    | 26, ho, _ =>
      GY! drr4_o26
      exact drrF_s26 H (hd! 25) (hg! 21)
    | 27, ho, _ =>
      GY! drr4_o27
      exact drrF_s27 H (hd! 26) (hg! 21)
    | 28, ho, _ =>
      GY! drr4_o28
      exact drrF_s28 H (hd! 21) (hd! 27)
    | 29, ho, _ =>
      GY! drr4_o29
      exact drrF_s29 H (hd! 28)
    | 30, ho, _ =>
      GY! drr4_o30
      exact drrF_s30 H (hg! 29)
    | 31, ho, _ =>
      GY! drr4_o31
      exact drrF_s31 H (hg! 29)
    | 32, ho, _ =>
      GY! drr4_o32
      exact drrF_s32 H (hd! 30) (hd! 31) (hg! 29)
    | 33, ho, _ =>
      GY! drr4_o33
      exact drrF_s33 H (hd! 32) (hg! 29)
    | 34, ho, _ =>
      GY! drr4_o34
      exact drrF_s34 H (hd! 33) (hg! 29)
    | 35, ho, _ =>
      GY! drr4_o35
      exact drrF_s35 H (hd! 34) (hg! 29)
    | 36, ho, _ =>
      GY! drr4_o36
      exact drrF_s36 H (hd! 29) (hd! 35)
    | 37, ho, _ =>
      GY! drr4_o37
      exact drrF_s37 H (hd! 36)
    | 38, ho, _ =>
      GY! drr4_o38
      exact drrF_s38 H (hg! 37)
    | 39, ho, _ =>
      GY! drr4_o39
      exact drrF_s39 H (hd! 38) (hg! 37)
    | 40, ho, _ =>
      GY! drr4_o40
      exact drrF_s40 H (hd! 39) (hg! 37)
    | 41, ho, _ =>
      GY! drr4_o41
      exact drrF_s41 H (hg! 40)
    | 42, ho, _ =>
      GY! drr4_o42
      exact drrF_s42 H (hg! 40)
    | 43, ho, _ =>
      GY! drr4_o43
      exact drrF_s43 H (hd! 42) (hg! 40)
    | 44, ho, _ =>
      GY! drr4_o44
      exact drrF_s44 H (hd! 41) (hd! 43) (hg! 40)
    | 45, ho, _ =>
      GY! drr4_o45
      exact drrF_s45 H (hd! 44) (hg! 40)
    | 46, ho, _ =>
      GY! drr4_o46
      exact drrF_s46 H (hd! 45) (hg! 40)
    | 47, ho, _ =>
      GY! drr4_o47
      exact drrF_s47 H (hg! 40)
    | 48, ho, _ =>
      GY! drr4_o48
      exact drrF_s48 H (hg! 40)
    | 49, ho, _ =>
      GY! drr4_o49
      exact drrF_s49 H (hd! 47) (hd! 48) (hg! 40)
    | 50, ho, _ =>
      GY! drr4_o50
      exact drrF_s50 H (hd! 49) (hg! 40)
    | 51, ho, _ =>
      GY! drr4_o51
      exact drrF_s51 H (hd! 50) (hg! 40)
    | 52, ho, _ =>
      GY! drr4_o52
      exact drrF_s52 H (hd! 46) (hd! 51) (hg! 40)
    | 53, ho, _ =>
      GY! drr4_o53
      exact drrF_s53 H (hd! 40) (hd! 52) (hg! 37)
    | 54, ho, _ =>
      GY! drr4_o54
      exact drrF_s54 H (hd! 37) (hd! 53)
    | k + 55, _, hj => omega
  · intro x w hB hdef hsz hs hv
    have hx := frame_sets x.tmps t0 hsz [10, 11, 12, 13, 14, 15, 16, 17, 18, 19, 20, 21, 22, 23, 24, 25, 26, 27, 28, 29, 30, 31, 32, 33, 34, 35, 36, 37, 38, 39, 40, 41, 42, 43, 44, 45, 46, 47, 48, 49, 50, 51, 52, 53, 54, 55, 56, 57, 58, 59, 60, 61, 62, 63, 64] (fun s hn => hs s (fun j hj e => hn (by rw [e]; exact drr4_slots j hj)))
    have hq := hQ (fun d => x.tmps.getD d undef) w hB (hv 54 (by decide))
    obtain ⟨T, Df⟩ := x
    dsimp only at hx hdef hq
    subst hdef
    rw [← hx] at hq
    exact hq
end
end Go.Proofs.YtpmldopbjlnknaaGreat

/-
  mudlarkref22's Right, of any documents.
-/
namespace Go.Proofs.YtpmldopbjlnknaaGreat
open Go.RowKit Go.Shelf

set_option maxRecDepth 100000 in
set_option maxHeartbeats 4000000 in
theorem refRight_all (a : Option Addr) (n ca : Nat) (f : Nat → DT) (w : World) (hn : n ≤ 140737488351232) (hrow : RowK w a 4 n (fun i => cellD (f i))) (hP : ∀ i, i < n → (f i).P.length ≤ 1000000) :
    Calls Tryz.prog 11 #[.slice a n ca] w fun e w' => e = .returned (.bool (rightD (docsN f n))) ∧ Below w.heap.size w w' := by
  have hres := rightD_eq f n
  have HR := hide hrow
  have HH := hide (And.intro hP hres)
  clear hrow hP hres
  go_enter Tryz.func11, Tryz.ntmps11
  go_wp2_with fail
  go_loopg [3] n (fun q s3 wr => ∃ k : Nat, k + q = n ∧ s3 = .int .i64 k ∧ (riseP [] (pathsN (fun i => (f i).P) k) = true ∧ ∀ i, i < k → fitD (f i) = true) ∧ Below w.heap.size w wr)
  case atStart => exact ⟨0, by omega, rfl, ⟨rfl, fun i h => by omega⟩, Below.refl _ _⟩
  case round =>
    obtain ⟨k, hkq, rfl, hg, hB⟩ := hrel
    have HC := hide (And.intro hg hB)
    clear hg
    cases gk with
    | zero =>
      obtain rfl : k = n := by omega
      clear hB
      go_wp2_with fail
      go_ret
      refine ⟨?_, HC.out.2⟩
      rw [HH.out.2, HC.out.1.1, Bool.and_true, show ((List.range k).all fun i => fitD (f i)) = true from List.all_eq_true.2 (fun i hi => HC.out.1.2 i (List.mem_range.1 hi)), Bool.and_true]
      have : decide ((k : Int) ≤ 4000) = decide (k ≤ 4000) := by rw [decide_eq_decide]; omega
      rw [← this]
      rfl
    | succ q =>
      have hkn : k < n := by omega
      have hkz : (k : Int) < (n : Int) := by omega
      have hb := HR.out.below hB
      obtain ⟨g, o, rfl, d0, d1, d2, d3⟩ := hb.at4 hkn
      obtain ⟨r1, r2, r3, r4⟩ := rise_round (fun i => (f i).P) k n hkn HC.out.1.1
      have hbad : fitD (f k) = false → rightD (docsN f n) = false := fun h => by
        have : ((List.range n).all fun i => fitD (f i)) = false := by
          rw [List.all_eq_false]
          exact ⟨k, List.mem_range.2 hkn, by rw [h]; decide⟩
        rw [HH.out.2, this, Bool.and_false]
      have hnx : fitD (f k) = true → ∀ i, i < k + 1 → fitD (f i) = true := fun h i hi => by
        rcases Nat.lt_or_ge i k with h1 | h1
        · exact HC.out.1.2 i h1
        · obtain rfl : i = k := by omega
          exact h
      have HBD := hide hbad
      have HNX := hide hnx
      clear hbad hnx
      have HX0 := hide (And.intro d0 (And.intro d1 (And.intro d3 (HH.out.1 k hkn))))
      have HD := hide (And.intro r1 (And.intro r2 (And.intro r3 r4)))
      have HB := hide hb
      clear hB hb d0 d1 d2 d3 r1 r2 r3 r4
      cases hrt : rightP (f k).P with
      | false =>
        have H1 := hide hrt
        clear hrt
        go_wp2_with fail
        refine (wpIn_wide (n := 0)).1 (drrC wide_plain g o n ca k 0 (f k) (f k).P [] _ _ _ _ rfl rfl rfl hkn hn HX0.out.1 HX0.out.2.2.2 H1.out ?_)
        intro vs W5 hb5 h64
        simp only [List.foldl_cons, List.foldl_nil, List.setIfInBounds_toArray, List.set_cons_succ, List.set_cons_zero]
        rw [h64]
        have H5 := hide (HC.out.2.trans (hb5.mono HC.out.2.size))
        clear h64 hb5
        go_wp2_with fail
        go_ret
        exact ⟨by rw [HH.out.2, HD.out.1 H1.out, Bool.and_false, Bool.false_and]; rfl, H5.out⟩
      | true =>
        have H1 := hide hrt
        clear hrt
        by_cases hL : (f k).L = ofL (f k).P
        case neg =>
          have h2 : (!((f k).L == ofL (f k).P)) = true := by simp [hL]
          have H2 := hide (And.intro h2 (HBD.out (by unfold fitD; rw [decide_eq_false hL, Bool.false_and])))
          clear h2 hL
          go_wp2_with fail
          refine (wpIn_wide (n := 0)).1 (drrD wide_plain g o n ca k 0 (f k) (f k).P [] _ _ _ _ rfl rfl rfl hkn hn HX0.out.1 HX0.out.2.2.2 H1.out HX0.out.2.1 H2.out.1 ?_)
          intro vs W5 hb5 h64
          simp only [List.foldl_cons, List.foldl_nil, List.setIfInBounds_toArray, List.set_cons_succ, List.set_cons_zero]
          rw [h64]
          have H5 := hide (HC.out.2.trans (hb5.mono HC.out.2.size))
          clear h64 hb5
          go_wp2_with fail
          go_ret
          exact ⟨by rw [H2.out.2]; rfl, H5.out⟩
        have hl2 : (!((f k).L == ofL (f k).P)) = false := by rw [hL]; simp
        by_cases hZ : (f k).Z < 0
        · have H2 := hide (And.intro hl2 (And.intro (decide_eq_true hZ) (HBD.out (by unfold fitD; rw [show decide (0 ≤ (f k).Z ∧ (f k).Z ≤ 1048576) = false from decide_eq_false (by omega), Bool.and_false]))))
          clear hl2 hL hZ
          go_wp2_with fail
          refine (wpIn_wide (n := 0)).1 (drrE wide_plain g o n ca k 0 (f k) (f k).P [] _ _ _ _ rfl rfl rfl hkn hn HX0.out.1 HX0.out.2.2.2 H1.out HX0.out.2.1 H2.out.1 HX0.out.2.2.1 H2.out.2.1 ?_)
          intro vs W5 hb5 h64
          simp only [List.foldl_cons, List.foldl_nil, List.setIfInBounds_toArray, List.set_cons_succ, List.set_cons_zero]
          rw [h64]
          have H5 := hide (HC.out.2.trans (hb5.mono HC.out.2.size))
          clear h64 hb5
          go_wp2_with fail
          go_ret
          exact ⟨by rw [H2.out.2.2]; rfl, H5.out⟩
        by_cases hZ2 : (1048576 : Int) < (f k).Z
        · have H2 := hide (And.intro hl2 (And.intro (decide_eq_false hZ) (And.intro (decide_eq_true hZ2) (HBD.out (by unfold fitD; rw [show decide (0 ≤ (f k).Z ∧ (f k).Z ≤ 1048576) = false from decide_eq_false (by omega), Bool.and_false])))))
          clear hl2 hL hZ hZ2
          go_wp2_with fail
          refine (wpIn_wide (n := 0)).1 (drrF wide_plain g o n ca k 0 (f k) (f k).P [] _ _ _ _ rfl rfl rfl hkn hn HX0.out.1 HX0.out.2.2.2 H1.out HX0.out.2.1 H2.out.1 HX0.out.2.2.1 H2.out.2.1 H2.out.2.2.1 ?_)
          intro vs W5 hb5 h64
          simp only [List.foldl_cons, List.foldl_nil, List.setIfInBounds_toArray, List.set_cons_succ, List.set_cons_zero]
          rw [h64]
          have H5 := hide (HC.out.2.trans (hb5.mono HC.out.2.size))
          clear h64 hb5
          go_wp2_with fail
          go_ret
          exact ⟨by rw [H2.out.2.2.2]; rfl, H5.out⟩
        have hl3 : decide ((f k).Z < 0) = false := decide_eq_false hZ
        have hl4 : decide ((1048576 : Int) < (f k).Z) = false := decide_eq_false hZ2
        have hfit := HNX.out (by unfold fitD; rw [decide_eq_true hL, decide_eq_true (by omega)]; rfl)
        have HX := hide (And.intro HX0.out.1 (And.intro HX0.out.2.1 (And.intro HX0.out.2.2.1 (And.intro hl2 (And.intro hl3 (And.intro hl4 HX0.out.2.2.2))))))
        have HFT := hide hfit
        clear hl2 hl3 hl4 hL hZ hZ2 hfit
        rcases Nat.eq_zero_or_pos k with h0 | h0
        · have h00 : decide (0 < k) = false := decide_eq_false (by omega)
          have H0 := hide (And.intro h0 h00)
          clear h0 h00
          go_wp2_with fail
          refine (wpIn_wide (n := 0)).1 (drrA wide_plain g o n ca k 0 (f k) (f k).P [] _ _ _ _ rfl rfl rfl hkn hn HX.out.1 HX.out.2.2.2.2.2.2 H1.out HX.out.2.1 HX.out.2.2.2.1 HX.out.2.2.1 HX.out.2.2.2.2.1 HX.out.2.2.2.2.2.1 H0.out.2 ?_)
          intro vs W5 hb5 h64
          simp only [List.foldl_cons, List.foldl_nil, List.setIfInBounds_toArray, List.set_cons_succ, List.set_cons_zero]
          rw [h64]
          have H5 := hide (HC.out.2.trans (hb5.mono HC.out.2.size))
          clear h64 hb5
          go_wp2_with fail
          go_roundg q
          case measure => omega
          case rel => exact ⟨k + 1, by omega, by go_num, ⟨HD.out.2.1 H1.out H0.out.1, HFT.out⟩, H5.out⟩
        · obtain ⟨j, hj⟩ : ∃ j, k = j + 1 := ⟨k - 1, by omega⟩
          have h00 : decide (0 < k) = true := decide_eq_true h0
          have hjn : j < n := by omega
          obtain ⟨g2, o2, e2, c0, _⟩ := HB.out.at4 hjn
          cases e2
          cases hlt : ltP (f j).P (f k).P with
          | false =>
            have h6 : (!Op.bytesLess (f j).P (f k).P) = true := by rw [less_raw, hlt]; rfl
            have H0 := hide (And.intro hj (And.intro h00 (And.intro c0 (And.intro h6 hlt))))
            clear h0 h00 hj c0 h6 hlt
            go_wp2_with fail
            refine (wpIn_wide (n := 0)).1 (drrG wide_plain g o n ca k j (f k) (f k).P (f j).P _ _ _ _ rfl rfl rfl hkn hn HX.out.1 HX.out.2.2.2.2.2.2 H1.out HX.out.2.1 HX.out.2.2.2.1 HX.out.2.2.1 HX.out.2.2.2.2.1 HX.out.2.2.2.2.2.1 H0.out.2.1 (hide H0.out.1) H0.out.2.2.1 H0.out.2.2.2.1 ?_)
            intro vs W5 hb5 h64
            simp only [List.foldl_cons, List.foldl_nil, List.setIfInBounds_toArray, List.set_cons_succ, List.set_cons_zero]
            rw [h64]
            have H5 := hide (HC.out.2.trans (hb5.mono HC.out.2.size))
            clear h64 hb5
            go_wp2_with fail
            go_ret
            exact ⟨by rw [HH.out.2, HD.out.2.2.1 j H0.out.1 H0.out.2.2.2.2, Bool.and_false, Bool.false_and]; rfl, H5.out⟩
          | true =>
            have h6 : (!Op.bytesLess (f j).P (f k).P) = false := by rw [less_raw, hlt]; rfl
            have H0 := hide (And.intro hj (And.intro h00 (And.intro c0 (And.intro h6 hlt))))
            clear h0 h00 hj c0 h6 hlt
            go_wp2_with fail
            refine (wpIn_wide (n := 0)).1 (drrB wide_plain g o n ca k j (f k) (f k).P (f j).P _ _ _ _ rfl rfl rfl hkn hn HX.out.1 HX.out.2.2.2.2.2.2 H1.out HX.out.2.1 HX.out.2.2.2.1 HX.out.2.2.1 HX.out.2.2.2.2.1 HX.out.2.2.2.2.2.1 H0.out.2.1 (hide H0.out.1) H0.out.2.2.1 H0.out.2.2.2.1 ?_)
            intro vs W5 hb5 h64
            simp only [List.foldl_cons, List.foldl_nil, List.setIfInBounds_toArray, List.set_cons_succ, List.set_cons_zero]
            rw [h64]
            have H5 := hide (HC.out.2.trans (hb5.mono HC.out.2.size))
            clear h64 hb5
            go_wp2_with fail
            go_roundg q
            case measure => omega
            case rel => exact ⟨k + 1, by omega, by go_num, ⟨HD.out.2.2.2 j H0.out.1 H1.out H0.out.2.2.2.2, HFT.out⟩, H5.out⟩
end Go.Proofs.YtpmldopbjlnknaaGreat
