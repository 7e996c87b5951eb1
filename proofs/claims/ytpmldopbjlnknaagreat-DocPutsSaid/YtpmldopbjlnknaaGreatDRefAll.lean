/-
  Drawn regions of mudlarkref22 (written by tools/gen-dref.py).
-/
import Derived.Test.YtpmldopbjlnknaaGreatDRefG
set_option maxHeartbeats 4000000
set_option maxRecDepth 100000
set_option linter.unusedVariables false
set_option linter.unusedSimpArgs false
namespace Go.Proofs.YtpmldopbjlnknaaGreat
open Go.RowKit Go.Shelf
def drrD_val (gD oD n cD i jp : Nat) (d : DT) (P PQ : List UInt8) : Nat → Value → World → Prop
 | 0, v, w => v = .slice (some ⟨gD, oD, none⟩) n cD
 | 1, v, w => v = .int .i64 (i : Nat)
 | 2, v, w => v = .pointer (some ⟨gD, oD + i * 4, none⟩)
 | 3, v, w => v = .pointer (some ⟨gD, oD + i * 4, none⟩)
 | 4, v, w => v = by8 P
 | 5, v, w => v = .bool true
 | 6, v, w => v = .bool false
 | 7, v, w => v = .bool false
 | 8, v, w => v = .slice (some ⟨gD, oD, none⟩) n cD
 | 9, v, w => v = .int .i64 (i : Nat)
 | 10, v, w => v = .pointer (some ⟨gD, oD + i * 4, none⟩)
 | 11, v, w => v = .pointer (some ⟨gD, oD + i * 4 + 1, none⟩)
 | 12, v, w => v = by8 d.L
 | 13, v, w => v = .slice (some ⟨gD, oD, none⟩) n cD
 | 14, v, w => v = .int .i64 (i : Nat)
 | 15, v, w => v = .pointer (some ⟨gD, oD + i * 4, none⟩)
 | 16, v, w => v = .pointer (some ⟨gD, oD + i * 4, none⟩)
 | 17, v, w => v = by8 P
 | 18, v, w => v = by8 (ofL P)
 | 19, v, w | 20, v, w | 21, v, w => v = .bool true
 | 22, v, w | 23, v, w | 24, v, w | 25, v, w | 26, v, w | 27, v, w => v = undef
 | 28, v, w => v = .bool true
 | 29, v, w => v = .bool true
 | 30, v, w | 31, v, w | 32, v, w | 33, v, w | 34, v, w | 35, v, w => v = undef
 | 36, v, w => v = .bool true
 | 37, v, w => v = .bool true
 | 38, v, w | 39, v, w | 40, v, w | 41, v, w | 42, v, w | 43, v, w | 44, v, w | 45, v, w | 46, v, w | 47, v, w | 48, v, w | 49, v, w | 50, v, w | 51, v, w | 52, v, w | 53, v, w => v = undef
 | 54, v, w => v = .bool true
 | _, _, _ => True
theorem drrD_below (gD oD n cD i jp : Nat) (d : DT) (P PQ : List UInt8) (w w' : World) (hb : Below w.heap.size w w') : ∀ j v, drrD_val gD oD n cD i jp d P PQ j v w → drrD_val gD oD n cD i jp d P PQ j v w' := by
 intro j v h
 match j, h with
 | 0, h | 1, h | 2, h | 3, h | 4, h | 5, h | 6, h | 7, h | 8, h | 9, h | 10, h | 11, h | 12, h | 13, h | 14, h | 15, h | 16, h | 17, h | 18, h | 19, h | 20, h | 21, h | 22, h | 23, h | 24, h | 25, h | 26, h | 27, h | 28, h | 29, h | 30, h | 31, h | 32, h | 33, h | 34, h | 35, h | 36, h | 37, h | 38, h | 39, h | 40, h | 41, h | 42, h | 43, h | 44, h | 45, h | 46, h | 47, h | 48, h | 49, h | 50, h | 51, h | 52, h | 53, h | 54, h => exact h
 | _ + 55, h => exact h
def drrD_H (Fc : Fence) (gD oD n cD i jp : Nat) (d : DT) (P PQ : List UInt8) (df : List Deferred) (w0 : World) (x : Act) (w : World) : Prop :=
 (Wide Fc) ∧ (i < n) ∧ (n ≤ 140737488351232) ∧ (w0.cell? ⟨gD, oD + i * 4, none⟩ = some (by8 P)) ∧ (P.length ≤ 1000000) ∧ (rightP P = true) ∧ (w0.cell? ⟨gD, oD + i * 4 + 1, none⟩ = some (by8 d.L)) ∧ ((!(d.L == ofL P)) = true) ∧ (Below w0.heap.size w0 w) ∧ (x.defers = df) ∧ (x.tmps.getD 0 undef = .slice (some ⟨gD, oD, none⟩) n cD) ∧ (x.tmps.getD 3 undef = .int .i64 (i : Nat))
section
set_option maxRecDepth 100000
set_option maxHeartbeats 2000000
variable {Fc : Fence} {nC : Nat} {gD oD n cD i jp : Nat} {d : DT} {P PQ : List UInt8} {Q : Exit → Act → World → Prop} {df : List Deferred} {w0 : World} {x : Act} {w : World}
theorem drrD_s0 (H : drrD_H Fc gD oD n cD i jp d P PQ df w0 x w) : Stp Fc nC Tryz.prog drr4_ops Q 0 10 (drrD_val gD oD n cD i jp d P PQ 0) x w := by
 (obtain ⟨hF, hi, hn, d0, hp, hr, d1, h2, hB, hdef, u0, u3⟩ := H; have ho : drr4_ops[0]? = some drr4_o0 := rfl; simp only [Array.getD_eq_getD_getElem?] at u0 u3)
 (refine wpOpIn_plain ho rfl (oper_inK hF.fn (fun K hK => ?_)); clear ho; rw [Oper.semAt_plain Fc _ _ (by intro c h; cases h)]; simp only [drr4_o0]; go_simp)
 exact hK _ _ ⟨_, act_putD x hdef _ _, rfl, Below.refl _ _⟩
theorem drrD_s1 (H : drrD_H Fc gD oD n cD i jp d P PQ df w0 x w) : Stp Fc nC Tryz.prog drr4_ops Q 1 11 (drrD_val gD oD n cD i jp d P PQ 1) x w := by
 (obtain ⟨hF, hi, hn, d0, hp, hr, d1, h2, hB, hdef, u0, u3⟩ := H; have ho : drr4_ops[1]? = some drr4_o1 := rfl; simp only [Array.getD_eq_getD_getElem?] at u0 u3)
 (refine wpOpIn_plain ho rfl (oper_inK hF.fn (fun K hK => ?_)); clear ho; rw [Oper.semAt_plain Fc _ _ (by intro c h; cases h)]; simp only [drr4_o1]; go_simp)
 exact hK _ _ ⟨_, act_putD x hdef _ _, rfl, Below.refl _ _⟩
theorem drrD_s2 (H : drrD_H Fc gD oD n cD i jp d P PQ df w0 x w) (p0 : drrD_val gD oD n cD i jp d P PQ 0 (x.tmps.getD 10 undef) w) (p1 : drrD_val gD oD n cD i jp d P PQ 1 (x.tmps.getD 11 undef) w) : Stp Fc nC Tryz.prog drr4_ops Q 2 12 (drrD_val gD oD n cD i jp d P PQ 2) x w := by
 (obtain ⟨hF, hi, hn, d0, hp, hr, d1, h2, hB, hdef, u0, u3⟩ := H; have ho : drr4_ops[2]? = some drr4_o2 := rfl; simp only [Array.getD_eq_getD_getElem?] at u0 u3)
 have q0 : Array.getD (Act.tmps x) 10 undef = .slice (some ⟨gD, oD, none⟩) n cD := p0
 have q1 : Array.getD (Act.tmps x) 11 undef = .int .i64 (i : Nat) := p1
 simp only [Array.getD_eq_getD_getElem?] at q0 q1
 have i0 : (0 : Int) ≤ (i : Int) := by omega
 have i1 : (i : Int) < (n : Int) := by omega
 (refine wpOpIn_plain ho rfl (oper_inK hF.fn (fun K hK => ?_)); clear ho; rw [Oper.semAt_plain Fc _ _ (by intro c h; cases h)]; simp only [drr4_o2]; go_simp)
 exact hK _ _ ⟨_, act_putD x hdef _ _, rfl, Below.refl _ _⟩
theorem drrD_s3 (H : drrD_H Fc gD oD n cD i jp d P PQ df w0 x w) (p2 : drrD_val gD oD n cD i jp d P PQ 2 (x.tmps.getD 12 undef) w) : Stp Fc nC Tryz.prog drr4_ops Q 3 13 (drrD_val gD oD n cD i jp d P PQ 3) x w := by
 (obtain ⟨hF, hi, hn, d0, hp, hr, d1, h2, hB, hdef, u0, u3⟩ := H; have ho : drr4_ops[3]? = some drr4_o3 := rfl; simp only [Array.getD_eq_getD_getElem?] at u0 u3)
 have q2 : Array.getD (Act.tmps x) 12 undef = .pointer (some ⟨gD, oD + i * 4, none⟩) := p2
 simp only [Array.getD_eq_getD_getElem?] at q2
 (refine wpOpIn_plain ho rfl (oper_inK hF.fn (fun K hK => ?_)); clear ho; rw [Oper.semAt_plain Fc _ _ (by intro c h; cases h)]; simp only [drr4_o3]; go_simp)
 exact hK _ _ ⟨_, act_putD x hdef _ _, rfl, Below.refl _ _⟩
theorem drrD_s4 (H : drrD_H Fc gD oD n cD i jp d P PQ df w0 x w) (p3 : drrD_val gD oD n cD i jp d P PQ 3 (x.tmps.getD 13 undef) w) : Stp Fc nC Tryz.prog drr4_ops Q 4 14 (drrD_val gD oD n cD i jp d P PQ 4) x w := by
 (obtain ⟨hF, hi, hn, d0, hp, hr, d1, h2, hB, hdef, u0, u3⟩ := H; have ho : drr4_ops[4]? = some drr4_o4 := rfl; simp only [Array.getD_eq_getD_getElem?] at u0 u3)
 have q3 : Array.getD (Act.tmps x) 13 undef = .pointer (some ⟨gD, oD + i * 4, none⟩) := p3
 simp only [Array.getD_eq_getD_getElem?] at q3
 have m := cell_thru d0 hB
 (refine wpOpIn_plain ho rfl (oper_inK hF.fn (fun K hK => ?_)); clear ho; rw [Oper.semAt_plain Fc _ _ (by intro c h; cases h)]; simp only [drr4_o4]; go_simp)
 exact hK _ _ ⟨_, act_putD x hdef _ _, rfl, Below.refl _ _⟩
theorem drrD_s5 (H : drrD_H Fc gD oD n cD i jp d P PQ df w0 x w) (p4 : drrD_val gD oD n cD i jp d P PQ 4 (x.tmps.getD 14 undef) w) : Stp Fc nC Tryz.prog drr4_ops Q 5 15 (drrD_val gD oD n cD i jp d P PQ 5) x w := by
 (obtain ⟨hF, hi, hn, d0, hp, hr, d1, h2, hB, hdef, u0, u3⟩ := H; have ho : drr4_ops[5]? = some drr4_o5 := rfl; simp only [Array.getD_eq_getD_getElem?] at u0 u3)
 have q4 : Array.getD (Act.tmps x) 14 undef = by8 P := p4
 simp only [Array.getD_eq_getD_getElem?] at q4
 (refine wpOpIn_plain ho rfl (oper_inK hF.fn (fun K hK => ?_)); clear ho; rw [Oper.semAt_plain Fc _ _ (by intro c h; cases h)]; simp only [drr4_o5]; go_simp)
 refine ⟨hF.deep, (hF.call (refRight_any P w hp)).mono ?_⟩
 rintro e w' ⟨rfl, hb⟩
 exact hK _ _ ⟨_, act_putD x hdef _ _, by rw [hr]; exact rfl, hb⟩
theorem drrD_s6 (H : drrD_H Fc gD oD n cD i jp d P PQ df w0 x w) (p5 : drrD_val gD oD n cD i jp d P PQ 5 (x.tmps.getD 15 undef) w) : Stp Fc nC Tryz.prog drr4_ops Q 6 16 (drrD_val gD oD n cD i jp d P PQ 6) x w := by
 (obtain ⟨hF, hi, hn, d0, hp, hr, d1, h2, hB, hdef, u0, u3⟩ := H; have ho : drr4_ops[6]? = some drr4_o6 := rfl; simp only [Array.getD_eq_getD_getElem?] at u0 u3)
 have q5 : Array.getD (Act.tmps x) 15 undef = .bool true := p5
 simp only [Array.getD_eq_getD_getElem?] at q5
 (refine wpOpIn_plain ho rfl (oper_inK hF.fn (fun K hK => ?_)); clear ho; rw [Oper.semAt_plain Fc _ _ (by intro c h; cases h)]; simp only [drr4_o6]; go_simp)
 exact hK _ _ ⟨_, act_putD x hdef _ _, rfl, Below.refl _ _⟩
theorem drrD_s7 (H : drrD_H Fc gD oD n cD i jp d P PQ df w0 x w) (p6 : drrD_val gD oD n cD i jp d P PQ 6 (x.tmps.getD 16 undef) w) : Stp Fc nC Tryz.prog drr4_ops Q 7 17 (drrD_val gD oD n cD i jp d P PQ 7) x w := by
 (obtain ⟨hF, hi, hn, d0, hp, hr, d1, h2, hB, hdef, u0, u3⟩ := H; have ho : drr4_ops[7]? = some drr4_o7 := rfl; simp only [Array.getD_eq_getD_getElem?] at u0 u3)
 have q6 : Array.getD (Act.tmps x) 16 undef = .bool false := p6
 simp only [Array.getD_eq_getD_getElem?] at q6
 (refine wpOpIn_plain ho rfl (oper_inK hF.fn (fun K hK => ?_)); clear ho; rw [Oper.semAt_plain Fc _ _ (by intro c h; cases h)]; simp only [drr4_o7]; go_simp)
 exact hK _ _ ⟨_, act_putD x hdef _ _, rfl, Below.refl _ _⟩
theorem drrD_s8 (H : drrD_H Fc gD oD n cD i jp d P PQ df w0 x w) (p7 : drrD_val gD oD n cD i jp d P PQ 7 (x.tmps.getD 17 undef) w) : Stp Fc nC Tryz.prog drr4_ops Q 8 18 (drrD_val gD oD n cD i jp d P PQ 8) x w := by
 (obtain ⟨hF, hi, hn, d0, hp, hr, d1, h2, hB, hdef, u0, u3⟩ := H; have ho : drr4_ops[8]? = some drr4_o8 := rfl; simp only [Array.getD_eq_getD_getElem?] at u0 u3)
 have q7 : Array.getD (Act.tmps x) 17 undef = .bool false := p7
 simp only [Array.getD_eq_getD_getElem?] at q7
 (have e7 : (drr4_ops[7]?.bind fun x => x.dst) = some 17 := rfl; have g7 := get_someT q7 (fun h => by cases h))
 (refine wpOpIn_stepT hF ho (fun K hK => ?_); clear ho; rw [Oper.semAt_plain Fc _ _ (by intro c h; cases h)]; simp only [drr4_o8]; go_simp)
 exact hK _ _ ⟨_, act_putD x hdef _ _, rfl, Below.refl _ _⟩
theorem drrD_s9 (H : drrD_H Fc gD oD n cD i jp d P PQ df w0 x w) (p7 : drrD_val gD oD n cD i jp d P PQ 7 (x.tmps.getD 17 undef) w) : Stp Fc nC Tryz.prog drr4_ops Q 9 19 (drrD_val gD oD n cD i jp d P PQ 9) x w := by
 (obtain ⟨hF, hi, hn, d0, hp, hr, d1, h2, hB, hdef, u0, u3⟩ := H; have ho : drr4_ops[9]? = some drr4_o9 := rfl; simp only [Array.getD_eq_getD_getElem?] at u0 u3)
 have q7 : Array.getD (Act.tmps x) 17 undef = .bool false := p7
 simp only [Array.getD_eq_getD_getElem?] at q7
 (have e7 : (drr4_ops[7]?.bind fun x => x.dst) = some 17 := rfl; have g7 := get_someT q7 (fun h => by cases h))
 (refine wpOpIn_stepT hF ho (fun K hK => ?_); clear ho; rw [Oper.semAt_plain Fc _ _ (by intro c h; cases h)]; simp only [drr4_o9]; go_simp)
 exact hK _ _ ⟨_, act_putD x hdef _ _, rfl, Below.refl _ _⟩
theorem drrD_s10 (H : drrD_H Fc gD oD n cD i jp d P PQ df w0 x w) (p8 : drrD_val gD oD n cD i jp d P PQ 8 (x.tmps.getD 18 undef) w) (p9 : drrD_val gD oD n cD i jp d P PQ 9 (x.tmps.getD 19 undef) w) (p7 : drrD_val gD oD n cD i jp d P PQ 7 (x.tmps.getD 17 undef) w) : Stp Fc nC Tryz.prog drr4_ops Q 10 20 (drrD_val gD oD n cD i jp d P PQ 10) x w := by
 (obtain ⟨hF, hi, hn, d0, hp, hr, d1, h2, hB, hdef, u0, u3⟩ := H; have ho : drr4_ops[10]? = some drr4_o10 := rfl; simp only [Array.getD_eq_getD_getElem?] at u0 u3)
 have q8 : Array.getD (Act.tmps x) 18 undef = .slice (some ⟨gD, oD, none⟩) n cD := p8
 have q9 : Array.getD (Act.tmps x) 19 undef = .int .i64 (i : Nat) := p9
 have q7 : Array.getD (Act.tmps x) 17 undef = .bool false := p7
 simp only [Array.getD_eq_getD_getElem?] at q8 q9 q7
 (have e7 : (drr4_ops[7]?.bind fun x => x.dst) = some 17 := rfl; have g7 := get_someT q7 (fun h => by cases h))
 have i0 : (0 : Int) ≤ (i : Int) := by omega
 have i1 : (i : Int) < (n : Int) := by omega
 (refine wpOpIn_stepT hF ho (fun K hK => ?_); clear ho; rw [Oper.semAt_plain Fc _ _ (by intro c h; cases h)]; simp only [drr4_o10]; go_simp)
 exact hK _ _ ⟨_, act_putD x hdef _ _, rfl, Below.refl _ _⟩
theorem drrD_s11 (H : drrD_H Fc gD oD n cD i jp d P PQ df w0 x w) (p10 : drrD_val gD oD n cD i jp d P PQ 10 (x.tmps.getD 20 undef) w) (p7 : drrD_val gD oD n cD i jp d P PQ 7 (x.tmps.getD 17 undef) w) : Stp Fc nC Tryz.prog drr4_ops Q 11 21 (drrD_val gD oD n cD i jp d P PQ 11) x w := by
 (obtain ⟨hF, hi, hn, d0, hp, hr, d1, h2, hB, hdef, u0, u3⟩ := H; have ho : drr4_ops[11]? = some drr4_o11 := rfl; simp only [Array.getD_eq_getD_getElem?] at u0 u3)
 have q10 : Array.getD (Act.tmps x) 20 undef = .pointer (some ⟨gD, oD + i * 4, none⟩) := p10
 have q7 : Array.getD (Act.tmps x) 17 undef = .bool false := p7
 simp only [Array.getD_eq_getD_getElem?] at q10 q7
 (have e7 : (drr4_ops[7]?.bind fun x => x.dst) = some 17 := rfl; have g7 := get_someT q7 (fun h => by cases h))
 (refine wpOpIn_stepT hF ho (fun K hK => ?_); clear ho; rw [Oper.semAt_plain Fc _ _ (by intro c h; cases h)]; simp only [drr4_o11]; go_simp)
 exact hK _ _ ⟨_, act_putD x hdef _ _, rfl, Below.refl _ _⟩
theorem drrD_s12 (H : drrD_H Fc gD oD n cD i jp d P PQ df w0 x w) (p11 : drrD_val gD oD n cD i jp d P PQ 11 (x.tmps.getD 21 undef) w) (p7 : drrD_val gD oD n cD i jp d P PQ 7 (x.tmps.getD 17 undef) w) : Stp Fc nC Tryz.prog drr4_ops Q 12 22 (drrD_val gD oD n cD i jp d P PQ 12) x w := by
 (obtain ⟨hF, hi, hn, d0, hp, hr, d1, h2, hB, hdef, u0, u3⟩ := H; have ho : drr4_ops[12]? = some drr4_o12 := rfl; simp only [Array.getD_eq_getD_getElem?] at u0 u3)
 have q11 : Array.getD (Act.tmps x) 21 undef = .pointer (some ⟨gD, oD + i * 4 + 1, none⟩) := p11
 have q7 : Array.getD (Act.tmps x) 17 undef = .bool false := p7
 simp only [Array.getD_eq_getD_getElem?] at q11 q7
 (have e7 : (drr4_ops[7]?.bind fun x => x.dst) = some 17 := rfl; have g7 := get_someT q7 (fun h => by cases h))
 have m := cell_thru d1 hB
 (refine wpOpIn_stepT hF ho (fun K hK => ?_); clear ho; rw [Oper.semAt_plain Fc _ _ (by intro c h; cases h)]; simp only [drr4_o12]; go_simp)
 exact hK _ _ ⟨_, act_putD x hdef _ _, rfl, Below.refl _ _⟩
theorem drrD_s13 (H : drrD_H Fc gD oD n cD i jp d P PQ df w0 x w) (p7 : drrD_val gD oD n cD i jp d P PQ 7 (x.tmps.getD 17 undef) w) : Stp Fc nC Tryz.prog drr4_ops Q 13 23 (drrD_val gD oD n cD i jp d P PQ 13) x w := by
 (obtain ⟨hF, hi, hn, d0, hp, hr, d1, h2, hB, hdef, u0, u3⟩ := H; have ho : drr4_ops[13]? = some drr4_o13 := rfl; simp only [Array.getD_eq_getD_getElem?] at u0 u3)
 have q7 : Array.getD (Act.tmps x) 17 undef = .bool false := p7
 simp only [Array.getD_eq_getD_getElem?] at q7
 (have e7 : (drr4_ops[7]?.bind fun x => x.dst) = some 17 := rfl; have g7 := get_someT q7 (fun h => by cases h))
 (refine wpOpIn_stepT hF ho (fun K hK => ?_); clear ho; rw [Oper.semAt_plain Fc _ _ (by intro c h; cases h)]; simp only [drr4_o13]; go_simp)
 exact hK _ _ ⟨_, act_putD x hdef _ _, rfl, Below.refl _ _⟩
theorem drrD_s14 (H : drrD_H Fc gD oD n cD i jp d P PQ df w0 x w) (p7 : drrD_val gD oD n cD i jp d P PQ 7 (x.tmps.getD 17 undef) w) : Stp Fc nC Tryz.prog drr4_ops Q 14 24 (drrD_val gD oD n cD i jp d P PQ 14) x w := by
 (obtain ⟨hF, hi, hn, d0, hp, hr, d1, h2, hB, hdef, u0, u3⟩ := H; have ho : drr4_ops[14]? = some drr4_o14 := rfl; simp only [Array.getD_eq_getD_getElem?] at u0 u3)
 have q7 : Array.getD (Act.tmps x) 17 undef = .bool false := p7
 simp only [Array.getD_eq_getD_getElem?] at q7
 (have e7 : (drr4_ops[7]?.bind fun x => x.dst) = some 17 := rfl; have g7 := get_someT q7 (fun h => by cases h))
 (refine wpOpIn_stepT hF ho (fun K hK => ?_); clear ho; rw [Oper.semAt_plain Fc _ _ (by intro c h; cases h)]; simp only [drr4_o14]; go_simp)
 exact hK _ _ ⟨_, act_putD x hdef _ _, rfl, Below.refl _ _⟩
theorem drrD_s15 (H : drrD_H Fc gD oD n cD i jp d P PQ df w0 x w) (p13 : drrD_val gD oD n cD i jp d P PQ 13 (x.tmps.getD 23 undef) w) (p14 : drrD_val gD oD n cD i jp d P PQ 14 (x.tmps.getD 24 undef) w) (p7 : drrD_val gD oD n cD i jp d P PQ 7 (x.tmps.getD 17 undef) w) : Stp Fc nC Tryz.prog drr4_ops Q 15 25 (drrD_val gD oD n cD i jp d P PQ 15) x w := by
 (obtain ⟨hF, hi, hn, d0, hp, hr, d1, h2, hB, hdef, u0, u3⟩ := H; have ho : drr4_ops[15]? = some drr4_o15 := rfl; simp only [Array.getD_eq_getD_getElem?] at u0 u3)
 have q13 : Array.getD (Act.tmps x) 23 undef = .slice (some ⟨gD, oD, none⟩) n cD := p13
 have q14 : Array.getD (Act.tmps x) 24 undef = .int .i64 (i : Nat) := p14
 have q7 : Array.getD (Act.tmps x) 17 undef = .bool false := p7
 simp only [Array.getD_eq_getD_getElem?] at q13 q14 q7
 (have e7 : (drr4_ops[7]?.bind fun x => x.dst) = some 17 := rfl; have g7 := get_someT q7 (fun h => by cases h))
 have i0 : (0 : Int) ≤ (i : Int) := by omega
 have i1 : (i : Int) < (n : Int) := by omega
 (refine wpOpIn_stepT hF ho (fun K hK => ?_); clear ho; rw [Oper.semAt_plain Fc _ _ (by intro c h; cases h)]; simp only [drr4_o15]; go_simp)
 exact hK _ _ ⟨_, act_putD x hdef _ _, rfl, Below.refl _ _⟩
theorem drrD_s16 (H : drrD_H Fc gD oD n cD i jp d P PQ df w0 x w) (p15 : drrD_val gD oD n cD i jp d P PQ 15 (x.tmps.getD 25 undef) w) (p7 : drrD_val gD oD n cD i jp d P PQ 7 (x.tmps.getD 17 undef) w) : Stp Fc nC Tryz.prog drr4_ops Q 16 26 (drrD_val gD oD n cD i jp d P PQ 16) x w := by
 (obtain ⟨hF, hi, hn, d0, hp, hr, d1, h2, hB, hdef, u0, u3⟩ := H; have ho : drr4_ops[16]? = some drr4_o16 := rfl; simp only [Array.getD_eq_getD_getElem?] at u0 u3)
 have q15 : Array.getD (Act.tmps x) 25 undef = .pointer (some ⟨gD, oD + i * 4, none⟩) := p15
 have q7 : Array.getD (Act.tmps x) 17 undef = .bool false := p7
 simp only [Array.getD_eq_getD_getElem?] at q15 q7
 (have e7 : (drr4_ops[7]?.bind fun x => x.dst) = some 17 := rfl; have g7 := get_someT q7 (fun h => by cases h))
 (refine wpOpIn_stepT hF ho (fun K hK => ?_); clear ho; rw [Oper.semAt_plain Fc _ _ (by intro c h; cases h)]; simp only [drr4_o16]; go_simp)
 exact hK _ _ ⟨_, act_putD x hdef _ _, rfl, Below.refl _ _⟩
theorem drrD_s17 (H : drrD_H Fc gD oD n cD i jp d P PQ df w0 x w) (p16 : drrD_val gD oD n cD i jp d P PQ 16 (x.tmps.getD 26 undef) w) (p7 : drrD_val gD oD n cD i jp d P PQ 7 (x.tmps.getD 17 undef) w) : Stp Fc nC Tryz.prog drr4_ops Q 17 27 (drrD_val gD oD n cD i jp d P PQ 17) x w := by
 (obtain ⟨hF, hi, hn, d0, hp, hr, d1, h2, hB, hdef, u0, u3⟩ := H; have ho : drr4_ops[17]? = some drr4_o17 := rfl; simp only [Array.getD_eq_getD_getElem?] at u0 u3)
 have q16 : Array.getD (Act.tmps x) 26 undef = .pointer (some ⟨gD, oD + i * 4, none⟩) := p16
 have q7 : Array.getD (Act.tmps x) 17 undef = .bool false := p7
 simp only [Array.getD_eq_getD_getElem?] at q16 q7
 (have e7 : (drr4_ops[7]?.bind fun x => x.dst) = some 17 := rfl; have g7 := get_someT q7 (fun h => by cases h))
 have m := cell_thru d0 hB
 (refine wpOpIn_stepT hF ho (fun K hK => ?_); clear ho; rw [Oper.semAt_plain Fc _ _ (by intro c h; cases h)]; simp only [drr4_o17]; go_simp)
 exact hK _ _ ⟨_, act_putD x hdef _ _, rfl, Below.refl _ _⟩
theorem drrD_s18 (H : drrD_H Fc gD oD n cD i jp d P PQ df w0 x w) (p17 : drrD_val gD oD n cD i jp d P PQ 17 (x.tmps.getD 27 undef) w) (p7 : drrD_val gD oD n cD i jp d P PQ 7 (x.tmps.getD 17 undef) w) : Stp Fc nC Tryz.prog drr4_ops Q 18 28 (drrD_val gD oD n cD i jp d P PQ 18) x w := by
 (obtain ⟨hF, hi, hn, d0, hp, hr, d1, h2, hB, hdef, u0, u3⟩ := H; have ho : drr4_ops[18]? = some drr4_o18 := rfl; simp only [Array.getD_eq_getD_getElem?] at u0 u3)
 have q17 : Array.getD (Act.tmps x) 27 undef = by8 P := p17
 have q7 : Array.getD (Act.tmps x) 17 undef = .bool false := p7
 simp only [Array.getD_eq_getD_getElem?] at q17 q7
 (have e7 : (drr4_ops[7]?.bind fun x => x.dst) = some 17 := rfl; have g7 := get_someT q7 (fun h => by cases h))
 (refine wpOpIn_stepT hF ho (fun K hK => ?_); clear ho; rw [Oper.semAt_plain Fc _ _ (by intro c h; cases h)]; simp only [drr4_o18]; go_simp)
 refine ⟨hF.deep, (hF.call (refOf_any P w hp)).mono ?_⟩
 rintro e w' ⟨rfl, hb⟩
 exact hK _ _ ⟨_, act_putD x hdef _ _, rfl, hb⟩
theorem drrD_s19 (H : drrD_H Fc gD oD n cD i jp d P PQ df w0 x w) (p12 : drrD_val gD oD n cD i jp d P PQ 12 (x.tmps.getD 22 undef) w) (p18 : drrD_val gD oD n cD i jp d P PQ 18 (x.tmps.getD 28 undef) w) (p7 : drrD_val gD oD n cD i jp d P PQ 7 (x.tmps.getD 17 undef) w) : Stp Fc nC Tryz.prog drr4_ops Q 19 29 (drrD_val gD oD n cD i jp d P PQ 19) x w := by
 (obtain ⟨hF, hi, hn, d0, hp, hr, d1, h2, hB, hdef, u0, u3⟩ := H; have ho : drr4_ops[19]? = some drr4_o19 := rfl; simp only [Array.getD_eq_getD_getElem?] at u0 u3)
 have q12 : Array.getD (Act.tmps x) 22 undef = by8 d.L := p12
 have q18 : Array.getD (Act.tmps x) 28 undef = by8 (ofL P) := p18
 have q7 : Array.getD (Act.tmps x) 17 undef = .bool false := p7
 simp only [Array.getD_eq_getD_getElem?] at q12 q18 q7
 (have e7 : (drr4_ops[7]?.bind fun x => x.dst) = some 17 := rfl; have g7 := get_someT q7 (fun h => by cases h))
 have m := h2
 unfold by8 at q12 q18
 (refine wpOpIn_stepT hF ho (fun K hK => ?_); clear ho; rw [Oper.semAt_plain Fc _ _ (by intro c h; cases h)]; simp only [drr4_o19]; go_simp)
 exact hK _ _ ⟨_, act_putD x hdef _ _, rfl, Below.refl _ _⟩
theorem drrD_s20 (H : drrD_H Fc gD oD n cD i jp d P PQ df w0 x w) (p7 : drrD_val gD oD n cD i jp d P PQ 7 (x.tmps.getD 17 undef) w) (p19 : drrD_val gD oD n cD i jp d P PQ 19 (x.tmps.getD 29 undef) w) : Stp Fc nC Tryz.prog drr4_ops Q 20 30 (drrD_val gD oD n cD i jp d P PQ 20) x w := by
 (obtain ⟨hF, hi, hn, d0, hp, hr, d1, h2, hB, hdef, u0, u3⟩ := H; have ho : drr4_ops[20]? = some drr4_o20 := rfl; simp only [Array.getD_eq_getD_getElem?] at u0 u3)
 have q7 : Array.getD (Act.tmps x) 17 undef = .bool false := p7
 have q19 : Array.getD (Act.tmps x) 29 undef = .bool true := p19
 simp only [Array.getD_eq_getD_getElem?] at q7 q19
 (refine wpOpIn_plain ho rfl (oper_inK hF.fn (fun K hK => ?_)); clear ho; rw [Oper.semAt_plain Fc _ _ (by intro c h; cases h)]; simp only [drr4_o20]; go_simp)
 exact hK _ _ ⟨_, act_putD x hdef _ _, rfl, Below.refl _ _⟩
theorem drrD_s21 (H : drrD_H Fc gD oD n cD i jp d P PQ df w0 x w) (p20 : drrD_val gD oD n cD i jp d P PQ 20 (x.tmps.getD 30 undef) w) : Stp Fc nC Tryz.prog drr4_ops Q 21 31 (drrD_val gD oD n cD i jp d P PQ 21) x w := by
 (obtain ⟨hF, hi, hn, d0, hp, hr, d1, h2, hB, hdef, u0, u3⟩ := H; have ho : drr4_ops[21]? = some drr4_o21 := rfl; simp only [Array.getD_eq_getD_getElem?] at u0 u3)
 have q20 : Array.getD (Act.tmps x) 30 undef = .bool true := p20
 simp only [Array.getD_eq_getD_getElem?] at q20
 (refine wpOpIn_plain ho rfl (oper_inK hF.fn (fun K hK => ?_)); clear ho; rw [Oper.semAt_plain Fc _ _ (by intro c h; cases h)]; simp only [drr4_o21]; go_simp)
 exact hK _ _ ⟨_, act_putD x hdef _ _, rfl, Below.refl _ _⟩
theorem drrD_s22 (H : drrD_H Fc gD oD n cD i jp d P PQ df w0 x w) (p21 : drrD_val gD oD n cD i jp d P PQ 21 (x.tmps.getD 31 undef) w) : Stp Fc nC Tryz.prog drr4_ops Q 22 32 (drrD_val gD oD n cD i jp d P PQ 22) x w := by
 (obtain ⟨hF, hi, hn, d0, hp, hr, d1, h2, hB, hdef, u0, u3⟩ := H; have ho : drr4_ops[22]? = some drr4_o22 := rfl; simp only [Array.getD_eq_getD_getElem?] at u0 u3)
 have q21 : Array.getD (Act.tmps x) 31 undef = .bool true := p21
 simp only [Array.getD_eq_getD_getElem?] at q21
 (have e21 : (drr4_ops[21]?.bind fun x => x.dst) = some 31 := rfl; have g21 := get_someT q21 (fun h => by cases h))
 (refine wpOpIn_stepT hF ho (fun K hK => ?_); clear ho; rw [Oper.semAt_plain Fc _ _ (by intro c h; cases h)]; simp only [drr4_o22]; go_simp)
 exact hK _ _ ⟨_, act_putD x hdef _ _, rfl, Below.refl _ _⟩
theorem drrD_s23 (H : drrD_H Fc gD oD n cD i jp d P PQ df w0 x w) (p21 : drrD_val gD oD n cD i jp d P PQ 21 (x.tmps.getD 31 undef) w) : Stp Fc nC Tryz.prog drr4_ops Q 23 33 (drrD_val gD oD n cD i jp d P PQ 23) x w := by
 (obtain ⟨hF, hi, hn, d0, hp, hr, d1, h2, hB, hdef, u0, u3⟩ := H; have ho : drr4_ops[23]? = some drr4_o23 := rfl; simp only [Array.getD_eq_getD_getElem?] at u0 u3)
 have q21 : Array.getD (Act.tmps x) 31 undef = .bool true := p21
 simp only [Array.getD_eq_getD_getElem?] at q21
 (have e21 : (drr4_ops[21]?.bind fun x => x.dst) = some 31 := rfl; have g21 := get_someT q21 (fun h => by cases h))
 (refine wpOpIn_stepT hF ho (fun K hK => ?_); clear ho; rw [Oper.semAt_plain Fc _ _ (by intro c h; cases h)]; simp only [drr4_o23]; go_simp)
 exact hK _ _ ⟨_, act_putD x hdef _ _, rfl, Below.refl _ _⟩
theorem drrD_s24 (H : drrD_H Fc gD oD n cD i jp d P PQ df w0 x w) (p22 : drrD_val gD oD n cD i jp d P PQ 22 (x.tmps.getD 32 undef) w) (p23 : drrD_val gD oD n cD i jp d P PQ 23 (x.tmps.getD 33 undef) w) (p21 : drrD_val gD oD n cD i jp d P PQ 21 (x.tmps.getD 31 undef) w) : Stp Fc nC Tryz.prog drr4_ops Q 24 34 (drrD_val gD oD n cD i jp d P PQ 24) x w := by
 (obtain ⟨hF, hi, hn, d0, hp, hr, d1, h2, hB, hdef, u0, u3⟩ := H; have ho : drr4_ops[24]? = some drr4_o24 := rfl; simp only [Array.getD_eq_getD_getElem?] at u0 u3)
 have q22 : Array.getD (Act.tmps x) 32 undef = undef := p22
 have q23 : Array.getD (Act.tmps x) 33 undef = undef := p23
 have q21 : Array.getD (Act.tmps x) 31 undef = .bool true := p21
 simp only [Array.getD_eq_getD_getElem?] at q22 q23 q21
 (have e21 : (drr4_ops[21]?.bind fun x => x.dst) = some 31 := rfl; have g21 := get_someT q21 (fun h => by cases h))
 (refine wpOpIn_stepT hF ho (fun K hK => ?_); clear ho; rw [Oper.semAt_plain Fc _ _ (by intro c h; cases h)]; simp only [drr4_o24]; go_simp)
 exact hK _ _ ⟨_, act_putD x hdef _ _, rfl, Below.refl _ _⟩
theorem drrD_s25 (H : drrD_H Fc gD oD n cD i jp d P PQ df w0 x w) (p24 : drrD_val gD oD n cD i jp d P PQ 24 (x.tmps.getD 34 undef) w) (p21 : drrD_val gD oD n cD i jp d P PQ 21 (x.tmps.getD 31 undef) w) : Stp Fc nC Tryz.prog drr4_ops Q 25 35 (drrD_val gD oD n cD i jp d P PQ 25) x w := by
 (obtain ⟨hF, hi, hn, d0, hp, hr, d1, h2, hB, hdef, u0, u3⟩ := H; have ho : drr4_ops[25]? = some drr4_o25 := rfl; simp only [Array.getD_eq_getD_getElem?] at u0 u3)
 have q24 : Array.getD (Act.tmps x) 34 undef = undef := p24
 have q21 : Array.getD (Act.tmps x) 31 undef = .bool true := p21
 simp only [Array.getD_eq_getD_getElem?] at q24 q21
 (have e21 : (drr4_ops[21]?.bind fun x => x.dst) = some 31 := rfl; have g21 := get_someT q21 (fun h => by cases h))
 (refine wpOpIn_stepT hF ho (fun K hK => ?_); clear ho; rw [Oper.semAt_plain Fc _ _ (by intro c h; cases h)]; simp only [drr4_o25]; go_simp)
 exact hK _ _ ⟨_, act_putD x hdef _ _, rfl, Below.refl _ _⟩
theorem drrD_s26 (H : drrD_H Fc gD oD n cD i jp d P PQ df w0 x w) (p25 : drrD_val gD oD n cD i jp d P PQ 25 (x.tmps.getD 35 undef) w) (p21 : drrD_val gD oD n cD i jp d P PQ 21 (x.tmps.getD 31 undef) w) : Stp Fc nC Tryz.prog drr4_ops Q 26 36 (drrD_val gD oD n cD i jp d P PQ 26) x w := by
 (obtain ⟨hF, hi, hn, d0, hp, hr, d1, h2, hB, hdef, u0, u3⟩ := H; have ho : drr4_ops[26]? = some drr4_o26 := rfl; simp only [Array.getD_eq_getD_getElem?] at u0 u3)
 have q25 : Array.getD (Act.tmps x) 35 undef = undef := p25
 have q21 : Array.getD (Act.tmps x) 31 undef = .bool true := p21
 simp only [Array.getD_eq_getD_getElem?] at q25 q21
 (have e21 : (drr4_ops[21]?.bind fun x => x.dst) = some 31 := rfl; have g21 := get_someT q21 (fun h => by cases h))
 (refine wpOpIn_stepT hF ho (fun K hK => ?_); clear ho; rw [Oper.semAt_plain Fc _ _ (by intro c h; cases h)]; simp only [drr4_o26]; go_simp)
 exact hK _ _ ⟨_, act_putD x hdef _ _, rfl, Below.refl _ _⟩
theorem drrD_s27 (H : drrD_H Fc gD oD n cD i jp d P PQ df w0 x w) (p26 : drrD_val gD oD n cD i jp d P PQ 26 (x.tmps.getD 36 undef) w) (p21 : drrD_val gD oD n cD i jp d P PQ 21 (x.tmps.getD 31 undef) w) : Stp Fc nC Tryz.prog drr4_ops Q 27 37 (drrD_val gD oD n cD i jp d P PQ 27) x w := by
 (obtain ⟨hF, hi, hn, d0, hp, hr, d1, h2, hB, hdef, u0, u3⟩ := H; have ho : drr4_ops[27]? = some drr4_o27 := rfl; simp only [Array.getD_eq_getD_getElem?] at u0 u3)
 have q26 : Array.getD (Act.tmps x) 36 undef = undef := p26
 have q21 : Array.getD (Act.tmps x) 31 undef = .bool true := p21
 simp only [Array.getD_eq_getD_getElem?] at q26 q21
 (have e21 : (drr4_ops[21]?.bind fun x => x.dst) = some 31 := rfl; have g21 := get_someT q21 (fun h => by cases h))
 (refine wpOpIn_stepT hF ho (fun K hK => ?_); clear ho; rw [Oper.semAt_plain Fc _ _ (by intro c h; cases h)]; simp only [drr4_o27]; go_simp)
 exact hK _ _ ⟨_, act_putD x hdef _ _, rfl, Below.refl _ _⟩
theorem drrD_s28 (H : drrD_H Fc gD oD n cD i jp d P PQ df w0 x w) (p21 : drrD_val gD oD n cD i jp d P PQ 21 (x.tmps.getD 31 undef) w) (p27 : drrD_val gD oD n cD i jp d P PQ 27 (x.tmps.getD 37 undef) w) : Stp Fc nC Tryz.prog drr4_ops Q 28 38 (drrD_val gD oD n cD i jp d P PQ 28) x w := by
 (obtain ⟨hF, hi, hn, d0, hp, hr, d1, h2, hB, hdef, u0, u3⟩ := H; have ho : drr4_ops[28]? = some drr4_o28 := rfl; simp only [Array.getD_eq_getD_getElem?] at u0 u3)
 have q21 : Array.getD (Act.tmps x) 31 undef = .bool true := p21
 have q27 : Array.getD (Act.tmps x) 37 undef = undef := p27
 simp only [Array.getD_eq_getD_getElem?] at q21 q27
 (refine wpOpIn_plain ho rfl (oper_inK hF.fn (fun K hK => ?_)); clear ho; rw [Oper.semAt_plain Fc _ _ (by intro c h; cases h)]; simp only [drr4_o28]; go_simp)
 exact hK _ _ ⟨_, act_putD x hdef _ _, rfl, Below.refl _ _⟩
theorem drrD_s29 (H : drrD_H Fc gD oD n cD i jp d P PQ df w0 x w) (p28 : drrD_val gD oD n cD i jp d P PQ 28 (x.tmps.getD 38 undef) w) : Stp Fc nC Tryz.prog drr4_ops Q 29 39 (drrD_val gD oD n cD i jp d P PQ 29) x w := by
 (obtain ⟨hF, hi, hn, d0, hp, hr, d1, h2, hB, hdef, u0, u3⟩ := H; have ho : drr4_ops[29]? = some drr4_o29 := rfl; simp only [Array.getD_eq_getD_getElem?] at u0 u3)
 have q28 : Array.getD (Act.tmps x) 38 undef = .bool true := p28
 simp only [Array.getD_eq_getD_getElem?] at q28
 (refine wpOpIn_plain ho rfl (oper_inK hF.fn (fun K hK => ?_)); clear ho; rw [Oper.semAt_plain Fc _ _ (by intro c h; cases h)]; simp only [drr4_o29]; go_simp)
 exact hK _ _ ⟨_, act_putD x hdef _ _, rfl, Below.refl _ _⟩
theorem drrD_s30 (H : drrD_H Fc gD oD n cD i jp d P PQ df w0 x w) (p29 : drrD_val gD oD n cD i jp d P PQ 29 (x.tmps.getD 39 undef) w) : Stp Fc nC Tryz.prog drr4_ops Q 30 40 (drrD_val gD oD n cD i jp d P PQ 30) x w := by
 (obtain ⟨hF, hi, hn, d0, hp, hr, d1, h2, hB, hdef, u0, u3⟩ := H; have ho : drr4_ops[30]? = some drr4_o30 := rfl; simp only [Array.getD_eq_getD_getElem?] at u0 u3)
 have q29 : Array.getD (Act.tmps x) 39 undef = .bool true := p29
 simp only [Array.getD_eq_getD_getElem?] at q29
 (have e29 : (drr4_ops[29]?.bind fun x => x.dst) = some 39 := rfl; have g29 := get_someT q29 (fun h => by cases h))
 (refine wpOpIn_stepT hF ho (fun K hK => ?_); clear ho; rw [Oper.semAt_plain Fc _ _ (by intro c h; cases h)]; simp only [drr4_o30]; go_simp)
 exact hK _ _ ⟨_, act_putD x hdef _ _, rfl, Below.refl _ _⟩
theorem drrD_s31 (H : drrD_H Fc gD oD n cD i jp d P PQ df w0 x w) (p29 : drrD_val gD oD n cD i jp d P PQ 29 (x.tmps.getD 39 undef) w) : Stp Fc nC Tryz.prog drr4_ops Q 31 41 (drrD_val gD oD n cD i jp d P PQ 31) x w := by
 (obtain ⟨hF, hi, hn, d0, hp, hr, d1, h2, hB, hdef, u0, u3⟩ := H; have ho : drr4_ops[31]? = some drr4_o31 := rfl; simp only [Array.getD_eq_getD_getElem?] at u0 u3)
 have q29 : Array.getD (Act.tmps x) 39 undef = .bool true := p29
 simp only [Array.getD_eq_getD_getElem?] at q29
 (have e29 : (drr4_ops[29]?.bind fun x => x.dst) = some 39 := rfl; have g29 := get_someT q29 (fun h => by cases h))
 (refine wpOpIn_stepT hF ho (fun K hK => ?_); clear ho; rw [Oper.semAt_plain Fc _ _ (by intro c h; cases h)]; simp only [drr4_o31]; go_simp)
 exact hK _ _ ⟨_, act_putD x hdef _ _, rfl, Below.refl _ _⟩
theorem drrD_s32 (H : drrD_H Fc gD oD n cD i jp d P PQ df w0 x w) (p30 : drrD_val gD oD n cD i jp d P PQ 30 (x.tmps.getD 40 undef) w) (p31 : drrD_val gD oD n cD i jp d P PQ 31 (x.tmps.getD 41 undef) w) (p29 : drrD_val gD oD n cD i jp d P PQ 29 (x.tmps.getD 39 undef) w) : Stp Fc nC Tryz.prog drr4_ops Q 32 42 (drrD_val gD oD n cD i jp d P PQ 32) x w := by
 (obtain ⟨hF, hi, hn, d0, hp, hr, d1, h2, hB, hdef, u0, u3⟩ := H; have ho : drr4_ops[32]? = some drr4_o32 := rfl; simp only [Array.getD_eq_getD_getElem?] at u0 u3)
 have q30 : Array.getD (Act.tmps x) 40 undef = undef := p30
 have q31 : Array.getD (Act.tmps x) 41 undef = undef := p31
 have q29 : Array.getD (Act.tmps x) 39 undef = .bool true := p29
 simp only [Array.getD_eq_getD_getElem?] at q30 q31 q29
 (have e29 : (drr4_ops[29]?.bind fun x => x.dst) = some 39 := rfl; have g29 := get_someT q29 (fun h => by cases h))
 (refine wpOpIn_stepT hF ho (fun K hK => ?_); clear ho; rw [Oper.semAt_plain Fc _ _ (by intro c h; cases h)]; simp only [drr4_o32]; go_simp)
 exact hK _ _ ⟨_, act_putD x hdef _ _, rfl, Below.refl _ _⟩
theorem drrD_s33 (H : drrD_H Fc gD oD n cD i jp d P PQ df w0 x w) (p32 : drrD_val gD oD n cD i jp d P PQ 32 (x.tmps.getD 42 undef) w) (p29 : drrD_val gD oD n cD i jp d P PQ 29 (x.tmps.getD 39 undef) w) : Stp Fc nC Tryz.prog drr4_ops Q 33 43 (drrD_val gD oD n cD i jp d P PQ 33) x w := by
 (obtain ⟨hF, hi, hn, d0, hp, hr, d1, h2, hB, hdef, u0, u3⟩ := H; have ho : drr4_ops[33]? = some drr4_o33 := rfl; simp only [Array.getD_eq_getD_getElem?] at u0 u3)
 have q32 : Array.getD (Act.tmps x) 42 undef = undef := p32
 have q29 : Array.getD (Act.tmps x) 39 undef = .bool true := p29
 simp only [Array.getD_eq_getD_getElem?] at q32 q29
 (have e29 : (drr4_ops[29]?.bind fun x => x.dst) = some 39 := rfl; have g29 := get_someT q29 (fun h => by cases h))
 (refine wpOpIn_stepT hF ho (fun K hK => ?_); clear ho; rw [Oper.semAt_plain Fc _ _ (by intro c h; cases h)]; simp only [drr4_o33]; go_simp)
 exact hK _ _ ⟨_, act_putD x hdef _ _, rfl, Below.refl _ _⟩
theorem drrD_s34 (H : drrD_H Fc gD oD n cD i jp d P PQ df w0 x w) (p33 : drrD_val gD oD n cD i jp d P PQ 33 (x.tmps.getD 43 undef) w) (p29 : drrD_val gD oD n cD i jp d P PQ 29 (x.tmps.getD 39 undef) w) : Stp Fc nC Tryz.prog drr4_ops Q 34 44 (drrD_val gD oD n cD i jp d P PQ 34) x w := by
 (obtain ⟨hF, hi, hn, d0, hp, hr, d1, h2, hB, hdef, u0, u3⟩ := H; have ho : drr4_ops[34]? = some drr4_o34 := rfl; simp only [Array.getD_eq_getD_getElem?] at u0 u3)
 have q33 : Array.getD (Act.tmps x) 43 undef = undef := p33
 have q29 : Array.getD (Act.tmps x) 39 undef = .bool true := p29
 simp only [Array.getD_eq_getD_getElem?] at q33 q29
 (have e29 : (drr4_ops[29]?.bind fun x => x.dst) = some 39 := rfl; have g29 := get_someT q29 (fun h => by cases h))
 (refine wpOpIn_stepT hF ho (fun K hK => ?_); clear ho; rw [Oper.semAt_plain Fc _ _ (by intro c h; cases h)]; simp only [drr4_o34]; go_simp)
 exact hK _ _ ⟨_, act_putD x hdef _ _, rfl, Below.refl _ _⟩
theorem drrD_s35 (H : drrD_H Fc gD oD n cD i jp d P PQ df w0 x w) (p34 : drrD_val gD oD n cD i jp d P PQ 34 (x.tmps.getD 44 undef) w) (p29 : drrD_val gD oD n cD i jp d P PQ 29 (x.tmps.getD 39 undef) w) : Stp Fc nC Tryz.prog drr4_ops Q 35 45 (drrD_val gD oD n cD i jp d P PQ 35) x w := by
 (obtain ⟨hF, hi, hn, d0, hp, hr, d1, h2, hB, hdef, u0, u3⟩ := H; have ho : drr4_ops[35]? = some drr4_o35 := rfl; simp only [Array.getD_eq_getD_getElem?] at u0 u3)
 have q34 : Array.getD (Act.tmps x) 44 undef = undef := p34
 have q29 : Array.getD (Act.tmps x) 39 undef = .bool true := p29
 simp only [Array.getD_eq_getD_getElem?] at q34 q29
 (have e29 : (drr4_ops[29]?.bind fun x => x.dst) = some 39 := rfl; have g29 := get_someT q29 (fun h => by cases h))
 (refine wpOpIn_stepT hF ho (fun K hK => ?_); clear ho; rw [Oper.semAt_plain Fc _ _ (by intro c h; cases h)]; simp only [drr4_o35]; go_simp)
 exact hK _ _ ⟨_, act_putD x hdef _ _, rfl, Below.refl _ _⟩
theorem drrD_s36 (H : drrD_H Fc gD oD n cD i jp d P PQ df w0 x w) (p29 : drrD_val gD oD n cD i jp d P PQ 29 (x.tmps.getD 39 undef) w) (p35 : drrD_val gD oD n cD i jp d P PQ 35 (x.tmps.getD 45 undef) w) : Stp Fc nC Tryz.prog drr4_ops Q 36 46 (drrD_val gD oD n cD i jp d P PQ 36) x w := by
 (obtain ⟨hF, hi, hn, d0, hp, hr, d1, h2, hB, hdef, u0, u3⟩ := H; have ho : drr4_ops[36]? = some drr4_o36 := rfl; simp only [Array.getD_eq_getD_getElem?] at u0 u3)
 have q29 : Array.getD (Act.tmps x) 39 undef = .bool true := p29
 have q35 : Array.getD (Act.tmps x) 45 undef = undef := p35
 simp only [Array.getD_eq_getD_getElem?] at q29 q35
 (refine wpOpIn_plain ho rfl (oper_inK hF.fn (fun K hK => ?_)); clear ho; rw [Oper.semAt_plain Fc _ _ (by intro c h; cases h)]; simp only [drr4_o36]; go_simp)
 exact hK _ _ ⟨_, act_putD x hdef _ _, rfl, Below.refl _ _⟩
theorem drrD_s37 (H : drrD_H Fc gD oD n cD i jp d P PQ df w0 x w) (p36 : drrD_val gD oD n cD i jp d P PQ 36 (x.tmps.getD 46 undef) w) : Stp Fc nC Tryz.prog drr4_ops Q 37 47 (drrD_val gD oD n cD i jp d P PQ 37) x w := by
 (obtain ⟨hF, hi, hn, d0, hp, hr, d1, h2, hB, hdef, u0, u3⟩ := H; have ho : drr4_ops[37]? = some drr4_o37 := rfl; simp only [Array.getD_eq_getD_getElem?] at u0 u3)
 have q36 : Array.getD (Act.tmps x) 46 undef = .bool true := p36
 simp only [Array.getD_eq_getD_getElem?] at q36
 (refine wpOpIn_plain ho rfl (oper_inK hF.fn (fun K hK => ?_)); clear ho; rw [Oper.semAt_plain Fc _ _ (by intro c h; cases h)]; simp only [drr4_o37]; go_simp)
 exact hK _ _ ⟨_, act_putD x hdef _ _, rfl, Below.refl _ _⟩
theorem drrD_s38 (H : drrD_H Fc gD oD n cD i jp d P PQ df w0 x w) (p37 : drrD_val gD oD n cD i jp d P PQ 37 (x.tmps.getD 47 undef) w) : Stp Fc nC Tryz.prog drr4_ops Q 38 48 (drrD_val gD oD n cD i jp d P PQ 38) x w := by
 (obtain ⟨hF, hi, hn, d0, hp, hr, d1, h2, hB, hdef, u0, u3⟩ := H; have ho : drr4_ops[38]? = some drr4_o38 := rfl; simp only [Array.getD_eq_getD_getElem?] at u0 u3)
 have q37 : Array.getD (Act.tmps x) 47 undef = .bool true := p37
 simp only [Array.getD_eq_getD_getElem?] at q37
 (have e37 : (drr4_ops[37]?.bind fun x => x.dst) = some 47 := rfl; have g37 := get_someT q37 (fun h => by cases h))
 (refine wpOpIn_stepT hF ho (fun K hK => ?_); clear ho; rw [Oper.semAt_plain Fc _ _ (by intro c h; cases h)]; simp only [drr4_o38]; go_simp)
 exact hK _ _ ⟨_, act_putD x hdef _ _, rfl, Below.refl _ _⟩
theorem drrD_s39 (H : drrD_H Fc gD oD n cD i jp d P PQ df w0 x w) (p38 : drrD_val gD oD n cD i jp d P PQ 38 (x.tmps.getD 48 undef) w) (p37 : drrD_val gD oD n cD i jp d P PQ 37 (x.tmps.getD 47 undef) w) : Stp Fc nC Tryz.prog drr4_ops Q 39 49 (drrD_val gD oD n cD i jp d P PQ 39) x w := by
 (obtain ⟨hF, hi, hn, d0, hp, hr, d1, h2, hB, hdef, u0, u3⟩ := H; have ho : drr4_ops[39]? = some drr4_o39 := rfl; simp only [Array.getD_eq_getD_getElem?] at u0 u3)
 have q38 : Array.getD (Act.tmps x) 48 undef = undef := p38
 have q37 : Array.getD (Act.tmps x) 47 undef = .bool true := p37
 simp only [Array.getD_eq_getD_getElem?] at q38 q37
 (have e37 : (drr4_ops[37]?.bind fun x => x.dst) = some 47 := rfl; have g37 := get_someT q37 (fun h => by cases h))
 (refine wpOpIn_stepT hF ho (fun K hK => ?_); clear ho; rw [Oper.semAt_plain Fc _ _ (by intro c h; cases h)]; simp only [drr4_o39]; go_simp)
 exact hK _ _ ⟨_, act_putD x hdef _ _, rfl, Below.refl _ _⟩
theorem drrD_s40 (H : drrD_H Fc gD oD n cD i jp d P PQ df w0 x w) (p39 : drrD_val gD oD n cD i jp d P PQ 39 (x.tmps.getD 49 undef) w) (p37 : drrD_val gD oD n cD i jp d P PQ 37 (x.tmps.getD 47 undef) w) : Stp Fc nC Tryz.prog drr4_ops Q 40 50 (drrD_val gD oD n cD i jp d P PQ 40) x w := by
 (obtain ⟨hF, hi, hn, d0, hp, hr, d1, h2, hB, hdef, u0, u3⟩ := H; have ho : drr4_ops[40]? = some drr4_o40 := rfl; simp only [Array.getD_eq_getD_getElem?] at u0 u3)
 have q39 : Array.getD (Act.tmps x) 49 undef = undef := p39
 have q37 : Array.getD (Act.tmps x) 47 undef = .bool true := p37
 simp only [Array.getD_eq_getD_getElem?] at q39 q37
 (have e37 : (drr4_ops[37]?.bind fun x => x.dst) = some 47 := rfl; have g37 := get_someT q37 (fun h => by cases h))
 (refine wpOpIn_stepT hF ho (fun K hK => ?_); clear ho; rw [Oper.semAt_plain Fc _ _ (by intro c h; cases h)]; simp only [drr4_o40]; go_simp)
 exact hK _ _ ⟨_, act_putD x hdef _ _, rfl, Below.refl _ _⟩
theorem drrD_s41 (H : drrD_H Fc gD oD n cD i jp d P PQ df w0 x w) (p40 : drrD_val gD oD n cD i jp d P PQ 40 (x.tmps.getD 50 undef) w) : Stp Fc nC Tryz.prog drr4_ops Q 41 51 (drrD_val gD oD n cD i jp d P PQ 41) x w := by
 (obtain ⟨hF, hi, hn, d0, hp, hr, d1, h2, hB, hdef, u0, u3⟩ := H; have ho : drr4_ops[41]? = some drr4_o41 := rfl; simp only [Array.getD_eq_getD_getElem?] at u0 u3)
 have q40 : Array.getD (Act.tmps x) 50 undef = undef := p40
 simp only [Array.getD_eq_getD_getElem?] at q40
 have e40 : (drr4_ops[40]?.bind fun x => x.dst) = some 50 := rfl
 exact op_skipped hF ho rfl e40 q40 ⟨_, rfl, rfl, Below.refl _ _⟩
theorem drrD_s42 (H : drrD_H Fc gD oD n cD i jp d P PQ df w0 x w) (p40 : drrD_val gD oD n cD i jp d P PQ 40 (x.tmps.getD 50 undef) w) : Stp Fc nC Tryz.prog drr4_ops Q 42 52 (drrD_val gD oD n cD i jp d P PQ 42) x w := by
 (obtain ⟨hF, hi, hn, d0, hp, hr, d1, h2, hB, hdef, u0, u3⟩ := H; have ho : drr4_ops[42]? = some drr4_o42 := rfl; simp only [Array.getD_eq_getD_getElem?] at u0 u3)
 have q40 : Array.getD (Act.tmps x) 50 undef = undef := p40
 simp only [Array.getD_eq_getD_getElem?] at q40
 have e40 : (drr4_ops[40]?.bind fun x => x.dst) = some 50 := rfl
 exact op_skipped hF ho rfl e40 q40 ⟨_, rfl, rfl, Below.refl _ _⟩
theorem drrD_s43 (H : drrD_H Fc gD oD n cD i jp d P PQ df w0 x w) (p42 : drrD_val gD oD n cD i jp d P PQ 42 (x.tmps.getD 52 undef) w) (p40 : drrD_val gD oD n cD i jp d P PQ 40 (x.tmps.getD 50 undef) w) : Stp Fc nC Tryz.prog drr4_ops Q 43 53 (drrD_val gD oD n cD i jp d P PQ 43) x w := by
 (obtain ⟨hF, hi, hn, d0, hp, hr, d1, h2, hB, hdef, u0, u3⟩ := H; have ho : drr4_ops[43]? = some drr4_o43 := rfl; simp only [Array.getD_eq_getD_getElem?] at u0 u3)
 have q42 : Array.getD (Act.tmps x) 52 undef = undef := p42
 have q40 : Array.getD (Act.tmps x) 50 undef = undef := p40
 simp only [Array.getD_eq_getD_getElem?] at q42 q40
 have e40 : (drr4_ops[40]?.bind fun x => x.dst) = some 50 := rfl
 exact op_skipped hF ho rfl e40 q40 ⟨_, rfl, rfl, Below.refl _ _⟩
theorem drrD_s44 (H : drrD_H Fc gD oD n cD i jp d P PQ df w0 x w) (p41 : drrD_val gD oD n cD i jp d P PQ 41 (x.tmps.getD 51 undef) w) (p43 : drrD_val gD oD n cD i jp d P PQ 43 (x.tmps.getD 53 undef) w) (p40 : drrD_val gD oD n cD i jp d P PQ 40 (x.tmps.getD 50 undef) w) : Stp Fc nC Tryz.prog drr4_ops Q 44 54 (drrD_val gD oD n cD i jp d P PQ 44) x w := by
 (obtain ⟨hF, hi, hn, d0, hp, hr, d1, h2, hB, hdef, u0, u3⟩ := H; have ho : drr4_ops[44]? = some drr4_o44 := rfl; simp only [Array.getD_eq_getD_getElem?] at u0 u3)
 have q41 : Array.getD (Act.tmps x) 51 undef = undef := p41
 have q43 : Array.getD (Act.tmps x) 53 undef = undef := p43
 have q40 : Array.getD (Act.tmps x) 50 undef = undef := p40
 simp only [Array.getD_eq_getD_getElem?] at q41 q43 q40
 have e40 : (drr4_ops[40]?.bind fun x => x.dst) = some 50 := rfl
 exact op_skipped hF ho rfl e40 q40 ⟨_, rfl, rfl, Below.refl _ _⟩
theorem drrD_s45 (H : drrD_H Fc gD oD n cD i jp d P PQ df w0 x w) (p44 : drrD_val gD oD n cD i jp d P PQ 44 (x.tmps.getD 54 undef) w) (p40 : drrD_val gD oD n cD i jp d P PQ 40 (x.tmps.getD 50 undef) w) : Stp Fc nC Tryz.prog drr4_ops Q 45 55 (drrD_val gD oD n cD i jp d P PQ 45) x w := by
 (obtain ⟨hF, hi, hn, d0, hp, hr, d1, h2, hB, hdef, u0, u3⟩ := H; have ho : drr4_ops[45]? = some drr4_o45 := rfl; simp only [Array.getD_eq_getD_getElem?] at u0 u3)
 have q44 : Array.getD (Act.tmps x) 54 undef = undef := p44
 have q40 : Array.getD (Act.tmps x) 50 undef = undef := p40
 simp only [Array.getD_eq_getD_getElem?] at q44 q40
 have e40 : (drr4_ops[40]?.bind fun x => x.dst) = some 50 := rfl
 exact op_skipped hF ho rfl e40 q40 ⟨_, rfl, rfl, Below.refl _ _⟩
theorem drrD_s46 (H : drrD_H Fc gD oD n cD i jp d P PQ df w0 x w) (p45 : drrD_val gD oD n cD i jp d P PQ 45 (x.tmps.getD 55 undef) w) (p40 : drrD_val gD oD n cD i jp d P PQ 40 (x.tmps.getD 50 undef) w) : Stp Fc nC Tryz.prog drr4_ops Q 46 56 (drrD_val gD oD n cD i jp d P PQ 46) x w := by
 (obtain ⟨hF, hi, hn, d0, hp, hr, d1, h2, hB, hdef, u0, u3⟩ := H; have ho : drr4_ops[46]? = some drr4_o46 := rfl; simp only [Array.getD_eq_getD_getElem?] at u0 u3)
 have q45 : Array.getD (Act.tmps x) 55 undef = undef := p45
 have q40 : Array.getD (Act.tmps x) 50 undef = undef := p40
 simp only [Array.getD_eq_getD_getElem?] at q45 q40
 have e40 : (drr4_ops[40]?.bind fun x => x.dst) = some 50 := rfl
 exact op_skipped hF ho rfl e40 q40 ⟨_, rfl, rfl, Below.refl _ _⟩
theorem drrD_s47 (H : drrD_H Fc gD oD n cD i jp d P PQ df w0 x w) (p40 : drrD_val gD oD n cD i jp d P PQ 40 (x.tmps.getD 50 undef) w) : Stp Fc nC Tryz.prog drr4_ops Q 47 57 (drrD_val gD oD n cD i jp d P PQ 47) x w := by
 (obtain ⟨hF, hi, hn, d0, hp, hr, d1, h2, hB, hdef, u0, u3⟩ := H; have ho : drr4_ops[47]? = some drr4_o47 := rfl; simp only [Array.getD_eq_getD_getElem?] at u0 u3)
 have q40 : Array.getD (Act.tmps x) 50 undef = undef := p40
 simp only [Array.getD_eq_getD_getElem?] at q40
 have e40 : (drr4_ops[40]?.bind fun x => x.dst) = some 50 := rfl
 exact op_skipped hF ho rfl e40 q40 ⟨_, rfl, rfl, Below.refl _ _⟩
theorem drrD_s48 (H : drrD_H Fc gD oD n cD i jp d P PQ df w0 x w) (p40 : drrD_val gD oD n cD i jp d P PQ 40 (x.tmps.getD 50 undef) w) : Stp Fc nC Tryz.prog drr4_ops Q 48 58 (drrD_val gD oD n cD i jp d P PQ 48) x w := by
 (obtain ⟨hF, hi, hn, d0, hp, hr, d1, h2, hB, hdef, u0, u3⟩ := H; have ho : drr4_ops[48]? = some drr4_o48 := rfl; simp only [Array.getD_eq_getD_getElem?] at u0 u3)
 have q40 : Array.getD (Act.tmps x) 50 undef = undef := p40
 simp only [Array.getD_eq_getD_getElem?] at q40
 have e40 : (drr4_ops[40]?.bind fun x => x.dst) = some 50 := rfl
 exact op_skipped hF ho rfl e40 q40 ⟨_, rfl, rfl, Below.refl _ _⟩
theorem drrD_s49 (H : drrD_H Fc gD oD n cD i jp d P PQ df w0 x w) (p47 : drrD_val gD oD n cD i jp d P PQ 47 (x.tmps.getD 57 undef) w) (p48 : drrD_val gD oD n cD i jp d P PQ 48 (x.tmps.getD 58 undef) w) (p40 : drrD_val gD oD n cD i jp d P PQ 40 (x.tmps.getD 50 undef) w) : Stp Fc nC Tryz.prog drr4_ops Q 49 59 (drrD_val gD oD n cD i jp d P PQ 49) x w := by
 (obtain ⟨hF, hi, hn, d0, hp, hr, d1, h2, hB, hdef, u0, u3⟩ := H; have ho : drr4_ops[49]? = some drr4_o49 := rfl; simp only [Array.getD_eq_getD_getElem?] at u0 u3)
 have q47 : Array.getD (Act.tmps x) 57 undef = undef := p47
 have q48 : Array.getD (Act.tmps x) 58 undef = undef := p48
 have q40 : Array.getD (Act.tmps x) 50 undef = undef := p40
 simp only [Array.getD_eq_getD_getElem?] at q47 q48 q40
 have e40 : (drr4_ops[40]?.bind fun x => x.dst) = some 50 := rfl
 exact op_skipped hF ho rfl e40 q40 ⟨_, rfl, rfl, Below.refl _ _⟩
theorem drrD_s50 (H : drrD_H Fc gD oD n cD i jp d P PQ df w0 x w) (p49 : drrD_val gD oD n cD i jp d P PQ 49 (x.tmps.getD 59 undef) w) (p40 : drrD_val gD oD n cD i jp d P PQ 40 (x.tmps.getD 50 undef) w) : Stp Fc nC Tryz.prog drr4_ops Q 50 60 (drrD_val gD oD n cD i jp d P PQ 50) x w := by
 (obtain ⟨hF, hi, hn, d0, hp, hr, d1, h2, hB, hdef, u0, u3⟩ := H; have ho : drr4_ops[50]? = some drr4_o50 := rfl; simp only [Array.getD_eq_getD_getElem?] at u0 u3)
 have q49 : Array.getD (Act.tmps x) 59 undef = undef := p49
 have q40 : Array.getD (Act.tmps x) 50 undef = undef := p40
 simp only [Array.getD_eq_getD_getElem?] at q49 q40
 have e40 : (drr4_ops[40]?.bind fun x => x.dst) = some 50 := rfl
 exact op_skipped hF ho rfl e40 q40 ⟨_, rfl, rfl, Below.refl _ _⟩
theorem drrD_s51 (H : drrD_H Fc gD oD n cD i jp d P PQ df w0 x w) (p50 : drrD_val gD oD n cD i jp d P PQ 50 (x.tmps.getD 60 undef) w) (p40 : drrD_val gD oD n cD i jp d P PQ 40 (x.tmps.getD 50 undef) w) : Stp Fc nC Tryz.prog drr4_ops Q 51 61 (drrD_val gD oD n cD i jp d P PQ 51) x w := by
 (obtain ⟨hF, hi, hn, d0, hp, hr, d1, h2, hB, hdef, u0, u3⟩ := H; have ho : drr4_ops[51]? = some drr4_o51 := rfl; simp only [Array.getD_eq_getD_getElem?] at u0 u3)
 have q50 : Array.getD (Act.tmps x) 60 undef = undef := p50
 have q40 : Array.getD (Act.tmps x) 50 undef = undef := p40
 simp only [Array.getD_eq_getD_getElem?] at q50 q40
 have e40 : (drr4_ops[40]?.bind fun x => x.dst) = some 50 := rfl
 exact op_skipped hF ho rfl e40 q40 ⟨_, rfl, rfl, Below.refl _ _⟩
theorem drrD_s52 (H : drrD_H Fc gD oD n cD i jp d P PQ df w0 x w) (p46 : drrD_val gD oD n cD i jp d P PQ 46 (x.tmps.getD 56 undef) w) (p51 : drrD_val gD oD n cD i jp d P PQ 51 (x.tmps.getD 61 undef) w) (p40 : drrD_val gD oD n cD i jp d P PQ 40 (x.tmps.getD 50 undef) w) : Stp Fc nC Tryz.prog drr4_ops Q 52 62 (drrD_val gD oD n cD i jp d P PQ 52) x w := by
 (obtain ⟨hF, hi, hn, d0, hp, hr, d1, h2, hB, hdef, u0, u3⟩ := H; have ho : drr4_ops[52]? = some drr4_o52 := rfl; simp only [Array.getD_eq_getD_getElem?] at u0 u3)
 have q46 : Array.getD (Act.tmps x) 56 undef = undef := p46
 have q51 : Array.getD (Act.tmps x) 61 undef = undef := p51
 have q40 : Array.getD (Act.tmps x) 50 undef = undef := p40
 simp only [Array.getD_eq_getD_getElem?] at q46 q51 q40
 have e40 : (drr4_ops[40]?.bind fun x => x.dst) = some 50 := rfl
 exact op_skipped hF ho rfl e40 q40 ⟨_, rfl, rfl, Below.refl _ _⟩
theorem drrD_s53 (H : drrD_H Fc gD oD n cD i jp d P PQ df w0 x w) (p40 : drrD_val gD oD n cD i jp d P PQ 40 (x.tmps.getD 50 undef) w) (p52 : drrD_val gD oD n cD i jp d P PQ 52 (x.tmps.getD 62 undef) w) (p37 : drrD_val gD oD n cD i jp d P PQ 37 (x.tmps.getD 47 undef) w) : Stp Fc nC Tryz.prog drr4_ops Q 53 63 (drrD_val gD oD n cD i jp d P PQ 53) x w := by
 (obtain ⟨hF, hi, hn, d0, hp, hr, d1, h2, hB, hdef, u0, u3⟩ := H; have ho : drr4_ops[53]? = some drr4_o53 := rfl; simp only [Array.getD_eq_getD_getElem?] at u0 u3)
 have q40 : Array.getD (Act.tmps x) 50 undef = undef := p40
 have q52 : Array.getD (Act.tmps x) 62 undef = undef := p52
 have q37 : Array.getD (Act.tmps x) 47 undef = .bool true := p37
 simp only [Array.getD_eq_getD_getElem?] at q40 q52 q37
 (have e37 : (drr4_ops[37]?.bind fun x => x.dst) = some 47 := rfl; have g37 := get_someT q37 (fun h => by cases h))
 (refine wpOpIn_stepT hF ho (fun K hK => ?_); clear ho; rw [Oper.semAt_plain Fc _ _ (by intro c h; cases h)]; simp only [drr4_o53]; go_simp)
 exact hK _ _ ⟨_, act_putD x hdef _ _, rfl, Below.refl _ _⟩
theorem drrD_s54 (H : drrD_H Fc gD oD n cD i jp d P PQ df w0 x w) (p37 : drrD_val gD oD n cD i jp d P PQ 37 (x.tmps.getD 47 undef) w) (p53 : drrD_val gD oD n cD i jp d P PQ 53 (x.tmps.getD 63 undef) w) : Stp Fc nC Tryz.prog drr4_ops Q 54 64 (drrD_val gD oD n cD i jp d P PQ 54) x w := by
 (obtain ⟨hF, hi, hn, d0, hp, hr, d1, h2, hB, hdef, u0, u3⟩ := H; have ho : drr4_ops[54]? = some drr4_o54 := rfl; simp only [Array.getD_eq_getD_getElem?] at u0 u3)
 have q37 : Array.getD (Act.tmps x) 47 undef = .bool true := p37
 have q53 : Array.getD (Act.tmps x) 63 undef = undef := p53
 simp only [Array.getD_eq_getD_getElem?] at q37 q53
 (refine wpOpIn_plain ho rfl (oper_inK hF.fn (fun K hK => ?_)); clear ho; rw [Oper.semAt_plain Fc _ _ (by intro c h; cases h)]; simp only [drr4_o54]; go_simp)
 exact hK _ _ ⟨_, act_putD x hdef _ _, rfl, Below.refl _ _⟩
end
section
theorem drrD {Fc : Fence} (hF : Wide Fc) {nC : Nat} (gD oD n cD i jp : Nat) (d : DT) (P PQ : List UInt8) (Q : Exit → Act → World → Prop) (t0 : Array Value) (df : List Deferred) (w0 : World) (ht : t0.size = 68)
  (hs0 : t0.getD 0 undef = .slice (some ⟨gD, oD, none⟩) n cD) (hs3 : t0.getD 3 undef = .int .i64 (i : Nat))
  (hi : i < n) (hn : n ≤ 140737488351232) (d0 : w0.cell? ⟨gD, oD + i * 4, none⟩ = some (by8 P)) (hp : P.length ≤ 1000000) (hr : rightP P = true) (d1 : w0.cell? ⟨gD, oD + i * 4 + 1, none⟩ = some (by8 d.L)) (h2 : (!(d.L == ofL P)) = true)
  (hQ : ∀ (vs : Nat → Value) (w : World), Below w0.heap.size w0 w → (vs 64 = .bool true) → Q .normal { tmps := [10, 11, 12, 13, 14, 15, 16, 17, 18, 19, 20, 21, 22, 23, 24, 25, 26, 27, 28, 29, 30, 31, 32, 33, 34, 35, 36, 37, 38, 39, 40, 41, 42, 43, 44, 45, 46, 47, 48, 49, 50, 51, 52, 53, 54, 55, 56, 57, 58, 59, 60, 61, 62, 63, 64].foldl (fun y d => y.setIfInBounds d (vs d)) t0, defers := df } w) :
  (Code.region 4 drr4_ops true).wpIn Fc nC Tryz.prog Q { tmps := t0, defers := df } w0 := by
 refine wpIn_region_tail 55 (by decide) (by kernel_rfl) (fun a b => Below a.heap.size a b) (drrD_val gD oD n cD i jp d P PQ) t0 df w0 (by rw [ht]; kernel_rfl) (by kernel_rfl) (by kernel_rfl) (by kernel_rfl) ((Below.refl _ _).drew) (fun _ _ _ h k => h.trans (k.mono h.size)) (drrD_below gD oD n cD i jp d P PQ) ?_ ?_
 ·intro j o ho hj x w hB hdef hsz hs hdeps
  have hs' : ∀ s, ¬ drr4_mem s → x.tmps.getD s undef = t0.getD s undef := fun s hn => hs s (fun j hj e => hn (by rw [e]; exact drr4_slots j hj))
  have u0 := (hs' 0 (by decide)).trans hs0
  have u3 := (hs' 3 (by decide)).trans hs3
  have H : drrD_H Fc gD oD n cD i jp d P PQ df w0 x w := ⟨hF, hi, hn, d0, hp, hr, d1, h2, hB, hdef, u0, u3⟩
  match j, ho, hj with
  | 0, ho, _ =>
    (have e : o = drr4_o0 := (Option.some.inj ho).symm; subst e)
    exact drrD_s0 H 
  | 1, ho, _ =>
    (have e : o = drr4_o1 := (Option.some.inj ho).symm; subst e)
    exact drrD_s1 H 
  | 2, ho, _ =>
    (have e : o = drr4_o2 := (Option.some.inj ho).symm; subst e)
    exact drrD_s2 H (hdeps ⟨0, .data⟩ (by simp) rfl) (hdeps ⟨1, .data⟩ (by simp) rfl)
  | 3, ho, _ =>
    (have e : o = drr4_o3 := (Option.some.inj ho).symm; subst e)
    exact drrD_s3 H (hdeps ⟨2, .data⟩ (by simp) rfl)
  | 4, ho, _ =>
    (have e : o = drr4_o4 := (Option.some.inj ho).symm; subst e)
    exact drrD_s4 H (hdeps ⟨3, .data⟩ (by simp) rfl)
  | 5, ho, _ =>
    (have e : o = drr4_o5 := (Option.some.inj ho).symm; subst e)
    exact drrD_s5 H (hdeps ⟨4, .data⟩ (by simp) rfl)
  | 6, ho, _ =>
    (have e : o = drr4_o6 := (Option.some.inj ho).symm; subst e)
    exact drrD_s6 H (hdeps ⟨5, .data⟩ (by simp) rfl)
  | 7, ho, _ =>
    (have e : o = drr4_o7 := (Option.some.inj ho).symm; subst e)
    exact drrD_s7 H (hdeps ⟨6, .data⟩ (by simp) rfl)
  | 8, ho, _ =>
    (have e : o = drr4_o8 := (Option.some.inj ho).symm; subst e)
    exact drrD_s8 H (hdeps ⟨7, .guard⟩ (by simp) rfl)
  | 9, ho, _ =>
    (have e : o = drr4_o9 := (Option.some.inj ho).symm; subst e)
    exact drrD_s9 H (hdeps ⟨7, .guard⟩ (by simp) rfl)
  | 10, ho, _ =>
    (have e : o = drr4_o10 := (Option.some.inj ho).symm; subst e)
    exact drrD_s10 H (hdeps ⟨8, .data⟩ (by simp) rfl) (hdeps ⟨9, .data⟩ (by simp) rfl) (hdeps ⟨7, .guard⟩ (by simp) rfl)
  | 11, ho, _ =>
    (have e : o = drr4_o11 := (Option.some.inj ho).symm; subst e)
    exact drrD_s11 H (hdeps ⟨10, .data⟩ (by simp) rfl) (hdeps ⟨7, .guard⟩ (by simp) rfl)
  | 12, ho, _ =>
    (have e : o = drr4_o12 := (Option.some.inj ho).symm; subst e)
    exact drrD_s12 H (hdeps ⟨11, .data⟩ (by simp) rfl) (hdeps ⟨7, .guard⟩ (by simp) rfl)
  | 13, ho, _ =>
    (have e : o = drr4_o13 := (Option.some.inj ho).symm; subst e)
    exact drrD_s13 H (hdeps ⟨7, .guard⟩ (by simp) rfl)
  | 14, ho, _ =>
    (have e : o = drr4_o14 := (Option.some.inj ho).symm; subst e)
    exact drrD_s14 H (hdeps ⟨7, .guard⟩ (by simp) rfl)
  | 15, ho, _ =>
    (have e : o = drr4_o15 := (Option.some.inj ho).symm; subst e)
    exact drrD_s15 H (hdeps ⟨13, .data⟩ (by simp) rfl) (hdeps ⟨14, .data⟩ (by simp) rfl) (hdeps ⟨7, .guard⟩ (by simp) rfl)
  | 16, ho, _ =>
    (have e : o = drr4_o16 := (Option.some.inj ho).symm; subst e)
    exact drrD_s16 H (hdeps ⟨15, .data⟩ (by simp) rfl) (hdeps ⟨7, .guard⟩ (by simp) rfl)
  | 17, ho, _ =>
    (have e : o = drr4_o17 := (Option.some.inj ho).symm; subst e)
    exact drrD_s17 H (hdeps ⟨16, .data⟩ (by simp) rfl) (hdeps ⟨7, .guard⟩ (by simp) rfl)
  | 18, ho, _ =>
    (have e : o = drr4_o18 := (Option.some.inj ho).symm; subst e)
    exact drrD_s18 H (hdeps ⟨17, .data⟩ (by simp) rfl) (hdeps ⟨7, .guard⟩ (by simp) rfl)
  | 19, ho, _ =>
    (have e : o = drr4_o19 := (Option.some.inj ho).symm; subst e)
    exact drrD_s19 H (hdeps ⟨12, .data⟩ (by simp) rfl) (hdeps ⟨18, .data⟩ (by simp) rfl) (hdeps ⟨7, .guard⟩ (by simp) rfl)
  | 20, ho, _ =>
    (have e : o = drr4_o20 := (Option.some.inj ho).symm; subst e)
    exact drrD_s20 H (hdeps ⟨7, .data⟩ (by simp) rfl) (hdeps ⟨19, .data⟩ (by simp) rfl)
  | 21, ho, _ =>
    (have e : o = drr4_o21 := (Option.some.inj ho).symm; subst e)
    exact drrD_s21 H (hdeps ⟨20, .data⟩ (by simp) rfl)
  | 22, ho, _ =>
    (have e : o = drr4_o22 := (Option.some.inj ho).symm; subst e)
    exact drrD_s22 H (hdeps ⟨21, .guard⟩ (by simp) rfl)
  | 23, ho, _ =>
    (have e : o = drr4_o23 := (Option.some.inj ho).symm; subst e)
    exact drrD_s23 H (hdeps ⟨21, .guard⟩ (by simp) rfl)
  | 24, ho, _ =>
    (have e : o = drr4_o24 := (Option.some.inj ho).symm; subst e)
    exact drrD_s24 H (hdeps ⟨22, .data⟩ (by simp) rfl) (hdeps ⟨23, .data⟩ (by simp) rfl) (hdeps ⟨21, .guard⟩ (by simp) rfl)
  | 25, ho, _ =>
    (have e : o = drr4_o25 := (Option.some.inj ho).symm; subst e)
    exact drrD_s25 H (hdeps ⟨24, .data⟩ (by simp) rfl) (hdeps ⟨21, .guard⟩ (by simp) rfl)
  | 26, ho, _ =>
    (have e : o = drr4_o26 := (Option.some.inj ho).symm; subst e)
    exact drrD_s26 H (hdeps ⟨25, .data⟩ (by simp) rfl) (hdeps ⟨21, .guard⟩ (by simp) rfl)
  | 27, ho, _ =>
    (have e : o = drr4_o27 := (Option.some.inj ho).symm; subst e)
    exact drrD_s27 H (hdeps ⟨26, .data⟩ (by simp) rfl) (hdeps ⟨21, .guard⟩ (by simp) rfl)
  | 28, ho, _ =>
    (have e : o = drr4_o28 := (Option.some.inj ho).symm; subst e)
    exact drrD_s28 H (hdeps ⟨21, .data⟩ (by simp) rfl) (hdeps ⟨27, .data⟩ (by simp) rfl)
  | 29, ho, _ =>
    (have e : o = drr4_o29 := (Option.some.inj ho).symm; subst e)
    exact drrD_s29 H (hdeps ⟨28, .data⟩ (by simp) rfl)
  | 30, ho, _ =>
    (have e : o = drr4_o30 := (Option.some.inj ho).symm; subst e)
    exact drrD_s30 H (hdeps ⟨29, .guard⟩ (by simp) rfl)
  | 31, ho, _ =>
    (have e : o = drr4_o31 := (Option.some.inj ho).symm; subst e)
    exact drrD_s31 H (hdeps ⟨29, .guard⟩ (by simp) rfl)
  | 32, ho, _ =>
    (have e : o = drr4_o32 := (Option.some.inj ho).symm; subst e)
    exact drrD_s32 H (hdeps ⟨30, .data⟩ (by simp) rfl) (hdeps ⟨31, .data⟩ (by simp) rfl) (hdeps ⟨29, .guard⟩ (by simp) rfl)
  | 33, ho, _ =>
    (have e : o = drr4_o33 := (Option.some.inj ho).symm; subst e)
    exact drrD_s33 H (hdeps ⟨32, .data⟩ (by simp) rfl) (hdeps ⟨29, .guard⟩ (by simp) rfl)
  | 34, ho, _ =>
    (have e : o = drr4_o34 := (Option.some.inj ho).symm; subst e)
    exact drrD_s34 H (hdeps ⟨33, .data⟩ (by simp) rfl) (hdeps ⟨29, .guard⟩ (by simp) rfl)
  | 35, ho, _ =>
    (have e : o = drr4_o35 := (Option.some.inj ho).symm; subst e)
    exact drrD_s35 H (hdeps ⟨34, .data⟩ (by simp) rfl) (hdeps ⟨29, .guard⟩ (by simp) rfl)
  | 36, ho, _ =>
    (have e : o = drr4_o36 := (Option.some.inj ho).symm; subst e)
    exact drrD_s36 H (hdeps ⟨29, .data⟩ (by simp) rfl) (hdeps ⟨35, .data⟩ (by simp) rfl)
  | 37, ho, _ =>
    (have e : o = drr4_o37 := (Option.some.inj ho).symm; subst e)
    exact drrD_s37 H (hdeps ⟨36, .data⟩ (by simp) rfl)
  | 38, ho, _ =>
    (have e : o = drr4_o38 := (Option.some.inj ho).symm; subst e)
    exact drrD_s38 H (hdeps ⟨37, .guard⟩ (by simp) rfl)
  | 39, ho, _ =>
    (have e : o = drr4_o39 := (Option.some.inj ho).symm; subst e)
    exact drrD_s39 H (hdeps ⟨38, .data⟩ (by simp) rfl) (hdeps ⟨37, .guard⟩ (by simp) rfl)
  | 40, ho, _ =>
    (have e : o = drr4_o40 := (Option.some.inj ho).symm; subst e)
    exact drrD_s40 H (hdeps ⟨39, .data⟩ (by simp) rfl) (hdeps ⟨37, .guard⟩ (by simp) rfl)
  | 41, ho, _ =>
    (have e : o = drr4_o41 := (Option.some.inj ho).symm; subst e)
    exact drrD_s41 H (hdeps ⟨40, .guard⟩ (by simp) rfl)
  | 42, ho, _ =>
    (have e : o = drr4_o42 := (Option.some.inj ho).symm; subst e)
    exact drrD_s42 H (hdeps ⟨40, .guard⟩ (by simp) rfl)
  | 43, ho, _ =>
    (have e : o = drr4_o43 := (Option.some.inj ho).symm; subst e)
    exact drrD_s43 H (hdeps ⟨42, .data⟩ (by simp) rfl) (hdeps ⟨40, .guard⟩ (by simp) rfl)
  | 44, ho, _ =>
    (have e : o = drr4_o44 := (Option.some.inj ho).symm; subst e)
    exact drrD_s44 H (hdeps ⟨41, .data⟩ (by simp) rfl) (hdeps ⟨43, .data⟩ (by simp) rfl) (hdeps ⟨40, .guard⟩ (by simp) rfl)
  | 45, ho, _ =>
    (have e : o = drr4_o45 := (Option.some.inj ho).symm; subst e)
    exact drrD_s45 H (hdeps ⟨44, .data⟩ (by simp) rfl) (hdeps ⟨40, .guard⟩ (by simp) rfl)
  | 46, ho, _ =>
    (have e : o = drr4_o46 := (Option.some.inj ho).symm; subst e)
    exact drrD_s46 H (hdeps ⟨45, .data⟩ (by simp) rfl) (hdeps ⟨40, .guard⟩ (by simp) rfl)
  | 47, ho, _ =>
    (have e : o = drr4_o47 := (Option.some.inj ho).symm; subst e)
    exact drrD_s47 H (hdeps ⟨40, .guard⟩ (by simp) rfl)
  | 48, ho, _ =>
    (have e : o = drr4_o48 := (Option.some.inj ho).symm; subst e)
    exact drrD_s48 H (hdeps ⟨40, .guard⟩ (by simp) rfl)
  | 49, ho, _ =>
    (have e : o = drr4_o49 := (Option.some.inj ho).symm; subst e)
    exact drrD_s49 H (hdeps ⟨47, .data⟩ (by simp) rfl) (hdeps ⟨48, .data⟩ (by simp) rfl) (hdeps ⟨40, .guard⟩ (by simp) rfl)
  | 50, ho, _ =>
    (have e : o = drr4_o50 := (Option.some.inj ho).symm; subst e)
    exact drrD_s50 H (hdeps ⟨49, .data⟩ (by simp) rfl) (hdeps ⟨40, .guard⟩ (by simp) rfl)
  | 51, ho, _ =>
    (have e : o = drr4_o51 := (Option.some.inj ho).symm; subst e)
    exact drrD_s51 H (hdeps ⟨50, .data⟩ (by simp) rfl) (hdeps ⟨40, .guard⟩ (by simp) rfl)
  | 52, ho, _ =>
    (have e : o = drr4_o52 := (Option.some.inj ho).symm; subst e)
    exact drrD_s52 H (hdeps ⟨46, .data⟩ (by simp) rfl) (hdeps ⟨51, .data⟩ (by simp) rfl) (hdeps ⟨40, .guard⟩ (by simp) rfl)
  | 53, ho, _ =>
    (have e : o = drr4_o53 := (Option.some.inj ho).symm; subst e)
    exact drrD_s53 H (hdeps ⟨40, .data⟩ (by simp) rfl) (hdeps ⟨52, .data⟩ (by simp) rfl) (hdeps ⟨37, .guard⟩ (by simp) rfl)
  | 54, ho, _ =>
    (have e : o = drr4_o54 := (Option.some.inj ho).symm; subst e)
    exact drrD_s54 H (hdeps ⟨37, .data⟩ (by simp) rfl) (hdeps ⟨53, .data⟩ (by simp) rfl)
  | k + 55, _, hj => omega
 ·intro x w hB hdef hsz hs hv
  have hx := frame_sets x.tmps t0 hsz [10, 11, 12, 13, 14, 15, 16, 17, 18, 19, 20, 21, 22, 23, 24, 25, 26, 27, 28, 29, 30, 31, 32, 33, 34, 35, 36, 37, 38, 39, 40, 41, 42, 43, 44, 45, 46, 47, 48, 49, 50, 51, 52, 53, 54, 55, 56, 57, 58, 59, 60, 61, 62, 63, 64] (fun s hn => hs s (fun j hj e => hn (by rw [e]; exact drr4_slots j hj)))
  have hq := hQ (fun d => x.tmps.getD d undef) w hB (hv 54 (by decide))
  obtain ⟨T, Df⟩ := x
  dsimp only at hx hdef hq
  subst hdef
  rw [← hx] at hq
  exact hq
end
def drrE_val (gD oD n cD i jp : Nat) (d : DT) (P PQ : List UInt8) : Nat → Value → World → Prop
 | 0, v, w => v = .slice (some ⟨gD, oD, none⟩) n cD
 | 1, v, w => v = .int .i64 (i : Nat)
 | 2, v, w => v = .pointer (some ⟨gD, oD + i * 4, none⟩)
 | 3, v, w => v = .pointer (some ⟨gD, oD + i * 4, none⟩)
 | 4, v, w => v = by8 P
 | 5, v, w => v = .bool true
 | 6, v, w => v = .bool false
 | 7, v, w => v = .bool false
 | 8, v, w => v = .slice (some ⟨gD, oD, none⟩) n cD
 | 9, v, w => v = .int .i64 (i : Nat)
 | 10, v, w => v = .pointer (some ⟨gD, oD + i * 4, none⟩)
 | 11, v, w => v = .pointer (some ⟨gD, oD + i * 4 + 1, none⟩)
 | 12, v, w => v = by8 d.L
 | 13, v, w => v = .slice (some ⟨gD, oD, none⟩) n cD
 | 14, v, w => v = .int .i64 (i : Nat)
 | 15, v, w => v = .pointer (some ⟨gD, oD + i * 4, none⟩)
 | 16, v, w => v = .pointer (some ⟨gD, oD + i * 4, none⟩)
 | 17, v, w => v = by8 P
 | 18, v, w => v = by8 (ofL P)
 | 19, v, w | 20, v, w | 21, v, w => v = .bool false
 | 22, v, w => v = .slice (some ⟨gD, oD, none⟩) n cD
 | 23, v, w => v = .int .i64 (i : Nat)
 | 24, v, w => v = .pointer (some ⟨gD, oD + i * 4, none⟩)
 | 25, v, w => v = .pointer (some ⟨gD, oD + i * 4 + 3, none⟩)
 | 26, v, w => v = .int .i64 d.Z
 | 27, v, w | 28, v, w | 29, v, w => v = .bool true
 | 30, v, w | 31, v, w | 32, v, w | 33, v, w | 34, v, w | 35, v, w => v = undef
 | 36, v, w => v = .bool true
 | 37, v, w => v = .bool true
 | 38, v, w | 39, v, w | 40, v, w | 41, v, w | 42, v, w | 43, v, w | 44, v, w | 45, v, w | 46, v, w | 47, v, w | 48, v, w | 49, v, w | 50, v, w | 51, v, w | 52, v, w | 53, v, w => v = undef
 | 54, v, w => v = .bool true
 | _, _, _ => True
theorem drrE_below (gD oD n cD i jp : Nat) (d : DT) (P PQ : List UInt8) (w w' : World) (hb : Below w.heap.size w w') : ∀ j v, drrE_val gD oD n cD i jp d P PQ j v w → drrE_val gD oD n cD i jp d P PQ j v w' := by
 intro j v h
 match j, h with
 | 0, h | 1, h | 2, h | 3, h | 4, h | 5, h | 6, h | 7, h | 8, h | 9, h | 10, h | 11, h | 12, h | 13, h | 14, h | 15, h | 16, h | 17, h | 18, h | 19, h | 20, h | 21, h | 22, h | 23, h | 24, h | 25, h | 26, h | 27, h | 28, h | 29, h | 30, h | 31, h | 32, h | 33, h | 34, h | 35, h | 36, h | 37, h | 38, h | 39, h | 40, h | 41, h | 42, h | 43, h | 44, h | 45, h | 46, h | 47, h | 48, h | 49, h | 50, h | 51, h | 52, h | 53, h | 54, h => exact h
 | _ + 55, h => exact h
def drrE_H (Fc : Fence) (gD oD n cD i jp : Nat) (d : DT) (P PQ : List UInt8) (df : List Deferred) (w0 : World) (x : Act) (w : World) : Prop :=
 (Wide Fc) ∧ (i < n) ∧ (n ≤ 140737488351232) ∧ (w0.cell? ⟨gD, oD + i * 4, none⟩ = some (by8 P)) ∧ (P.length ≤ 1000000) ∧ (rightP P = true) ∧ (w0.cell? ⟨gD, oD + i * 4 + 1, none⟩ = some (by8 d.L)) ∧ ((!(d.L == ofL P)) = false) ∧ (w0.cell? ⟨gD, oD + i * 4 + 3, none⟩ = some (.int .i64 d.Z)) ∧ (decide (d.Z < 0) = true) ∧ (Below w0.heap.size w0 w) ∧ (x.defers = df) ∧ (x.tmps.getD 0 undef = .slice (some ⟨gD, oD, none⟩) n cD) ∧ (x.tmps.getD 3 undef = .int .i64 (i : Nat))
section
set_option maxRecDepth 100000
set_option maxHeartbeats 2000000
variable {Fc : Fence} {nC : Nat} {gD oD n cD i jp : Nat} {d : DT} {P PQ : List UInt8} {Q : Exit → Act → World → Prop} {df : List Deferred} {w0 : World} {x : Act} {w : World}
theorem drrE_s0 (H : drrE_H Fc gD oD n cD i jp d P PQ df w0 x w) : Stp Fc nC Tryz.prog drr4_ops Q 0 10 (drrE_val gD oD n cD i jp d P PQ 0) x w := by
 (obtain ⟨hF, hi, hn, d0, hp, hr, d1, h2, d3, h3, hB, hdef, u0, u3⟩ := H; have ho : drr4_ops[0]? = some drr4_o0 := rfl; simp only [Array.getD_eq_getD_getElem?] at u0 u3)
 (refine wpOpIn_plain ho rfl (oper_inK hF.fn (fun K hK => ?_)); clear ho; rw [Oper.semAt_plain Fc _ _ (by intro c h; cases h)]; simp only [drr4_o0]; go_simp)
 exact hK _ _ ⟨_, act_putD x hdef _ _, rfl, Below.refl _ _⟩
theorem drrE_s1 (H : drrE_H Fc gD oD n cD i jp d P PQ df w0 x w) : Stp Fc nC Tryz.prog drr4_ops Q 1 11 (drrE_val gD oD n cD i jp d P PQ 1) x w := by
 (obtain ⟨hF, hi, hn, d0, hp, hr, d1, h2, d3, h3, hB, hdef, u0, u3⟩ := H; have ho : drr4_ops[1]? = some drr4_o1 := rfl; simp only [Array.getD_eq_getD_getElem?] at u0 u3)
 (refine wpOpIn_plain ho rfl (oper_inK hF.fn (fun K hK => ?_)); clear ho; rw [Oper.semAt_plain Fc _ _ (by intro c h; cases h)]; simp only [drr4_o1]; go_simp)
 exact hK _ _ ⟨_, act_putD x hdef _ _, rfl, Below.refl _ _⟩
theorem drrE_s2 (H : drrE_H Fc gD oD n cD i jp d P PQ df w0 x w) (p0 : drrE_val gD oD n cD i jp d P PQ 0 (x.tmps.getD 10 undef) w) (p1 : drrE_val gD oD n cD i jp d P PQ 1 (x.tmps.getD 11 undef) w) : Stp Fc nC Tryz.prog drr4_ops Q 2 12 (drrE_val gD oD n cD i jp d P PQ 2) x w := by
 (obtain ⟨hF, hi, hn, d0, hp, hr, d1, h2, d3, h3, hB, hdef, u0, u3⟩ := H; have ho : drr4_ops[2]? = some drr4_o2 := rfl; simp only [Array.getD_eq_getD_getElem?] at u0 u3)
 have q0 : Array.getD (Act.tmps x) 10 undef = .slice (some ⟨gD, oD, none⟩) n cD := p0
 have q1 : Array.getD (Act.tmps x) 11 undef = .int .i64 (i : Nat) := p1
 simp only [Array.getD_eq_getD_getElem?] at q0 q1
 have i0 : (0 : Int) ≤ (i : Int) := by omega
 have i1 : (i : Int) < (n : Int) := by omega
 (refine wpOpIn_plain ho rfl (oper_inK hF.fn (fun K hK => ?_)); clear ho; rw [Oper.semAt_plain Fc _ _ (by intro c h; cases h)]; simp only [drr4_o2]; go_simp)
 exact hK _ _ ⟨_, act_putD x hdef _ _, rfl, Below.refl _ _⟩
theorem drrE_s3 (H : drrE_H Fc gD oD n cD i jp d P PQ df w0 x w) (p2 : drrE_val gD oD n cD i jp d P PQ 2 (x.tmps.getD 12 undef) w) : Stp Fc nC Tryz.prog drr4_ops Q 3 13 (drrE_val gD oD n cD i jp d P PQ 3) x w := by
 (obtain ⟨hF, hi, hn, d0, hp, hr, d1, h2, d3, h3, hB, hdef, u0, u3⟩ := H; have ho : drr4_ops[3]? = some drr4_o3 := rfl; simp only [Array.getD_eq_getD_getElem?] at u0 u3)
 have q2 : Array.getD (Act.tmps x) 12 undef = .pointer (some ⟨gD, oD + i * 4, none⟩) := p2
 simp only [Array.getD_eq_getD_getElem?] at q2
 (refine wpOpIn_plain ho rfl (oper_inK hF.fn (fun K hK => ?_)); clear ho; rw [Oper.semAt_plain Fc _ _ (by intro c h; cases h)]; simp only [drr4_o3]; go_simp)
 exact hK _ _ ⟨_, act_putD x hdef _ _, rfl, Below.refl _ _⟩
theorem drrE_s4 (H : drrE_H Fc gD oD n cD i jp d P PQ df w0 x w) (p3 : drrE_val gD oD n cD i jp d P PQ 3 (x.tmps.getD 13 undef) w) : Stp Fc nC Tryz.prog drr4_ops Q 4 14 (drrE_val gD oD n cD i jp d P PQ 4) x w := by
 (obtain ⟨hF, hi, hn, d0, hp, hr, d1, h2, d3, h3, hB, hdef, u0, u3⟩ := H; have ho : drr4_ops[4]? = some drr4_o4 := rfl; simp only [Array.getD_eq_getD_getElem?] at u0 u3)
 have q3 : Array.getD (Act.tmps x) 13 undef = .pointer (some ⟨gD, oD + i * 4, none⟩) := p3
 simp only [Array.getD_eq_getD_getElem?] at q3
 have m := cell_thru d0 hB
 (refine wpOpIn_plain ho rfl (oper_inK hF.fn (fun K hK => ?_)); clear ho; rw [Oper.semAt_plain Fc _ _ (by intro c h; cases h)]; simp only [drr4_o4]; go_simp)
 exact hK _ _ ⟨_, act_putD x hdef _ _, rfl, Below.refl _ _⟩
theorem drrE_s5 (H : drrE_H Fc gD oD n cD i jp d P PQ df w0 x w) (p4 : drrE_val gD oD n cD i jp d P PQ 4 (x.tmps.getD 14 undef) w) : Stp Fc nC Tryz.prog drr4_ops Q 5 15 (drrE_val gD oD n cD i jp d P PQ 5) x w := by
 (obtain ⟨hF, hi, hn, d0, hp, hr, d1, h2, d3, h3, hB, hdef, u0, u3⟩ := H; have ho : drr4_ops[5]? = some drr4_o5 := rfl; simp only [Array.getD_eq_getD_getElem?] at u0 u3)
 have q4 : Array.getD (Act.tmps x) 14 undef = by8 P := p4
 simp only [Array.getD_eq_getD_getElem?] at q4
 (refine wpOpIn_plain ho rfl (oper_inK hF.fn (fun K hK => ?_)); clear ho; rw [Oper.semAt_plain Fc _ _ (by intro c h; cases h)]; simp only [drr4_o5]; go_simp)
 refine ⟨hF.deep, (hF.call (refRight_any P w hp)).mono ?_⟩
 rintro e w' ⟨rfl, hb⟩
 exact hK _ _ ⟨_, act_putD x hdef _ _, by rw [hr]; exact rfl, hb⟩
theorem drrE_s6 (H : drrE_H Fc gD oD n cD i jp d P PQ df w0 x w) (p5 : drrE_val gD oD n cD i jp d P PQ 5 (x.tmps.getD 15 undef) w) : Stp Fc nC Tryz.prog drr4_ops Q 6 16 (drrE_val gD oD n cD i jp d P PQ 6) x w := by
 (obtain ⟨hF, hi, hn, d0, hp, hr, d1, h2, d3, h3, hB, hdef, u0, u3⟩ := H; have ho : drr4_ops[6]? = some drr4_o6 := rfl; simp only [Array.getD_eq_getD_getElem?] at u0 u3)
 have q5 : Array.getD (Act.tmps x) 15 undef = .bool true := p5
 simp only [Array.getD_eq_getD_getElem?] at q5
 (refine wpOpIn_plain ho rfl (oper_inK hF.fn (fun K hK => ?_)); clear ho; rw [Oper.semAt_plain Fc _ _ (by intro c h; cases h)]; simp only [drr4_o6]; go_simp)
 exact hK _ _ ⟨_, act_putD x hdef _ _, rfl, Below.refl _ _⟩
theorem drrE_s7 (H : drrE_H Fc gD oD n cD i jp d P PQ df w0 x w) (p6 : drrE_val gD oD n cD i jp d P PQ 6 (x.tmps.getD 16 undef) w) : Stp Fc nC Tryz.prog drr4_ops Q 7 17 (drrE_val gD oD n cD i jp d P PQ 7) x w := by
 (obtain ⟨hF, hi, hn, d0, hp, hr, d1, h2, d3, h3, hB, hdef, u0, u3⟩ := H; have ho : drr4_ops[7]? = some drr4_o7 := rfl; simp only [Array.getD_eq_getD_getElem?] at u0 u3)
 have q6 : Array.getD (Act.tmps x) 16 undef = .bool false := p6
 simp only [Array.getD_eq_getD_getElem?] at q6
 (refine wpOpIn_plain ho rfl (oper_inK hF.fn (fun K hK => ?_)); clear ho; rw [Oper.semAt_plain Fc _ _ (by intro c h; cases h)]; simp only [drr4_o7]; go_simp)
 exact hK _ _ ⟨_, act_putD x hdef _ _, rfl, Below.refl _ _⟩
theorem drrE_s8 (H : drrE_H Fc gD oD n cD i jp d P PQ df w0 x w) (p7 : drrE_val gD oD n cD i jp d P PQ 7 (x.tmps.getD 17 undef) w) : Stp Fc nC Tryz.prog drr4_ops Q 8 18 (drrE_val gD oD n cD i jp d P PQ 8) x w := by
 (obtain ⟨hF, hi, hn, d0, hp, hr, d1, h2, d3, h3, hB, hdef, u0, u3⟩ := H; have ho : drr4_ops[8]? = some drr4_o8 := rfl; simp only [Array.getD_eq_getD_getElem?] at u0 u3)
 have q7 : Array.getD (Act.tmps x) 17 undef = .bool false := p7
 simp only [Array.getD_eq_getD_getElem?] at q7
 (have e7 : (drr4_ops[7]?.bind fun x => x.dst) = some 17 := rfl; have g7 := get_someT q7 (fun h => by cases h))
 (refine wpOpIn_stepT hF ho (fun K hK => ?_); clear ho; rw [Oper.semAt_plain Fc _ _ (by intro c h; cases h)]; simp only [drr4_o8]; go_simp)
 exact hK _ _ ⟨_, act_putD x hdef _ _, rfl, Below.refl _ _⟩
theorem drrE_s9 (H : drrE_H Fc gD oD n cD i jp d P PQ df w0 x w) (p7 : drrE_val gD oD n cD i jp d P PQ 7 (x.tmps.getD 17 undef) w) : Stp Fc nC Tryz.prog drr4_ops Q 9 19 (drrE_val gD oD n cD i jp d P PQ 9) x w := by
 (obtain ⟨hF, hi, hn, d0, hp, hr, d1, h2, d3, h3, hB, hdef, u0, u3⟩ := H; have ho : drr4_ops[9]? = some drr4_o9 := rfl; simp only [Array.getD_eq_getD_getElem?] at u0 u3)
 have q7 : Array.getD (Act.tmps x) 17 undef = .bool false := p7
 simp only [Array.getD_eq_getD_getElem?] at q7
 (have e7 : (drr4_ops[7]?.bind fun x => x.dst) = some 17 := rfl; have g7 := get_someT q7 (fun h => by cases h))
 (refine wpOpIn_stepT hF ho (fun K hK => ?_); clear ho; rw [Oper.semAt_plain Fc _ _ (by intro c h; cases h)]; simp only [drr4_o9]; go_simp)
 exact hK _ _ ⟨_, act_putD x hdef _ _, rfl, Below.refl _ _⟩
theorem drrE_s10 (H : drrE_H Fc gD oD n cD i jp d P PQ df w0 x w) (p8 : drrE_val gD oD n cD i jp d P PQ 8 (x.tmps.getD 18 undef) w) (p9 : drrE_val gD oD n cD i jp d P PQ 9 (x.tmps.getD 19 undef) w) (p7 : drrE_val gD oD n cD i jp d P PQ 7 (x.tmps.getD 17 undef) w) : Stp Fc nC Tryz.prog drr4_ops Q 10 20 (drrE_val gD oD n cD i jp d P PQ 10) x w := by
 (obtain ⟨hF, hi, hn, d0, hp, hr, d1, h2, d3, h3, hB, hdef, u0, u3⟩ := H; have ho : drr4_ops[10]? = some drr4_o10 := rfl; simp only [Array.getD_eq_getD_getElem?] at u0 u3)
 have q8 : Array.getD (Act.tmps x) 18 undef = .slice (some ⟨gD, oD, none⟩) n cD := p8
 have q9 : Array.getD (Act.tmps x) 19 undef = .int .i64 (i : Nat) := p9
 have q7 : Array.getD (Act.tmps x) 17 undef = .bool false := p7
 simp only [Array.getD_eq_getD_getElem?] at q8 q9 q7
 (have e7 : (drr4_ops[7]?.bind fun x => x.dst) = some 17 := rfl; have g7 := get_someT q7 (fun h => by cases h))
 have i0 : (0 : Int) ≤ (i : Int) := by omega
 have i1 : (i : Int) < (n : Int) := by omega
 (refine wpOpIn_stepT hF ho (fun K hK => ?_); clear ho; rw [Oper.semAt_plain Fc _ _ (by intro c h; cases h)]; simp only [drr4_o10]; go_simp)
 exact hK _ _ ⟨_, act_putD x hdef _ _, rfl, Below.refl _ _⟩
theorem drrE_s11 (H : drrE_H Fc gD oD n cD i jp d P PQ df w0 x w) (p10 : drrE_val gD oD n cD i jp d P PQ 10 (x.tmps.getD 20 undef) w) (p7 : drrE_val gD oD n cD i jp d P PQ 7 (x.tmps.getD 17 undef) w) : Stp Fc nC Tryz.prog drr4_ops Q 11 21 (drrE_val gD oD n cD i jp d P PQ 11) x w := by
 (obtain ⟨hF, hi, hn, d0, hp, hr, d1, h2, d3, h3, hB, hdef, u0, u3⟩ := H; have ho : drr4_ops[11]? = some drr4_o11 := rfl; simp only [Array.getD_eq_getD_getElem?] at u0 u3)
 have q10 : Array.getD (Act.tmps x) 20 undef = .pointer (some ⟨gD, oD + i * 4, none⟩) := p10
 have q7 : Array.getD (Act.tmps x) 17 undef = .bool false := p7
 simp only [Array.getD_eq_getD_getElem?] at q10 q7
 (have e7 : (drr4_ops[7]?.bind fun x => x.dst) = some 17 := rfl; have g7 := get_someT q7 (fun h => by cases h))
 (refine wpOpIn_stepT hF ho (fun K hK => ?_); clear ho; rw [Oper.semAt_plain Fc _ _ (by intro c h; cases h)]; simp only [drr4_o11]; go_simp)
 exact hK _ _ ⟨_, act_putD x hdef _ _, rfl, Below.refl _ _⟩
theorem drrE_s12 (H : drrE_H Fc gD oD n cD i jp d P PQ df w0 x w) (p11 : drrE_val gD oD n cD i jp d P PQ 11 (x.tmps.getD 21 undef) w) (p7 : drrE_val gD oD n cD i jp d P PQ 7 (x.tmps.getD 17 undef) w) : Stp Fc nC Tryz.prog drr4_ops Q 12 22 (drrE_val gD oD n cD i jp d P PQ 12) x w := by
 (obtain ⟨hF, hi, hn, d0, hp, hr, d1, h2, d3, h3, hB, hdef, u0, u3⟩ := H; have ho : drr4_ops[12]? = some drr4_o12 := rfl; simp only [Array.getD_eq_getD_getElem?] at u0 u3)
 have q11 : Array.getD (Act.tmps x) 21 undef = .pointer (some ⟨gD, oD + i * 4 + 1, none⟩) := p11
 have q7 : Array.getD (Act.tmps x) 17 undef = .bool false := p7
 simp only [Array.getD_eq_getD_getElem?] at q11 q7
 (have e7 : (drr4_ops[7]?.bind fun x => x.dst) = some 17 := rfl; have g7 := get_someT q7 (fun h => by cases h))
 have m := cell_thru d1 hB
 (refine wpOpIn_stepT hF ho (fun K hK => ?_); clear ho; rw [Oper.semAt_plain Fc _ _ (by intro c h; cases h)]; simp only [drr4_o12]; go_simp)
 exact hK _ _ ⟨_, act_putD x hdef _ _, rfl, Below.refl _ _⟩
theorem drrE_s13 (H : drrE_H Fc gD oD n cD i jp d P PQ df w0 x w) (p7 : drrE_val gD oD n cD i jp d P PQ 7 (x.tmps.getD 17 undef) w) : Stp Fc nC Tryz.prog drr4_ops Q 13 23 (drrE_val gD oD n cD i jp d P PQ 13) x w := by
 (obtain ⟨hF, hi, hn, d0, hp, hr, d1, h2, d3, h3, hB, hdef, u0, u3⟩ := H; have ho : drr4_ops[13]? = some drr4_o13 := rfl; simp only [Array.getD_eq_getD_getElem?] at u0 u3)
 have q7 : Array.getD (Act.tmps x) 17 undef = .bool false := p7
 simp only [Array.getD_eq_getD_getElem?] at q7
 (have e7 : (drr4_ops[7]?.bind fun x => x.dst) = some 17 := rfl; have g7 := get_someT q7 (fun h => by cases h))
 (refine wpOpIn_stepT hF ho (fun K hK => ?_); clear ho; rw [Oper.semAt_plain Fc _ _ (by intro c h; cases h)]; simp only [drr4_o13]; go_simp)
 exact hK _ _ ⟨_, act_putD x hdef _ _, rfl, Below.refl _ _⟩
theorem drrE_s14 (H : drrE_H Fc gD oD n cD i jp d P PQ df w0 x w) (p7 : drrE_val gD oD n cD i jp d P PQ 7 (x.tmps.getD 17 undef) w) : Stp Fc nC Tryz.prog drr4_ops Q 14 24 (drrE_val gD oD n cD i jp d P PQ 14) x w := by
 (obtain ⟨hF, hi, hn, d0, hp, hr, d1, h2, d3, h3, hB, hdef, u0, u3⟩ := H; have ho : drr4_ops[14]? = some drr4_o14 := rfl; simp only [Array.getD_eq_getD_getElem?] at u0 u3)
 have q7 : Array.getD (Act.tmps x) 17 undef = .bool false := p7
 simp only [Array.getD_eq_getD_getElem?] at q7
 (have e7 : (drr4_ops[7]?.bind fun x => x.dst) = some 17 := rfl; have g7 := get_someT q7 (fun h => by cases h))
 (refine wpOpIn_stepT hF ho (fun K hK => ?_); clear ho; rw [Oper.semAt_plain Fc _ _ (by intro c h; cases h)]; simp only [drr4_o14]; go_simp)
 exact hK _ _ ⟨_, act_putD x hdef _ _, rfl, Below.refl _ _⟩
theorem drrE_s15 (H : drrE_H Fc gD oD n cD i jp d P PQ df w0 x w) (p13 : drrE_val gD oD n cD i jp d P PQ 13 (x.tmps.getD 23 undef) w) (p14 : drrE_val gD oD n cD i jp d P PQ 14 (x.tmps.getD 24 undef) w) (p7 : drrE_val gD oD n cD i jp d P PQ 7 (x.tmps.getD 17 undef) w) : Stp Fc nC Tryz.prog drr4_ops Q 15 25 (drrE_val gD oD n cD i jp d P PQ 15) x w := by
 (obtain ⟨hF, hi, hn, d0, hp, hr, d1, h2, d3, h3, hB, hdef, u0, u3⟩ := H; have ho : drr4_ops[15]? = some drr4_o15 := rfl; simp only [Array.getD_eq_getD_getElem?] at u0 u3)
 have q13 : Array.getD (Act.tmps x) 23 undef = .slice (some ⟨gD, oD, none⟩) n cD := p13
 have q14 : Array.getD (Act.tmps x) 24 undef = .int .i64 (i : Nat) := p14
 have q7 : Array.getD (Act.tmps x) 17 undef = .bool false := p7
 simp only [Array.getD_eq_getD_getElem?] at q13 q14 q7
 (have e7 : (drr4_ops[7]?.bind fun x => x.dst) = some 17 := rfl; have g7 := get_someT q7 (fun h => by cases h))
 have i0 : (0 : Int) ≤ (i : Int) := by omega
 have i1 : (i : Int) < (n : Int) := by omega
 (refine wpOpIn_stepT hF ho (fun K hK => ?_); clear ho; rw [Oper.semAt_plain Fc _ _ (by intro c h; cases h)]; simp only [drr4_o15]; go_simp)
 exact hK _ _ ⟨_, act_putD x hdef _ _, rfl, Below.refl _ _⟩
theorem drrE_s16 (H : drrE_H Fc gD oD n cD i jp d P PQ df w0 x w) (p15 : drrE_val gD oD n cD i jp d P PQ 15 (x.tmps.getD 25 undef) w) (p7 : drrE_val gD oD n cD i jp d P PQ 7 (x.tmps.getD 17 undef) w) : Stp Fc nC Tryz.prog drr4_ops Q 16 26 (drrE_val gD oD n cD i jp d P PQ 16) x w := by
 (obtain ⟨hF, hi, hn, d0, hp, hr, d1, h2, d3, h3, hB, hdef, u0, u3⟩ := H; have ho : drr4_ops[16]? = some drr4_o16 := rfl; simp only [Array.getD_eq_getD_getElem?] at u0 u3)
 have q15 : Array.getD (Act.tmps x) 25 undef = .pointer (some ⟨gD, oD + i * 4, none⟩) := p15
 have q7 : Array.getD (Act.tmps x) 17 undef = .bool false := p7
 simp only [Array.getD_eq_getD_getElem?] at q15 q7
 (have e7 : (drr4_ops[7]?.bind fun x => x.dst) = some 17 := rfl; have g7 := get_someT q7 (fun h => by cases h))
 (refine wpOpIn_stepT hF ho (fun K hK => ?_); clear ho; rw [Oper.semAt_plain Fc _ _ (by intro c h; cases h)]; simp only [drr4_o16]; go_simp)
 exact hK _ _ ⟨_, act_putD x hdef _ _, rfl, Below.refl _ _⟩
theorem drrE_s17 (H : drrE_H Fc gD oD n cD i jp d P PQ df w0 x w) (p16 : drrE_val gD oD n cD i jp d P PQ 16 (x.tmps.getD 26 undef) w) (p7 : drrE_val gD oD n cD i jp d P PQ 7 (x.tmps.getD 17 undef) w) : Stp Fc nC Tryz.prog drr4_ops Q 17 27 (drrE_val gD oD n cD i jp d P PQ 17) x w := by
 (obtain ⟨hF, hi, hn, d0, hp, hr, d1, h2, d3, h3, hB, hdef, u0, u3⟩ := H; have ho : drr4_ops[17]? = some drr4_o17 := rfl; simp only [Array.getD_eq_getD_getElem?] at u0 u3)
 have q16 : Array.getD (Act.tmps x) 26 undef = .pointer (some ⟨gD, oD + i * 4, none⟩) := p16
 have q7 : Array.getD (Act.tmps x) 17 undef = .bool false := p7
 simp only [Array.getD_eq_getD_getElem?] at q16 q7
 (have e7 : (drr4_ops[7]?.bind fun x => x.dst) = some 17 := rfl; have g7 := get_someT q7 (fun h => by cases h))
 have m := cell_thru d0 hB
 (refine wpOpIn_stepT hF ho (fun K hK => ?_); clear ho; rw [Oper.semAt_plain Fc _ _ (by intro c h; cases h)]; simp only [drr4_o17]; go_simp)
 exact hK _ _ ⟨_, act_putD x hdef _ _, rfl, Below.refl _ _⟩
theorem drrE_s18 (H : drrE_H Fc gD oD n cD i jp d P PQ df w0 x w) (p17 : drrE_val gD oD n cD i jp d P PQ 17 (x.tmps.getD 27 undef) w) (p7 : drrE_val gD oD n cD i jp d P PQ 7 (x.tmps.getD 17 undef) w) : Stp Fc nC Tryz.prog drr4_ops Q 18 28 (drrE_val gD oD n cD i jp d P PQ 18) x w := by
 (obtain ⟨hF, hi, hn, d0, hp, hr, d1, h2, d3, h3, hB, hdef, u0, u3⟩ := H; have ho : drr4_ops[18]? = some drr4_o18 := rfl; simp only [Array.getD_eq_getD_getElem?] at u0 u3)
 have q17 : Array.getD (Act.tmps x) 27 undef = by8 P := p17
 have q7 : Array.getD (Act.tmps x) 17 undef = .bool false := p7
 simp only [Array.getD_eq_getD_getElem?] at q17 q7
 (have e7 : (drr4_ops[7]?.bind fun x => x.dst) = some 17 := rfl; have g7 := get_someT q7 (fun h => by cases h))
 (refine wpOpIn_stepT hF ho (fun K hK => ?_); clear ho; rw [Oper.semAt_plain Fc _ _ (by intro c h; cases h)]; simp only [drr4_o18]; go_simp)
 refine ⟨hF.deep, (hF.call (refOf_any P w hp)).mono ?_⟩
 rintro e w' ⟨rfl, hb⟩
 exact hK _ _ ⟨_, act_putD x hdef _ _, rfl, hb⟩
theorem drrE_s19 (H : drrE_H Fc gD oD n cD i jp d P PQ df w0 x w) (p12 : drrE_val gD oD n cD i jp d P PQ 12 (x.tmps.getD 22 undef) w) (p18 : drrE_val gD oD n cD i jp d P PQ 18 (x.tmps.getD 28 undef) w) (p7 : drrE_val gD oD n cD i jp d P PQ 7 (x.tmps.getD 17 undef) w) : Stp Fc nC Tryz.prog drr4_ops Q 19 29 (drrE_val gD oD n cD i jp d P PQ 19) x w := by
 (obtain ⟨hF, hi, hn, d0, hp, hr, d1, h2, d3, h3, hB, hdef, u0, u3⟩ := H; have ho : drr4_ops[19]? = some drr4_o19 := rfl; simp only [Array.getD_eq_getD_getElem?] at u0 u3)
 have q12 : Array.getD (Act.tmps x) 22 undef = by8 d.L := p12
 have q18 : Array.getD (Act.tmps x) 28 undef = by8 (ofL P) := p18
 have q7 : Array.getD (Act.tmps x) 17 undef = .bool false := p7
 simp only [Array.getD_eq_getD_getElem?] at q12 q18 q7
 (have e7 : (drr4_ops[7]?.bind fun x => x.dst) = some 17 := rfl; have g7 := get_someT q7 (fun h => by cases h))
 have m := h2
 unfold by8 at q12 q18
 (refine wpOpIn_stepT hF ho (fun K hK => ?_); clear ho; rw [Oper.semAt_plain Fc _ _ (by intro c h; cases h)]; simp only [drr4_o19]; go_simp)
 exact hK _ _ ⟨_, act_putD x hdef _ _, rfl, Below.refl _ _⟩
theorem drrE_s20 (H : drrE_H Fc gD oD n cD i jp d P PQ df w0 x w) (p7 : drrE_val gD oD n cD i jp d P PQ 7 (x.tmps.getD 17 undef) w) (p19 : drrE_val gD oD n cD i jp d P PQ 19 (x.tmps.getD 29 undef) w) : Stp Fc nC Tryz.prog drr4_ops Q 20 30 (drrE_val gD oD n cD i jp d P PQ 20) x w := by
 (obtain ⟨hF, hi, hn, d0, hp, hr, d1, h2, d3, h3, hB, hdef, u0, u3⟩ := H; have ho : drr4_ops[20]? = some drr4_o20 := rfl; simp only [Array.getD_eq_getD_getElem?] at u0 u3)
 have q7 : Array.getD (Act.tmps x) 17 undef = .bool false := p7
 have q19 : Array.getD (Act.tmps x) 29 undef = .bool false := p19
 simp only [Array.getD_eq_getD_getElem?] at q7 q19
 (refine wpOpIn_plain ho rfl (oper_inK hF.fn (fun K hK => ?_)); clear ho; rw [Oper.semAt_plain Fc _ _ (by intro c h; cases h)]; simp only [drr4_o20]; go_simp)
 exact hK _ _ ⟨_, act_putD x hdef _ _, rfl, Below.refl _ _⟩
theorem drrE_s21 (H : drrE_H Fc gD oD n cD i jp d P PQ df w0 x w) (p20 : drrE_val gD oD n cD i jp d P PQ 20 (x.tmps.getD 30 undef) w) : Stp Fc nC Tryz.prog drr4_ops Q 21 31 (drrE_val gD oD n cD i jp d P PQ 21) x w := by
 (obtain ⟨hF, hi, hn, d0, hp, hr, d1, h2, d3, h3, hB, hdef, u0, u3⟩ := H; have ho : drr4_ops[21]? = some drr4_o21 := rfl; simp only [Array.getD_eq_getD_getElem?] at u0 u3)
 have q20 : Array.getD (Act.tmps x) 30 undef = .bool false := p20
 simp only [Array.getD_eq_getD_getElem?] at q20
 (refine wpOpIn_plain ho rfl (oper_inK hF.fn (fun K hK => ?_)); clear ho; rw [Oper.semAt_plain Fc _ _ (by intro c h; cases h)]; simp only [drr4_o21]; go_simp)
 exact hK _ _ ⟨_, act_putD x hdef _ _, rfl, Below.refl _ _⟩
theorem drrE_s22 (H : drrE_H Fc gD oD n cD i jp d P PQ df w0 x w) (p21 : drrE_val gD oD n cD i jp d P PQ 21 (x.tmps.getD 31 undef) w) : Stp Fc nC Tryz.prog drr4_ops Q 22 32 (drrE_val gD oD n cD i jp d P PQ 22) x w := by
 (obtain ⟨hF, hi, hn, d0, hp, hr, d1, h2, d3, h3, hB, hdef, u0, u3⟩ := H; have ho : drr4_ops[22]? = some drr4_o22 := rfl; simp only [Array.getD_eq_getD_getElem?] at u0 u3)
 have q21 : Array.getD (Act.tmps x) 31 undef = .bool false := p21
 simp only [Array.getD_eq_getD_getElem?] at q21
 (have e21 : (drr4_ops[21]?.bind fun x => x.dst) = some 31 := rfl; have g21 := get_someT q21 (fun h => by cases h))
 (refine wpOpIn_stepT hF ho (fun K hK => ?_); clear ho; rw [Oper.semAt_plain Fc _ _ (by intro c h; cases h)]; simp only [drr4_o22]; go_simp)
 exact hK _ _ ⟨_, act_putD x hdef _ _, rfl, Below.refl _ _⟩
theorem drrE_s23 (H : drrE_H Fc gD oD n cD i jp d P PQ df w0 x w) (p21 : drrE_val gD oD n cD i jp d P PQ 21 (x.tmps.getD 31 undef) w) : Stp Fc nC Tryz.prog drr4_ops Q 23 33 (drrE_val gD oD n cD i jp d P PQ 23) x w := by
 (obtain ⟨hF, hi, hn, d0, hp, hr, d1, h2, d3, h3, hB, hdef, u0, u3⟩ := H; have ho : drr4_ops[23]? = some drr4_o23 := rfl; simp only [Array.getD_eq_getD_getElem?] at u0 u3)
 have q21 : Array.getD (Act.tmps x) 31 undef = .bool false := p21
 simp only [Array.getD_eq_getD_getElem?] at q21
 (have e21 : (drr4_ops[21]?.bind fun x => x.dst) = some 31 := rfl; have g21 := get_someT q21 (fun h => by cases h))
 (refine wpOpIn_stepT hF ho (fun K hK => ?_); clear ho; rw [Oper.semAt_plain Fc _ _ (by intro c h; cases h)]; simp only [drr4_o23]; go_simp)
 exact hK _ _ ⟨_, act_putD x hdef _ _, rfl, Below.refl _ _⟩
theorem drrE_s24 (H : drrE_H Fc gD oD n cD i jp d P PQ df w0 x w) (p22 : drrE_val gD oD n cD i jp d P PQ 22 (x.tmps.getD 32 undef) w) (p23 : drrE_val gD oD n cD i jp d P PQ 23 (x.tmps.getD 33 undef) w) (p21 : drrE_val gD oD n cD i jp d P PQ 21 (x.tmps.getD 31 undef) w) : Stp Fc nC Tryz.prog drr4_ops Q 24 34 (drrE_val gD oD n cD i jp d P PQ 24) x w := by
 (obtain ⟨hF, hi, hn, d0, hp, hr, d1, h2, d3, h3, hB, hdef, u0, u3⟩ := H; have ho : drr4_ops[24]? = some drr4_o24 := rfl; simp only [Array.getD_eq_getD_getElem?] at u0 u3)
 have q22 : Array.getD (Act.tmps x) 32 undef = .slice (some ⟨gD, oD, none⟩) n cD := p22
 have q23 : Array.getD (Act.tmps x) 33 undef = .int .i64 (i : Nat) := p23
 have q21 : Array.getD (Act.tmps x) 31 undef = .bool false := p21
 simp only [Array.getD_eq_getD_getElem?] at q22 q23 q21
 (have e21 : (drr4_ops[21]?.bind fun x => x.dst) = some 31 := rfl; have g21 := get_someT q21 (fun h => by cases h))
 have i0 : (0 : Int) ≤ (i : Int) := by omega
 have i1 : (i : Int) < (n : Int) := by omega
 (refine wpOpIn_stepT hF ho (fun K hK => ?_); clear ho; rw [Oper.semAt_plain Fc _ _ (by intro c h; cases h)]; simp only [drr4_o24]; go_simp)
 exact hK _ _ ⟨_, act_putD x hdef _ _, rfl, Below.refl _ _⟩
theorem drrE_s25 (H : drrE_H Fc gD oD n cD i jp d P PQ df w0 x w) (p24 : drrE_val gD oD n cD i jp d P PQ 24 (x.tmps.getD 34 undef) w) (p21 : drrE_val gD oD n cD i jp d P PQ 21 (x.tmps.getD 31 undef) w) : Stp Fc nC Tryz.prog drr4_ops Q 25 35 (drrE_val gD oD n cD i jp d P PQ 25) x w := by
 (obtain ⟨hF, hi, hn, d0, hp, hr, d1, h2, d3, h3, hB, hdef, u0, u3⟩ := H; have ho : drr4_ops[25]? = some drr4_o25 := rfl; simp only [Array.getD_eq_getD_getElem?] at u0 u3)
 have q24 : Array.getD (Act.tmps x) 34 undef = .pointer (some ⟨gD, oD + i * 4, none⟩) := p24
 have q21 : Array.getD (Act.tmps x) 31 undef = .bool false := p21
 simp only [Array.getD_eq_getD_getElem?] at q24 q21
 (have e21 : (drr4_ops[21]?.bind fun x => x.dst) = some 31 := rfl; have g21 := get_someT q21 (fun h => by cases h))
 (refine wpOpIn_stepT hF ho (fun K hK => ?_); clear ho; rw [Oper.semAt_plain Fc _ _ (by intro c h; cases h)]; simp only [drr4_o25]; go_simp)
 exact hK _ _ ⟨_, act_putD x hdef _ _, rfl, Below.refl _ _⟩
theorem drrE_s26 (H : drrE_H Fc gD oD n cD i jp d P PQ df w0 x w) (p25 : drrE_val gD oD n cD i jp d P PQ 25 (x.tmps.getD 35 undef) w) (p21 : drrE_val gD oD n cD i jp d P PQ 21 (x.tmps.getD 31 undef) w) : Stp Fc nC Tryz.prog drr4_ops Q 26 36 (drrE_val gD oD n cD i jp d P PQ 26) x w := by
 (obtain ⟨hF, hi, hn, d0, hp, hr, d1, h2, d3, h3, hB, hdef, u0, u3⟩ := H; have ho : drr4_ops[26]? = some drr4_o26 := rfl; simp only [Array.getD_eq_getD_getElem?] at u0 u3)
 have q25 : Array.getD (Act.tmps x) 35 undef = .pointer (some ⟨gD, oD + i * 4 + 3, none⟩) := p25
 have q21 : Array.getD (Act.tmps x) 31 undef = .bool false := p21
 simp only [Array.getD_eq_getD_getElem?] at q25 q21
 (have e21 : (drr4_ops[21]?.bind fun x => x.dst) = some 31 := rfl; have g21 := get_someT q21 (fun h => by cases h))
 have m := cell_thru d3 hB
 (refine wpOpIn_stepT hF ho (fun K hK => ?_); clear ho; rw [Oper.semAt_plain Fc _ _ (by intro c h; cases h)]; simp only [drr4_o26]; go_simp)
 exact hK _ _ ⟨_, act_putD x hdef _ _, rfl, Below.refl _ _⟩
theorem drrE_s27 (H : drrE_H Fc gD oD n cD i jp d P PQ df w0 x w) (p26 : drrE_val gD oD n cD i jp d P PQ 26 (x.tmps.getD 36 undef) w) (p21 : drrE_val gD oD n cD i jp d P PQ 21 (x.tmps.getD 31 undef) w) : Stp Fc nC Tryz.prog drr4_ops Q 27 37 (drrE_val gD oD n cD i jp d P PQ 27) x w := by
 (obtain ⟨hF, hi, hn, d0, hp, hr, d1, h2, d3, h3, hB, hdef, u0, u3⟩ := H; have ho : drr4_ops[27]? = some drr4_o27 := rfl; simp only [Array.getD_eq_getD_getElem?] at u0 u3)
 have q26 : Array.getD (Act.tmps x) 36 undef = .int .i64 d.Z := p26
 have q21 : Array.getD (Act.tmps x) 31 undef = .bool false := p21
 simp only [Array.getD_eq_getD_getElem?] at q26 q21
 (have e21 : (drr4_ops[21]?.bind fun x => x.dst) = some 31 := rfl; have g21 := get_someT q21 (fun h => by cases h))
 have m := h3
 (refine wpOpIn_stepT hF ho (fun K hK => ?_); clear ho; rw [Oper.semAt_plain Fc _ _ (by intro c h; cases h)]; simp only [drr4_o27]; go_simp)
 exact hK _ _ ⟨_, act_putD x hdef _ _, rfl, Below.refl _ _⟩
theorem drrE_s28 (H : drrE_H Fc gD oD n cD i jp d P PQ df w0 x w) (p21 : drrE_val gD oD n cD i jp d P PQ 21 (x.tmps.getD 31 undef) w) (p27 : drrE_val gD oD n cD i jp d P PQ 27 (x.tmps.getD 37 undef) w) : Stp Fc nC Tryz.prog drr4_ops Q 28 38 (drrE_val gD oD n cD i jp d P PQ 28) x w := by
 (obtain ⟨hF, hi, hn, d0, hp, hr, d1, h2, d3, h3, hB, hdef, u0, u3⟩ := H; have ho : drr4_ops[28]? = some drr4_o28 := rfl; simp only [Array.getD_eq_getD_getElem?] at u0 u3)
 have q21 : Array.getD (Act.tmps x) 31 undef = .bool false := p21
 have q27 : Array.getD (Act.tmps x) 37 undef = .bool true := p27
 simp only [Array.getD_eq_getD_getElem?] at q21 q27
 (refine wpOpIn_plain ho rfl (oper_inK hF.fn (fun K hK => ?_)); clear ho; rw [Oper.semAt_plain Fc _ _ (by intro c h; cases h)]; simp only [drr4_o28]; go_simp)
 exact hK _ _ ⟨_, act_putD x hdef _ _, rfl, Below.refl _ _⟩
theorem drrE_s29 (H : drrE_H Fc gD oD n cD i jp d P PQ df w0 x w) (p28 : drrE_val gD oD n cD i jp d P PQ 28 (x.tmps.getD 38 undef) w) : Stp Fc nC Tryz.prog drr4_ops Q 29 39 (drrE_val gD oD n cD i jp d P PQ 29) x w := by
 (obtain ⟨hF, hi, hn, d0, hp, hr, d1, h2, d3, h3, hB, hdef, u0, u3⟩ := H; have ho : drr4_ops[29]? = some drr4_o29 := rfl; simp only [Array.getD_eq_getD_getElem?] at u0 u3)
 have q28 : Array.getD (Act.tmps x) 38 undef = .bool true := p28
 simp only [Array.getD_eq_getD_getElem?] at q28
 (refine wpOpIn_plain ho rfl (oper_inK hF.fn (fun K hK => ?_)); clear ho; rw [Oper.semAt_plain Fc _ _ (by intro c h; cases h)]; simp only [drr4_o29]; go_simp)
 exact hK _ _ ⟨_, act_putD x hdef _ _, rfl, Below.refl _ _⟩
theorem drrE_s30 (H : drrE_H Fc gD oD n cD i jp d P PQ df w0 x w) (p29 : drrE_val gD oD n cD i jp d P PQ 29 (x.tmps.getD 39 undef) w) : Stp Fc nC Tryz.prog drr4_ops Q 30 40 (drrE_val gD oD n cD i jp d P PQ 30) x w := by
 (obtain ⟨hF, hi, hn, d0, hp, hr, d1, h2, d3, h3, hB, hdef, u0, u3⟩ := H; have ho : drr4_ops[30]? = some drr4_o30 := rfl; simp only [Array.getD_eq_getD_getElem?] at u0 u3)
 have q29 : Array.getD (Act.tmps x) 39 undef = .bool true := p29
 simp only [Array.getD_eq_getD_getElem?] at q29
 (have e29 : (drr4_ops[29]?.bind fun x => x.dst) = some 39 := rfl; have g29 := get_someT q29 (fun h => by cases h))
 (refine wpOpIn_stepT hF ho (fun K hK => ?_); clear ho; rw [Oper.semAt_plain Fc _ _ (by intro c h; cases h)]; simp only [drr4_o30]; go_simp)
 exact hK _ _ ⟨_, act_putD x hdef _ _, rfl, Below.refl _ _⟩
theorem drrE_s31 (H : drrE_H Fc gD oD n cD i jp d P PQ df w0 x w) (p29 : drrE_val gD oD n cD i jp d P PQ 29 (x.tmps.getD 39 undef) w) : Stp Fc nC Tryz.prog drr4_ops Q 31 41 (drrE_val gD oD n cD i jp d P PQ 31) x w := by
 (obtain ⟨hF, hi, hn, d0, hp, hr, d1, h2, d3, h3, hB, hdef, u0, u3⟩ := H; have ho : drr4_ops[31]? = some drr4_o31 := rfl; simp only [Array.getD_eq_getD_getElem?] at u0 u3)
 have q29 : Array.getD (Act.tmps x) 39 undef = .bool true := p29
 simp only [Array.getD_eq_getD_getElem?] at q29
 (have e29 : (drr4_ops[29]?.bind fun x => x.dst) = some 39 := rfl; have g29 := get_someT q29 (fun h => by cases h))
 (refine wpOpIn_stepT hF ho (fun K hK => ?_); clear ho; rw [Oper.semAt_plain Fc _ _ (by intro c h; cases h)]; simp only [drr4_o31]; go_simp)
 exact hK _ _ ⟨_, act_putD x hdef _ _, rfl, Below.refl _ _⟩
theorem drrE_s32 (H : drrE_H Fc gD oD n cD i jp d P PQ df w0 x w) (p30 : drrE_val gD oD n cD i jp d P PQ 30 (x.tmps.getD 40 undef) w) (p31 : drrE_val gD oD n cD i jp d P PQ 31 (x.tmps.getD 41 undef) w) (p29 : drrE_val gD oD n cD i jp d P PQ 29 (x.tmps.getD 39 undef) w) : Stp Fc nC Tryz.prog drr4_ops Q 32 42 (drrE_val gD oD n cD i jp d P PQ 32) x w := by
 (obtain ⟨hF, hi, hn, d0, hp, hr, d1, h2, d3, h3, hB, hdef, u0, u3⟩ := H; have ho : drr4_ops[32]? = some drr4_o32 := rfl; simp only [Array.getD_eq_getD_getElem?] at u0 u3)
 have q30 : Array.getD (Act.tmps x) 40 undef = undef := p30
 have q31 : Array.getD (Act.tmps x) 41 undef = undef := p31
 have q29 : Array.getD (Act.tmps x) 39 undef = .bool true := p29
 simp only [Array.getD_eq_getD_getElem?] at q30 q31 q29
 (have e29 : (drr4_ops[29]?.bind fun x => x.dst) = some 39 := rfl; have g29 := get_someT q29 (fun h => by cases h))
 (refine wpOpIn_stepT hF ho (fun K hK => ?_); clear ho; rw [Oper.semAt_plain Fc _ _ (by intro c h; cases h)]; simp only [drr4_o32]; go_simp)
 exact hK _ _ ⟨_, act_putD x hdef _ _, rfl, Below.refl _ _⟩
theorem drrE_s33 (H : drrE_H Fc gD oD n cD i jp d P PQ df w0 x w) (p32 : drrE_val gD oD n cD i jp d P PQ 32 (x.tmps.getD 42 undef) w) (p29 : drrE_val gD oD n cD i jp d P PQ 29 (x.tmps.getD 39 undef) w) : Stp Fc nC Tryz.prog drr4_ops Q 33 43 (drrE_val gD oD n cD i jp d P PQ 33) x w := by
 (obtain ⟨hF, hi, hn, d0, hp, hr, d1, h2, d3, h3, hB, hdef, u0, u3⟩ := H; have ho : drr4_ops[33]? = some drr4_o33 := rfl; simp only [Array.getD_eq_getD_getElem?] at u0 u3)
 have q32 : Array.getD (Act.tmps x) 42 undef = undef := p32
 have q29 : Array.getD (Act.tmps x) 39 undef = .bool true := p29
 simp only [Array.getD_eq_getD_getElem?] at q32 q29
 (have e29 : (drr4_ops[29]?.bind fun x => x.dst) = some 39 := rfl; have g29 := get_someT q29 (fun h => by cases h))
 (refine wpOpIn_stepT hF ho (fun K hK => ?_); clear ho; rw [Oper.semAt_plain Fc _ _ (by intro c h; cases h)]; simp only [drr4_o33]; go_simp)
 exact hK _ _ ⟨_, act_putD x hdef _ _, rfl, Below.refl _ _⟩
theorem drrE_s34 (H : drrE_H Fc gD oD n cD i jp d P PQ df w0 x w) (p33 : drrE_val gD oD n cD i jp d P PQ 33 (x.tmps.getD 43 undef) w) (p29 : drrE_val gD oD n cD i jp d P PQ 29 (x.tmps.getD 39 undef) w) : Stp Fc nC Tryz.prog drr4_ops Q 34 44 (drrE_val gD oD n cD i jp d P PQ 34) x w := by
 (obtain ⟨hF, hi, hn, d0, hp, hr, d1, h2, d3, h3, hB, hdef, u0, u3⟩ := H; have ho : drr4_ops[34]? = some drr4_o34 := rfl; simp only [Array.getD_eq_getD_getElem?] at u0 u3)
 have q33 : Array.getD (Act.tmps x) 43 undef = undef := p33
 have q29 : Array.getD (Act.tmps x) 39 undef = .bool true := p29
 simp only [Array.getD_eq_getD_getElem?] at q33 q29
 (have e29 : (drr4_ops[29]?.bind fun x => x.dst) = some 39 := rfl; have g29 := get_someT q29 (fun h => by cases h))
 (refine wpOpIn_stepT hF ho (fun K hK => ?_); clear ho; rw [Oper.semAt_plain Fc _ _ (by intro c h; cases h)]; simp only [drr4_o34]; go_simp)
 exact hK _ _ ⟨_, act_putD x hdef _ _, rfl, Below.refl _ _⟩
theorem drrE_s35 (H : drrE_H Fc gD oD n cD i jp d P PQ df w0 x w) (p34 : drrE_val gD oD n cD i jp d P PQ 34 (x.tmps.getD 44 undef) w) (p29 : drrE_val gD oD n cD i jp d P PQ 29 (x.tmps.getD 39 undef) w) : Stp Fc nC Tryz.prog drr4_ops Q 35 45 (drrE_val gD oD n cD i jp d P PQ 35) x w := by
 (obtain ⟨hF, hi, hn, d0, hp, hr, d1, h2, d3, h3, hB, hdef, u0, u3⟩ := H; have ho : drr4_ops[35]? = some drr4_o35 := rfl; simp only [Array.getD_eq_getD_getElem?] at u0 u3)
 have q34 : Array.getD (Act.tmps x) 44 undef = undef := p34
 have q29 : Array.getD (Act.tmps x) 39 undef = .bool true := p29
 simp only [Array.getD_eq_getD_getElem?] at q34 q29
 (have e29 : (drr4_ops[29]?.bind fun x => x.dst) = some 39 := rfl; have g29 := get_someT q29 (fun h => by cases h))
 (refine wpOpIn_stepT hF ho (fun K hK => ?_); clear ho; rw [Oper.semAt_plain Fc _ _ (by intro c h; cases h)]; simp only [drr4_o35]; go_simp)
 exact hK _ _ ⟨_, act_putD x hdef _ _, rfl, Below.refl _ _⟩
theorem drrE_s36 (H : drrE_H Fc gD oD n cD i jp d P PQ df w0 x w) (p29 : drrE_val gD oD n cD i jp d P PQ 29 (x.tmps.getD 39 undef) w) (p35 : drrE_val gD oD n cD i jp d P PQ 35 (x.tmps.getD 45 undef) w) : Stp Fc nC Tryz.prog drr4_ops Q 36 46 (drrE_val gD oD n cD i jp d P PQ 36) x w := by
 (obtain ⟨hF, hi, hn, d0, hp, hr, d1, h2, d3, h3, hB, hdef, u0, u3⟩ := H; have ho : drr4_ops[36]? = some drr4_o36 := rfl; simp only [Array.getD_eq_getD_getElem?] at u0 u3)
 have q29 : Array.getD (Act.tmps x) 39 undef = .bool true := p29
 have q35 : Array.getD (Act.tmps x) 45 undef = undef := p35
 simp only [Array.getD_eq_getD_getElem?] at q29 q35
 (refine wpOpIn_plain ho rfl (oper_inK hF.fn (fun K hK => ?_)); clear ho; rw [Oper.semAt_plain Fc _ _ (by intro c h; cases h)]; simp only [drr4_o36]; go_simp)
 exact hK _ _ ⟨_, act_putD x hdef _ _, rfl, Below.refl _ _⟩
theorem drrE_s37 (H : drrE_H Fc gD oD n cD i jp d P PQ df w0 x w) (p36 : drrE_val gD oD n cD i jp d P PQ 36 (x.tmps.getD 46 undef) w) : Stp Fc nC Tryz.prog drr4_ops Q 37 47 (drrE_val gD oD n cD i jp d P PQ 37) x w := by
 (obtain ⟨hF, hi, hn, d0, hp, hr, d1, h2, d3, h3, hB, hdef, u0, u3⟩ := H; have ho : drr4_ops[37]? = some drr4_o37 := rfl; simp only [Array.getD_eq_getD_getElem?] at u0 u3)
 have q36 : Array.getD (Act.tmps x) 46 undef = .bool true := p36
 simp only [Array.getD_eq_getD_getElem?] at q36
 (refine wpOpIn_plain ho rfl (oper_inK hF.fn (fun K hK => ?_)); clear ho; rw [Oper.semAt_plain Fc _ _ (by intro c h; cases h)]; simp only [drr4_o37]; go_simp)
 exact hK _ _ ⟨_, act_putD x hdef _ _, rfl, Below.refl _ _⟩
theorem drrE_s38 (H : drrE_H Fc gD oD n cD i jp d P PQ df w0 x w) (p37 : drrE_val gD oD n cD i jp d P PQ 37 (x.tmps.getD 47 undef) w) : Stp Fc nC Tryz.prog drr4_ops Q 38 48 (drrE_val gD oD n cD i jp d P PQ 38) x w := by
 (obtain ⟨hF, hi, hn, d0, hp, hr, d1, h2, d3, h3, hB, hdef, u0, u3⟩ := H; have ho : drr4_ops[38]? = some drr4_o38 := rfl; simp only [Array.getD_eq_getD_getElem?] at u0 u3)
 have q37 : Array.getD (Act.tmps x) 47 undef = .bool true := p37
 simp only [Array.getD_eq_getD_getElem?] at q37
 (have e37 : (drr4_ops[37]?.bind fun x => x.dst) = some 47 := rfl; have g37 := get_someT q37 (fun h => by cases h))
 (refine wpOpIn_stepT hF ho (fun K hK => ?_); clear ho; rw [Oper.semAt_plain Fc _ _ (by intro c h; cases h)]; simp only [drr4_o38]; go_simp)
 exact hK _ _ ⟨_, act_putD x hdef _ _, rfl, Below.refl _ _⟩
theorem drrE_s39 (H : drrE_H Fc gD oD n cD i jp d P PQ df w0 x w) (p38 : drrE_val gD oD n cD i jp d P PQ 38 (x.tmps.getD 48 undef) w) (p37 : drrE_val gD oD n cD i jp d P PQ 37 (x.tmps.getD 47 undef) w) : Stp Fc nC Tryz.prog drr4_ops Q 39 49 (drrE_val gD oD n cD i jp d P PQ 39) x w := by
 (obtain ⟨hF, hi, hn, d0, hp, hr, d1, h2, d3, h3, hB, hdef, u0, u3⟩ := H; have ho : drr4_ops[39]? = some drr4_o39 := rfl; simp only [Array.getD_eq_getD_getElem?] at u0 u3)
 have q38 : Array.getD (Act.tmps x) 48 undef = undef := p38
 have q37 : Array.getD (Act.tmps x) 47 undef = .bool true := p37
 simp only [Array.getD_eq_getD_getElem?] at q38 q37
 (have e37 : (drr4_ops[37]?.bind fun x => x.dst) = some 47 := rfl; have g37 := get_someT q37 (fun h => by cases h))
 (refine wpOpIn_stepT hF ho (fun K hK => ?_); clear ho; rw [Oper.semAt_plain Fc _ _ (by intro c h; cases h)]; simp only [drr4_o39]; go_simp)
 exact hK _ _ ⟨_, act_putD x hdef _ _, rfl, Below.refl _ _⟩
theorem drrE_s40 (H : drrE_H Fc gD oD n cD i jp d P PQ df w0 x w) (p39 : drrE_val gD oD n cD i jp d P PQ 39 (x.tmps.getD 49 undef) w) (p37 : drrE_val gD oD n cD i jp d P PQ 37 (x.tmps.getD 47 undef) w) : Stp Fc nC Tryz.prog drr4_ops Q 40 50 (drrE_val gD oD n cD i jp d P PQ 40) x w := by
 (obtain ⟨hF, hi, hn, d0, hp, hr, d1, h2, d3, h3, hB, hdef, u0, u3⟩ := H; have ho : drr4_ops[40]? = some drr4_o40 := rfl; simp only [Array.getD_eq_getD_getElem?] at u0 u3)
 have q39 : Array.getD (Act.tmps x) 49 undef = undef := p39
 have q37 : Array.getD (Act.tmps x) 47 undef = .bool true := p37
 simp only [Array.getD_eq_getD_getElem?] at q39 q37
 (have e37 : (drr4_ops[37]?.bind fun x => x.dst) = some 47 := rfl; have g37 := get_someT q37 (fun h => by cases h))
 (refine wpOpIn_stepT hF ho (fun K hK => ?_); clear ho; rw [Oper.semAt_plain Fc _ _ (by intro c h; cases h)]; simp only [drr4_o40]; go_simp)
 exact hK _ _ ⟨_, act_putD x hdef _ _, rfl, Below.refl _ _⟩
theorem drrE_s41 (H : drrE_H Fc gD oD n cD i jp d P PQ df w0 x w) (p40 : drrE_val gD oD n cD i jp d P PQ 40 (x.tmps.getD 50 undef) w) : Stp Fc nC Tryz.prog drr4_ops Q 41 51 (drrE_val gD oD n cD i jp d P PQ 41) x w := by
 (obtain ⟨hF, hi, hn, d0, hp, hr, d1, h2, d3, h3, hB, hdef, u0, u3⟩ := H; have ho : drr4_ops[41]? = some drr4_o41 := rfl; simp only [Array.getD_eq_getD_getElem?] at u0 u3)
 have q40 : Array.getD (Act.tmps x) 50 undef = undef := p40
 simp only [Array.getD_eq_getD_getElem?] at q40
 have e40 : (drr4_ops[40]?.bind fun x => x.dst) = some 50 := rfl
 exact op_skipped hF ho rfl e40 q40 ⟨_, rfl, rfl, Below.refl _ _⟩
theorem drrE_s42 (H : drrE_H Fc gD oD n cD i jp d P PQ df w0 x w) (p40 : drrE_val gD oD n cD i jp d P PQ 40 (x.tmps.getD 50 undef) w) : Stp Fc nC Tryz.prog drr4_ops Q 42 52 (drrE_val gD oD n cD i jp d P PQ 42) x w := by
 (obtain ⟨hF, hi, hn, d0, hp, hr, d1, h2, d3, h3, hB, hdef, u0, u3⟩ := H; have ho : drr4_ops[42]? = some drr4_o42 := rfl; simp only [Array.getD_eq_getD_getElem?] at u0 u3)
 have q40 : Array.getD (Act.tmps x) 50 undef = undef := p40
 simp only [Array.getD_eq_getD_getElem?] at q40
 have e40 : (drr4_ops[40]?.bind fun x => x.dst) = some 50 := rfl
 exact op_skipped hF ho rfl e40 q40 ⟨_, rfl, rfl, Below.refl _ _⟩
theorem drrE_s43 (H : drrE_H Fc gD oD n cD i jp d P PQ df w0 x w) (p42 : drrE_val gD oD n cD i jp d P PQ 42 (x.tmps.getD 52 undef) w) (p40 : drrE_val gD oD n cD i jp d P PQ 40 (x.tmps.getD 50 undef) w) : Stp Fc nC Tryz.prog drr4_ops Q 43 53 (drrE_val gD oD n cD i jp d P PQ 43) x w := by
 (obtain ⟨hF, hi, hn, d0, hp, hr, d1, h2, d3, h3, hB, hdef, u0, u3⟩ := H; have ho : drr4_ops[43]? = some drr4_o43 := rfl; simp only [Array.getD_eq_getD_getElem?] at u0 u3)
 have q42 : Array.getD (Act.tmps x) 52 undef = undef := p42
 have q40 : Array.getD (Act.tmps x) 50 undef = undef := p40
 simp only [Array.getD_eq_getD_getElem?] at q42 q40
 have e40 : (drr4_ops[40]?.bind fun x => x.dst) = some 50 := rfl
 exact op_skipped hF ho rfl e40 q40 ⟨_, rfl, rfl, Below.refl _ _⟩
theorem drrE_s44 (H : drrE_H Fc gD oD n cD i jp d P PQ df w0 x w) (p41 : drrE_val gD oD n cD i jp d P PQ 41 (x.tmps.getD 51 undef) w) (p43 : drrE_val gD oD n cD i jp d P PQ 43 (x.tmps.getD 53 undef) w) (p40 : drrE_val gD oD n cD i jp d P PQ 40 (x.tmps.getD 50 undef) w) : Stp Fc nC Tryz.prog drr4_ops Q 44 54 (drrE_val gD oD n cD i jp d P PQ 44) x w := by
 (obtain ⟨hF, hi, hn, d0, hp, hr, d1, h2, d3, h3, hB, hdef, u0, u3⟩ := H; have ho : drr4_ops[44]? = some drr4_o44 := rfl; simp only [Array.getD_eq_getD_getElem?] at u0 u3)
 have q41 : Array.getD (Act.tmps x) 51 undef = undef := p41
 have q43 : Array.getD (Act.tmps x) 53 undef = undef := p43
 have q40 : Array.getD (Act.tmps x) 50 undef = undef := p40
 simp only [Array.getD_eq_getD_getElem?] at q41 q43 q40
 have e40 : (drr4_ops[40]?.bind fun x => x.dst) = some 50 := rfl
 exact op_skipped hF ho rfl e40 q40 ⟨_, rfl, rfl, Below.refl _ _⟩
theorem drrE_s45 (H : drrE_H Fc gD oD n cD i jp d P PQ df w0 x w) (p44 : drrE_val gD oD n cD i jp d P PQ 44 (x.tmps.getD 54 undef) w) (p40 : drrE_val gD oD n cD i jp d P PQ 40 (x.tmps.getD 50 undef) w) : Stp Fc nC Tryz.prog drr4_ops Q 45 55 (drrE_val gD oD n cD i jp d P PQ 45) x w := by
 (obtain ⟨hF, hi, hn, d0, hp, hr, d1, h2, d3, h3, hB, hdef, u0, u3⟩ := H; have ho : drr4_ops[45]? = some drr4_o45 := rfl; simp only [Array.getD_eq_getD_getElem?] at u0 u3)
 have q44 : Array.getD (Act.tmps x) 54 undef = undef := p44
 have q40 : Array.getD (Act.tmps x) 50 undef = undef := p40
 simp only [Array.getD_eq_getD_getElem?] at q44 q40
 have e40 : (drr4_ops[40]?.bind fun x => x.dst) = some 50 := rfl
 exact op_skipped hF ho rfl e40 q40 ⟨_, rfl, rfl, Below.refl _ _⟩
theorem drrE_s46 (H : drrE_H Fc gD oD n cD i jp d P PQ df w0 x w) (p45 : drrE_val gD oD n cD i jp d P PQ 45 (x.tmps.getD 55 undef) w) (p40 : drrE_val gD oD n cD i jp d P PQ 40 (x.tmps.getD 50 undef) w) : Stp Fc nC Tryz.prog drr4_ops Q 46 56 (drrE_val gD oD n cD i jp d P PQ 46) x w := by
 (obtain ⟨hF, hi, hn, d0, hp, hr, d1, h2, d3, h3, hB, hdef, u0, u3⟩ := H; have ho : drr4_ops[46]? = some drr4_o46 := rfl; simp only [Array.getD_eq_getD_getElem?] at u0 u3)
 have q45 : Array.getD (Act.tmps x) 55 undef = undef := p45
 have q40 : Array.getD (Act.tmps x) 50 undef = undef := p40
 simp only [Array.getD_eq_getD_getElem?] at q45 q40
 have e40 : (drr4_ops[40]?.bind fun x => x.dst) = some 50 := rfl
 exact op_skipped hF ho rfl e40 q40 ⟨_, rfl, rfl, Below.refl _ _⟩
theorem drrE_s47 (H : drrE_H Fc gD oD n cD i jp d P PQ df w0 x w) (p40 : drrE_val gD oD n cD i jp d P PQ 40 (x.tmps.getD 50 undef) w) : Stp Fc nC Tryz.prog drr4_ops Q 47 57 (drrE_val gD oD n cD i jp d P PQ 47) x w := by
 (obtain ⟨hF, hi, hn, d0, hp, hr, d1, h2, d3, h3, hB, hdef, u0, u3⟩ := H; have ho : drr4_ops[47]? = some drr4_o47 := rfl; simp only [Array.getD_eq_getD_getElem?] at u0 u3)
 have q40 : Array.getD (Act.tmps x) 50 undef = undef := p40
 simp only [Array.getD_eq_getD_getElem?] at q40
 have e40 : (drr4_ops[40]?.bind fun x => x.dst) = some 50 := rfl
 exact op_skipped hF ho rfl e40 q40 ⟨_, rfl, rfl, Below.refl _ _⟩
theorem drrE_s48 (H : drrE_H Fc gD oD n cD i jp d P PQ df w0 x w) (p40 : drrE_val gD oD n cD i jp d P PQ 40 (x.tmps.getD 50 undef) w) : Stp Fc nC Tryz.prog drr4_ops Q 48 58 (drrE_val gD oD n cD i jp d P PQ 48) x w := by
 (obtain ⟨hF, hi, hn, d0, hp, hr, d1, h2, d3, h3, hB, hdef, u0, u3⟩ := H; have ho : drr4_ops[48]? = some drr4_o48 := rfl; simp only [Array.getD_eq_getD_getElem?] at u0 u3)
 have q40 : Array.getD (Act.tmps x) 50 undef = undef := p40
 simp only [Array.getD_eq_getD_getElem?] at q40
 have e40 : (drr4_ops[40]?.bind fun x => x.dst) = some 50 := rfl
 exact op_skipped hF ho rfl e40 q40 ⟨_, rfl, rfl, Below.refl _ _⟩
theorem drrE_s49 (H : drrE_H Fc gD oD n cD i jp d P PQ df w0 x w) (p47 : drrE_val gD oD n cD i jp d P PQ 47 (x.tmps.getD 57 undef) w) (p48 : drrE_val gD oD n cD i jp d P PQ 48 (x.tmps.getD 58 undef) w) (p40 : drrE_val gD oD n cD i jp d P PQ 40 (x.tmps.getD 50 undef) w) : Stp Fc nC Tryz.prog drr4_ops Q 49 59 (drrE_val gD oD n cD i jp d P PQ 49) x w := by
 (obtain ⟨hF, hi, hn, d0, hp, hr, d1, h2, d3, h3, hB, hdef, u0, u3⟩ := H; have ho : drr4_ops[49]? = some drr4_o49 := rfl; simp only [Array.getD_eq_getD_getElem?] at u0 u3)
 have q47 : Array.getD (Act.tmps x) 57 undef = undef := p47
 have q48 : Array.getD (Act.tmps x) 58 undef = undef := p48
 have q40 : Array.getD (Act.tmps x) 50 undef = undef := p40
 simp only [Array.getD_eq_getD_getElem?] at q47 q48 q40
 have e40 : (drr4_ops[40]?.bind fun x => x.dst) = some 50 := rfl
 exact op_skipped hF ho rfl e40 q40 ⟨_, rfl, rfl, Below.refl _ _⟩
theorem drrE_s50 (H : drrE_H Fc gD oD n cD i jp d P PQ df w0 x w) (p49 : drrE_val gD oD n cD i jp d P PQ 49 (x.tmps.getD 59 undef) w) (p40 : drrE_val gD oD n cD i jp d P PQ 40 (x.tmps.getD 50 undef) w) : Stp Fc nC Tryz.prog drr4_ops Q 50 60 (drrE_val gD oD n cD i jp d P PQ 50) x w := by
 (obtain ⟨hF, hi, hn, d0, hp, hr, d1, h2, d3, h3, hB, hdef, u0, u3⟩ := H; have ho : drr4_ops[50]? = some drr4_o50 := rfl; simp only [Array.getD_eq_getD_getElem?] at u0 u3)
 have q49 : Array.getD (Act.tmps x) 59 undef = undef := p49
 have q40 : Array.getD (Act.tmps x) 50 undef = undef := p40
 simp only [Array.getD_eq_getD_getElem?] at q49 q40
 have e40 : (drr4_ops[40]?.bind fun x => x.dst) = some 50 := rfl
 exact op_skipped hF ho rfl e40 q40 ⟨_, rfl, rfl, Below.refl _ _⟩
theorem drrE_s51 (H : drrE_H Fc gD oD n cD i jp d P PQ df w0 x w) (p50 : drrE_val gD oD n cD i jp d P PQ 50 (x.tmps.getD 60 undef) w) (p40 : drrE_val gD oD n cD i jp d P PQ 40 (x.tmps.getD 50 undef) w) : Stp Fc nC Tryz.prog drr4_ops Q 51 61 (drrE_val gD oD n cD i jp d P PQ 51) x w := by
 (obtain ⟨hF, hi, hn, d0, hp, hr, d1, h2, d3, h3, hB, hdef, u0, u3⟩ := H; have ho : drr4_ops[51]? = some drr4_o51 := rfl; simp only [Array.getD_eq_getD_getElem?] at u0 u3)
 have q50 : Array.getD (Act.tmps x) 60 undef = undef := p50
 have q40 : Array.getD (Act.tmps x) 50 undef = undef := p40
 simp only [Array.getD_eq_getD_getElem?] at q50 q40
 have e40 : (drr4_ops[40]?.bind fun x => x.dst) = some 50 := rfl
 exact op_skipped hF ho rfl e40 q40 ⟨_, rfl, rfl, Below.refl _ _⟩
theorem drrE_s52 (H : drrE_H Fc gD oD n cD i jp d P PQ df w0 x w) (p46 : drrE_val gD oD n cD i jp d P PQ 46 (x.tmps.getD 56 undef) w) (p51 : drrE_val gD oD n cD i jp d P PQ 51 (x.tmps.getD 61 undef) w) (p40 : drrE_val gD oD n cD i jp d P PQ 40 (x.tmps.getD 50 undef) w) : Stp Fc nC Tryz.prog drr4_ops Q 52 62 (drrE_val gD oD n cD i jp d P PQ 52) x w := by
 (obtain ⟨hF, hi, hn, d0, hp, hr, d1, h2, d3, h3, hB, hdef, u0, u3⟩ := H; have ho : drr4_ops[52]? = some drr4_o52 := rfl; simp only [Array.getD_eq_getD_getElem?] at u0 u3)
 have q46 : Array.getD (Act.tmps x) 56 undef = undef := p46
 have q51 : Array.getD (Act.tmps x) 61 undef = undef := p51
 have q40 : Array.getD (Act.tmps x) 50 undef = undef := p40
 simp only [Array.getD_eq_getD_getElem?] at q46 q51 q40
 have e40 : (drr4_ops[40]?.bind fun x => x.dst) = some 50 := rfl
 exact op_skipped hF ho rfl e40 q40 ⟨_, rfl, rfl, Below.refl _ _⟩
theorem drrE_s53 (H : drrE_H Fc gD oD n cD i jp d P PQ df w0 x w) (p40 : drrE_val gD oD n cD i jp d P PQ 40 (x.tmps.getD 50 undef) w) (p52 : drrE_val gD oD n cD i jp d P PQ 52 (x.tmps.getD 62 undef) w) (p37 : drrE_val gD oD n cD i jp d P PQ 37 (x.tmps.getD 47 undef) w) : Stp Fc nC Tryz.prog drr4_ops Q 53 63 (drrE_val gD oD n cD i jp d P PQ 53) x w := by
 (obtain ⟨hF, hi, hn, d0, hp, hr, d1, h2, d3, h3, hB, hdef, u0, u3⟩ := H; have ho : drr4_ops[53]? = some drr4_o53 := rfl; simp only [Array.getD_eq_getD_getElem?] at u0 u3)
 have q40 : Array.getD (Act.tmps x) 50 undef = undef := p40
 have q52 : Array.getD (Act.tmps x) 62 undef = undef := p52
 have q37 : Array.getD (Act.tmps x) 47 undef = .bool true := p37
 simp only [Array.getD_eq_getD_getElem?] at q40 q52 q37
 (have e37 : (drr4_ops[37]?.bind fun x => x.dst) = some 47 := rfl; have g37 := get_someT q37 (fun h => by cases h))
 (refine wpOpIn_stepT hF ho (fun K hK => ?_); clear ho; rw [Oper.semAt_plain Fc _ _ (by intro c h; cases h)]; simp only [drr4_o53]; go_simp)
 exact hK _ _ ⟨_, act_putD x hdef _ _, rfl, Below.refl _ _⟩
theorem drrE_s54 (H : drrE_H Fc gD oD n cD i jp d P PQ df w0 x w) (p37 : drrE_val gD oD n cD i jp d P PQ 37 (x.tmps.getD 47 undef) w) (p53 : drrE_val gD oD n cD i jp d P PQ 53 (x.tmps.getD 63 undef) w) : Stp Fc nC Tryz.prog drr4_ops Q 54 64 (drrE_val gD oD n cD i jp d P PQ 54) x w := by
 (obtain ⟨hF, hi, hn, d0, hp, hr, d1, h2, d3, h3, hB, hdef, u0, u3⟩ := H; have ho : drr4_ops[54]? = some drr4_o54 := rfl; simp only [Array.getD_eq_getD_getElem?] at u0 u3)
 have q37 : Array.getD (Act.tmps x) 47 undef = .bool true := p37
 have q53 : Array.getD (Act.tmps x) 63 undef = undef := p53
 simp only [Array.getD_eq_getD_getElem?] at q37 q53
 (refine wpOpIn_plain ho rfl (oper_inK hF.fn (fun K hK => ?_)); clear ho; rw [Oper.semAt_plain Fc _ _ (by intro c h; cases h)]; simp only [drr4_o54]; go_simp)
 exact hK _ _ ⟨_, act_putD x hdef _ _, rfl, Below.refl _ _⟩
end
section
theorem drrE {Fc : Fence} (hF : Wide Fc) {nC : Nat} (gD oD n cD i jp : Nat) (d : DT) (P PQ : List UInt8) (Q : Exit → Act → World → Prop) (t0 : Array Value) (df : List Deferred) (w0 : World) (ht : t0.size = 68)
  (hs0 : t0.getD 0 undef = .slice (some ⟨gD, oD, none⟩) n cD) (hs3 : t0.getD 3 undef = .int .i64 (i : Nat))
  (hi : i < n) (hn : n ≤ 140737488351232) (d0 : w0.cell? ⟨gD, oD + i * 4, none⟩ = some (by8 P)) (hp : P.length ≤ 1000000) (hr : rightP P = true) (d1 : w0.cell? ⟨gD, oD + i * 4 + 1, none⟩ = some (by8 d.L)) (h2 : (!(d.L == ofL P)) = false) (d3 : w0.cell? ⟨gD, oD + i * 4 + 3, none⟩ = some (.int .i64 d.Z)) (h3 : decide (d.Z < 0) = true)
  (hQ : ∀ (vs : Nat → Value) (w : World), Below w0.heap.size w0 w → (vs 64 = .bool true) → Q .normal { tmps := [10, 11, 12, 13, 14, 15, 16, 17, 18, 19, 20, 21, 22, 23, 24, 25, 26, 27, 28, 29, 30, 31, 32, 33, 34, 35, 36, 37, 38, 39, 40, 41, 42, 43, 44, 45, 46, 47, 48, 49, 50, 51, 52, 53, 54, 55, 56, 57, 58, 59, 60, 61, 62, 63, 64].foldl (fun y d => y.setIfInBounds d (vs d)) t0, defers := df } w) :
  (Code.region 4 drr4_ops true).wpIn Fc nC Tryz.prog Q { tmps := t0, defers := df } w0 := by
 refine wpIn_region_tail 55 (by decide) (by kernel_rfl) (fun a b => Below a.heap.size a b) (drrE_val gD oD n cD i jp d P PQ) t0 df w0 (by rw [ht]; kernel_rfl) (by kernel_rfl) (by kernel_rfl) (by kernel_rfl) ((Below.refl _ _).drew) (fun _ _ _ h k => h.trans (k.mono h.size)) (drrE_below gD oD n cD i jp d P PQ) ?_ ?_
 ·intro j o ho hj x w hB hdef hsz hs hdeps
  have hs' : ∀ s, ¬ drr4_mem s → x.tmps.getD s undef = t0.getD s undef := fun s hn => hs s (fun j hj e => hn (by rw [e]; exact drr4_slots j hj))
  have u0 := (hs' 0 (by decide)).trans hs0
  have u3 := (hs' 3 (by decide)).trans hs3
  have H : drrE_H Fc gD oD n cD i jp d P PQ df w0 x w := ⟨hF, hi, hn, d0, hp, hr, d1, h2, d3, h3, hB, hdef, u0, u3⟩
  match j, ho, hj with
  | 0, ho, _ =>
    (have e : o = drr4_o0 := (Option.some.inj ho).symm; subst e)
    exact drrE_s0 H 
  | 1, ho, _ =>
    (have e : o = drr4_o1 := (Option.some.inj ho).symm; subst e)
    exact drrE_s1 H 
  | 2, ho, _ =>
    (have e : o = drr4_o2 := (Option.some.inj ho).symm; subst e)
    exact drrE_s2 H (hdeps ⟨0, .data⟩ (by simp) rfl) (hdeps ⟨1, .data⟩ (by simp) rfl)
  | 3, ho, _ =>
    (have e : o = drr4_o3 := (Option.some.inj ho).symm; subst e)
    exact drrE_s3 H (hdeps ⟨2, .data⟩ (by simp) rfl)
  | 4, ho, _ =>
    (have e : o = drr4_o4 := (Option.some.inj ho).symm; subst e)
    exact drrE_s4 H (hdeps ⟨3, .data⟩ (by simp) rfl)
  | 5, ho, _ =>
    (have e : o = drr4_o5 := (Option.some.inj ho).symm; subst e)
    exact drrE_s5 H (hdeps ⟨4, .data⟩ (by simp) rfl)
  | 6, ho, _ =>
    (have e : o = drr4_o6 := (Option.some.inj ho).symm; subst e)
    exact drrE_s6 H (hdeps ⟨5, .data⟩ (by simp) rfl)
  | 7, ho, _ =>
    (have e : o = drr4_o7 := (Option.some.inj ho).symm; subst e)
    exact drrE_s7 H (hdeps ⟨6, .data⟩ (by simp) rfl)
  | 8, ho, _ =>
    (have e : o = drr4_o8 := (Option.some.inj ho).symm; subst e)
    exact drrE_s8 H (hdeps ⟨7, .guard⟩ (by simp) rfl)
  | 9, ho, _ =>
    (have e : o = drr4_o9 := (Option.some.inj ho).symm; subst e)
    exact drrE_s9 H (hdeps ⟨7, .guard⟩ (by simp) rfl)
  | 10, ho, _ =>
    (have e : o = drr4_o10 := (Option.some.inj ho).symm; subst e)
    exact drrE_s10 H (hdeps ⟨8, .data⟩ (by simp) rfl) (hdeps ⟨9, .data⟩ (by simp) rfl) (hdeps ⟨7, .guard⟩ (by simp) rfl)
  | 11, ho, _ =>
    (have e : o = drr4_o11 := (Option.some.inj ho).symm; subst e)
    exact drrE_s11 H (hdeps ⟨10, .data⟩ (by simp) rfl) (hdeps ⟨7, .guard⟩ (by simp) rfl)
  | 12, ho, _ =>
    (have e : o = drr4_o12 := (Option.some.inj ho).symm; subst e)
    exact drrE_s12 H (hdeps ⟨11, .data⟩ (by simp) rfl) (hdeps ⟨7, .guard⟩ (by simp) rfl)
  | 13, ho, _ =>
    (have e : o = drr4_o13 := (Option.some.inj ho).symm; subst e)
    exact drrE_s13 H (hdeps ⟨7, .guard⟩ (by simp) rfl)
  | 14, ho, _ =>
    (have e : o = drr4_o14 := (Option.some.inj ho).symm; subst e)
    exact drrE_s14 H (hdeps ⟨7, .guard⟩ (by simp) rfl)
  | 15, ho, _ =>
    (have e : o = drr4_o15 := (Option.some.inj ho).symm; subst e)
    exact drrE_s15 H (hdeps ⟨13, .data⟩ (by simp) rfl) (hdeps ⟨14, .data⟩ (by simp) rfl) (hdeps ⟨7, .guard⟩ (by simp) rfl)
  | 16, ho, _ =>
    (have e : o = drr4_o16 := (Option.some.inj ho).symm; subst e)
    exact drrE_s16 H (hdeps ⟨15, .data⟩ (by simp) rfl) (hdeps ⟨7, .guard⟩ (by simp) rfl)
  | 17, ho, _ =>
    (have e : o = drr4_o17 := (Option.some.inj ho).symm; subst e)
    exact drrE_s17 H (hdeps ⟨16, .data⟩ (by simp) rfl) (hdeps ⟨7, .guard⟩ (by simp) rfl)
  | 18, ho, _ =>
    (have e : o = drr4_o18 := (Option.some.inj ho).symm; subst e)
    exact drrE_s18 H (hdeps ⟨17, .data⟩ (by simp) rfl) (hdeps ⟨7, .guard⟩ (by simp) rfl)
  | 19, ho, _ =>
    (have e : o = drr4_o19 := (Option.some.inj ho).symm; subst e)
    exact drrE_s19 H (hdeps ⟨12, .data⟩ (by simp) rfl) (hdeps ⟨18, .data⟩ (by simp) rfl) (hdeps ⟨7, .guard⟩ (by simp) rfl)
  | 20, ho, _ =>
    (have e : o = drr4_o20 := (Option.some.inj ho).symm; subst e)
    exact drrE_s20 H (hdeps ⟨7, .data⟩ (by simp) rfl) (hdeps ⟨19, .data⟩ (by simp) rfl)
  | 21, ho, _ =>
    (have e : o = drr4_o21 := (Option.some.inj ho).symm; subst e)
    exact drrE_s21 H (hdeps ⟨20, .data⟩ (by simp) rfl)
  | 22, ho, _ =>
    (have e : o = drr4_o22 := (Option.some.inj ho).symm; subst e)
    exact drrE_s22 H (hdeps ⟨21, .guard⟩ (by simp) rfl)
  | 23, ho, _ =>
    (have e : o = drr4_o23 := (Option.some.inj ho).symm; subst e)
    exact drrE_s23 H (hdeps ⟨21, .guard⟩ (by simp) rfl)
  | 24, ho, _ =>
    (have e : o = drr4_o24 := (Option.some.inj ho).symm; subst e)
    exact drrE_s24 H (hdeps ⟨22, .data⟩ (by simp) rfl) (hdeps ⟨23, .data⟩ (by simp) rfl) (hdeps ⟨21, .guard⟩ (by simp) rfl)
  | 25, ho, _ =>
    (have e : o = drr4_o25 := (Option.some.inj ho).symm; subst e)
    exact drrE_s25 H (hdeps ⟨24, .data⟩ (by simp) rfl) (hdeps ⟨21, .guard⟩ (by simp) rfl)
  | 26, ho, _ =>
    (have e : o = drr4_o26 := (Option.some.inj ho).symm; subst e)
    exact drrE_s26 H (hdeps ⟨25, .data⟩ (by simp) rfl) (hdeps ⟨21, .guard⟩ (by simp) rfl)
  | 27, ho, _ =>
    (have e : o = drr4_o27 := (Option.some.inj ho).symm; subst e)
    exact drrE_s27 H (hdeps ⟨26, .data⟩ (by simp) rfl) (hdeps ⟨21, .guard⟩ (by simp) rfl)
  | 28, ho, _ =>
    (have e : o = drr4_o28 := (Option.some.inj ho).symm; subst e)
    exact drrE_s28 H (hdeps ⟨21, .data⟩ (by simp) rfl) (hdeps ⟨27, .data⟩ (by simp) rfl)
  | 29, ho, _ =>
    (have e : o = drr4_o29 := (Option.some.inj ho).symm; subst e)
    exact drrE_s29 H (hdeps ⟨28, .data⟩ (by simp) rfl)
  | 30, ho, _ =>
    (have e : o = drr4_o30 := (Option.some.inj ho).symm; subst e)
    exact drrE_s30 H (hdeps ⟨29, .guard⟩ (by simp) rfl)
  | 31, ho, _ =>
    (have e : o = drr4_o31 := (Option.some.inj ho).symm; subst e)
    exact drrE_s31 H (hdeps ⟨29, .guard⟩ (by simp) rfl)
  | 32, ho, _ =>
    (have e : o = drr4_o32 := (Option.some.inj ho).symm; subst e)
    exact drrE_s32 H (hdeps ⟨30, .data⟩ (by simp) rfl) (hdeps ⟨31, .data⟩ (by simp) rfl) (hdeps ⟨29, .guard⟩ (by simp) rfl)
  | 33, ho, _ =>
    (have e : o = drr4_o33 := (Option.some.inj ho).symm; subst e)
    exact drrE_s33 H (hdeps ⟨32, .data⟩ (by simp) rfl) (hdeps ⟨29, .guard⟩ (by simp) rfl)
  | 34, ho, _ =>
    (have e : o = drr4_o34 := (Option.some.inj ho).symm; subst e)
    exact drrE_s34 H (hdeps ⟨33, .data⟩ (by simp) rfl) (hdeps ⟨29, .guard⟩ (by simp) rfl)
  | 35, ho, _ =>
    (have e : o = drr4_o35 := (Option.some.inj ho).symm; subst e)
    exact drrE_s35 H (hdeps ⟨34, .data⟩ (by simp) rfl) (hdeps ⟨29, .guard⟩ (by simp) rfl)
  | 36, ho, _ =>
    (have e : o = drr4_o36 := (Option.some.inj ho).symm; subst e)
    exact drrE_s36 H (hdeps ⟨29, .data⟩ (by simp) rfl) (hdeps ⟨35, .data⟩ (by simp) rfl)
  | 37, ho, _ =>
    (have e : o = drr4_o37 := (Option.some.inj ho).symm; subst e)
    exact drrE_s37 H (hdeps ⟨36, .data⟩ (by simp) rfl)
  | 38, ho, _ =>
    (have e : o = drr4_o38 := (Option.some.inj ho).symm; subst e)
    exact drrE_s38 H (hdeps ⟨37, .guard⟩ (by simp) rfl)
  | 39, ho, _ =>
    (have e : o = drr4_o39 := (Option.some.inj ho).symm; subst e)
    exact drrE_s39 H (hdeps ⟨38, .data⟩ (by simp) rfl) (hdeps ⟨37, .guard⟩ (by simp) rfl)
  | 40, ho, _ =>
    (have e : o = drr4_o40 := (Option.some.inj ho).symm; subst e)
    exact drrE_s40 H (hdeps ⟨39, .data⟩ (by simp) rfl) (hdeps ⟨37, .guard⟩ (by simp) rfl)
  | 41, ho, _ =>
    (have e : o = drr4_o41 := (Option.some.inj ho).symm; subst e)
    exact drrE_s41 H (hdeps ⟨40, .guard⟩ (by simp) rfl)
  | 42, ho, _ =>
    (have e : o = drr4_o42 := (Option.some.inj ho).symm; subst e)
    exact drrE_s42 H (hdeps ⟨40, .guard⟩ (by simp) rfl)
  | 43, ho, _ =>
    (have e : o = drr4_o43 := (Option.some.inj ho).symm; subst e)
    exact drrE_s43 H (hdeps ⟨42, .data⟩ (by simp) rfl) (hdeps ⟨40, .guard⟩ (by simp) rfl)
  | 44, ho, _ =>
    (have e : o = drr4_o44 := (Option.some.inj ho).symm; subst e)
    exact drrE_s44 H (hdeps ⟨41, .data⟩ (by simp) rfl) (hdeps ⟨43, .data⟩ (by simp) rfl) (hdeps ⟨40, .guard⟩ (by simp) rfl)
  | 45, ho, _ =>
    (have e : o = drr4_o45 := (Option.some.inj ho).symm; subst e)
    exact drrE_s45 H (hdeps ⟨44, .data⟩ (by simp) rfl) (hdeps ⟨40, .guard⟩ (by simp) rfl)
  | 46, ho, _ =>
    (have e : o = drr4_o46 := (Option.some.inj ho).symm; subst e)
    exact drrE_s46 H (hdeps ⟨45, .data⟩ (by simp) rfl) (hdeps ⟨40, .guard⟩ (by simp) rfl)
  | 47, ho, _ =>
    (have e : o = drr4_o47 := (Option.some.inj ho).symm; subst e)
    exact drrE_s47 H (hdeps ⟨40, .guard⟩ (by simp) rfl)
  | 48, ho, _ =>
    (have e : o = drr4_o48 := (Option.some.inj ho).symm; subst e)
    exact drrE_s48 H (hdeps ⟨40, .guard⟩ (by simp) rfl)
  | 49, ho, _ =>
    (have e : o = drr4_o49 := (Option.some.inj ho).symm; subst e)
    exact drrE_s49 H (hdeps ⟨47, .data⟩ (by simp) rfl) (hdeps ⟨48, .data⟩ (by simp) rfl) (hdeps ⟨40, .guard⟩ (by simp) rfl)
  | 50, ho, _ =>
    (have e : o = drr4_o50 := (Option.some.inj ho).symm; subst e)
    exact drrE_s50 H (hdeps ⟨49, .data⟩ (by simp) rfl) (hdeps ⟨40, .guard⟩ (by simp) rfl)
  | 51, ho, _ =>
    (have e : o = drr4_o51 := (Option.some.inj ho).symm; subst e)
    exact drrE_s51 H (hdeps ⟨50, .data⟩ (by simp) rfl) (hdeps ⟨40, .guard⟩ (by simp) rfl)
  | 52, ho, _ =>
    (have e : o = drr4_o52 := (Option.some.inj ho).symm; subst e)
    exact drrE_s52 H (hdeps ⟨46, .data⟩ (by simp) rfl) (hdeps ⟨51, .data⟩ (by simp) rfl) (hdeps ⟨40, .guard⟩ (by simp) rfl)
  | 53, ho, _ =>
    (have e : o = drr4_o53 := (Option.some.inj ho).symm; subst e)
    exact drrE_s53 H (hdeps ⟨40, .data⟩ (by simp) rfl) (hdeps ⟨52, .data⟩ (by simp) rfl) (hdeps ⟨37, .guard⟩ (by simp) rfl)
  | 54, ho, _ =>
    (have e : o = drr4_o54 := (Option.some.inj ho).symm; subst e)
    exact drrE_s54 H (hdeps ⟨37, .data⟩ (by simp) rfl) (hdeps ⟨53, .data⟩ (by simp) rfl)
  | k + 55, _, hj => omega
 ·intro x w hB hdef hsz hs hv
  have hx := frame_sets x.tmps t0 hsz [10, 11, 12, 13, 14, 15, 16, 17, 18, 19, 20, 21, 22, 23, 24, 25, 26, 27, 28, 29, 30, 31, 32, 33, 34, 35, 36, 37, 38, 39, 40, 41, 42, 43, 44, 45, 46, 47, 48, 49, 50, 51, 52, 53, 54, 55, 56, 57, 58, 59, 60, 61, 62, 63, 64] (fun s hn => hs s (fun j hj e => hn (by rw [e]; exact drr4_slots j hj)))
  have hq := hQ (fun d => x.tmps.getD d undef) w hB (hv 54 (by decide))
  obtain ⟨T, Df⟩ := x
  dsimp only at hx hdef hq
  subst hdef
  rw [← hx] at hq
  exact hq
end
def drrF_val (gD oD n cD i jp : Nat) (d : DT) (P PQ : List UInt8) : Nat → Value → World → Prop
 | 0, v, w => v = .slice (some ⟨gD, oD, none⟩) n cD
 | 1, v, w => v = .int .i64 (i : Nat)
 | 2, v, w => v = .pointer (some ⟨gD, oD + i * 4, none⟩)
 | 3, v, w => v = .pointer (some ⟨gD, oD + i * 4, none⟩)
 | 4, v, w => v = by8 P
 | 5, v, w => v = .bool true
 | 6, v, w => v = .bool false
 | 7, v, w => v = .bool false
 | 8, v, w => v = .slice (some ⟨gD, oD, none⟩) n cD
 | 9, v, w => v = .int .i64 (i : Nat)
 | 10, v, w => v = .pointer (some ⟨gD, oD + i * 4, none⟩)
 | 11, v, w => v = .pointer (some ⟨gD, oD + i * 4 + 1, none⟩)
 | 12, v, w => v = by8 d.L
 | 13, v, w => v = .slice (some ⟨gD, oD, none⟩) n cD
 | 14, v, w => v = .int .i64 (i : Nat)
 | 15, v, w => v = .pointer (some ⟨gD, oD + i * 4, none⟩)
 | 16, v, w => v = .pointer (some ⟨gD, oD + i * 4, none⟩)
 | 17, v, w => v = by8 P
 | 18, v, w => v = by8 (ofL P)
 | 19, v, w | 20, v, w | 21, v, w => v = .bool false
 | 22, v, w => v = .slice (some ⟨gD, oD, none⟩) n cD
 | 23, v, w => v = .int .i64 (i : Nat)
 | 24, v, w => v = .pointer (some ⟨gD, oD + i * 4, none⟩)
 | 25, v, w => v = .pointer (some ⟨gD, oD + i * 4 + 3, none⟩)
 | 26, v, w => v = .int .i64 d.Z
 | 27, v, w | 28, v, w | 29, v, w => v = .bool false
 | 30, v, w => v = .slice (some ⟨gD, oD, none⟩) n cD
 | 31, v, w => v = .int .i64 (i : Nat)
 | 32, v, w => v = .pointer (some ⟨gD, oD + i * 4, none⟩)
 | 33, v, w => v = .pointer (some ⟨gD, oD + i * 4 + 3, none⟩)
 | 34, v, w => v = .int .i64 d.Z
 | 35, v, w | 36, v, w | 37, v, w => v = .bool true
 | 38, v, w | 39, v, w | 40, v, w | 41, v, w | 42, v, w | 43, v, w | 44, v, w | 45, v, w | 46, v, w | 47, v, w | 48, v, w | 49, v, w | 50, v, w | 51, v, w | 52, v, w | 53, v, w => v = undef
 | 54, v, w => v = .bool true
 | _, _, _ => True
theorem drrF_below (gD oD n cD i jp : Nat) (d : DT) (P PQ : List UInt8) (w w' : World) (hb : Below w.heap.size w w') : ∀ j v, drrF_val gD oD n cD i jp d P PQ j v w → drrF_val gD oD n cD i jp d P PQ j v w' := by
 intro j v h
 match j, h with
 | 0, h | 1, h | 2, h | 3, h | 4, h | 5, h | 6, h | 7, h | 8, h | 9, h | 10, h | 11, h | 12, h | 13, h | 14, h | 15, h | 16, h | 17, h | 18, h | 19, h | 20, h | 21, h | 22, h | 23, h | 24, h | 25, h | 26, h | 27, h | 28, h | 29, h | 30, h | 31, h | 32, h | 33, h | 34, h | 35, h | 36, h | 37, h | 38, h | 39, h | 40, h | 41, h | 42, h | 43, h | 44, h | 45, h | 46, h | 47, h | 48, h | 49, h | 50, h | 51, h | 52, h | 53, h | 54, h => exact h
 | _ + 55, h => exact h
def drrF_H (Fc : Fence) (gD oD n cD i jp : Nat) (d : DT) (P PQ : List UInt8) (df : List Deferred) (w0 : World) (x : Act) (w : World) : Prop :=
 (Wide Fc) ∧ (i < n) ∧ (n ≤ 140737488351232) ∧ (w0.cell? ⟨gD, oD + i * 4, none⟩ = some (by8 P)) ∧ (P.length ≤ 1000000) ∧ (rightP P = true) ∧ (w0.cell? ⟨gD, oD + i * 4 + 1, none⟩ = some (by8 d.L)) ∧ ((!(d.L == ofL P)) = false) ∧ (w0.cell? ⟨gD, oD + i * 4 + 3, none⟩ = some (.int .i64 d.Z)) ∧ (decide (d.Z < 0) = false) ∧ (decide ((1048576 : Int) < d.Z) = true) ∧ (Below w0.heap.size w0 w) ∧ (x.defers = df) ∧ (x.tmps.getD 0 undef = .slice (some ⟨gD, oD, none⟩) n cD) ∧ (x.tmps.getD 3 undef = .int .i64 (i : Nat))
section
set_option maxRecDepth 100000
set_option maxHeartbeats 2000000
variable {Fc : Fence} {nC : Nat} {gD oD n cD i jp : Nat} {d : DT} {P PQ : List UInt8} {Q : Exit → Act → World → Prop} {df : List Deferred} {w0 : World} {x : Act} {w : World}
theorem drrF_s0 (H : drrF_H Fc gD oD n cD i jp d P PQ df w0 x w) : Stp Fc nC Tryz.prog drr4_ops Q 0 10 (drrF_val gD oD n cD i jp d P PQ 0) x w := by
 (obtain ⟨hF, hi, hn, d0, hp, hr, d1, h2, d3, h3, h4, hB, hdef, u0, u3⟩ := H; have ho : drr4_ops[0]? = some drr4_o0 := rfl; simp only [Array.getD_eq_getD_getElem?] at u0 u3)
 (refine wpOpIn_plain ho rfl (oper_inK hF.fn (fun K hK => ?_)); clear ho; rw [Oper.semAt_plain Fc _ _ (by intro c h; cases h)]; simp only [drr4_o0]; go_simp)
 exact hK _ _ ⟨_, act_putD x hdef _ _, rfl, Below.refl _ _⟩
theorem drrF_s1 (H : drrF_H Fc gD oD n cD i jp d P PQ df w0 x w) : Stp Fc nC Tryz.prog drr4_ops Q 1 11 (drrF_val gD oD n cD i jp d P PQ 1) x w := by
 (obtain ⟨hF, hi, hn, d0, hp, hr, d1, h2, d3, h3, h4, hB, hdef, u0, u3⟩ := H; have ho : drr4_ops[1]? = some drr4_o1 := rfl; simp only [Array.getD_eq_getD_getElem?] at u0 u3)
 (refine wpOpIn_plain ho rfl (oper_inK hF.fn (fun K hK => ?_)); clear ho; rw [Oper.semAt_plain Fc _ _ (by intro c h; cases h)]; simp only [drr4_o1]; go_simp)
 exact hK _ _ ⟨_, act_putD x hdef _ _, rfl, Below.refl _ _⟩
theorem drrF_s2 (H : drrF_H Fc gD oD n cD i jp d P PQ df w0 x w) (p0 : drrF_val gD oD n cD i jp d P PQ 0 (x.tmps.getD 10 undef) w) (p1 : drrF_val gD oD n cD i jp d P PQ 1 (x.tmps.getD 11 undef) w) : Stp Fc nC Tryz.prog drr4_ops Q 2 12 (drrF_val gD oD n cD i jp d P PQ 2) x w := by
 (obtain ⟨hF, hi, hn, d0, hp, hr, d1, h2, d3, h3, h4, hB, hdef, u0, u3⟩ := H; have ho : drr4_ops[2]? = some drr4_o2 := rfl; simp only [Array.getD_eq_getD_getElem?] at u0 u3)
 have q0 : Array.getD (Act.tmps x) 10 undef = .slice (some ⟨gD, oD, none⟩) n cD := p0
 have q1 : Array.getD (Act.tmps x) 11 undef = .int .i64 (i : Nat) := p1
 simp only [Array.getD_eq_getD_getElem?] at q0 q1
 have i0 : (0 : Int) ≤ (i : Int) := by omega
 have i1 : (i : Int) < (n : Int) := by omega
 (refine wpOpIn_plain ho rfl (oper_inK hF.fn (fun K hK => ?_)); clear ho; rw [Oper.semAt_plain Fc _ _ (by intro c h; cases h)]; simp only [drr4_o2]; go_simp)
 exact hK _ _ ⟨_, act_putD x hdef _ _, rfl, Below.refl _ _⟩
theorem drrF_s3 (H : drrF_H Fc gD oD n cD i jp d P PQ df w0 x w) (p2 : drrF_val gD oD n cD i jp d P PQ 2 (x.tmps.getD 12 undef) w) : Stp Fc nC Tryz.prog drr4_ops Q 3 13 (drrF_val gD oD n cD i jp d P PQ 3) x w := by
 (obtain ⟨hF, hi, hn, d0, hp, hr, d1, h2, d3, h3, h4, hB, hdef, u0, u3⟩ := H; have ho : drr4_ops[3]? = some drr4_o3 := rfl; simp only [Array.getD_eq_getD_getElem?] at u0 u3)
 have q2 : Array.getD (Act.tmps x) 12 undef = .pointer (some ⟨gD, oD + i * 4, none⟩) := p2
 simp only [Array.getD_eq_getD_getElem?] at q2
 (refine wpOpIn_plain ho rfl (oper_inK hF.fn (fun K hK => ?_)); clear ho; rw [Oper.semAt_plain Fc _ _ (by intro c h; cases h)]; simp only [drr4_o3]; go_simp)
 exact hK _ _ ⟨_, act_putD x hdef _ _, rfl, Below.refl _ _⟩
theorem drrF_s4 (H : drrF_H Fc gD oD n cD i jp d P PQ df w0 x w) (p3 : drrF_val gD oD n cD i jp d P PQ 3 (x.tmps.getD 13 undef) w) : Stp Fc nC Tryz.prog drr4_ops Q 4 14 (drrF_val gD oD n cD i jp d P PQ 4) x w := by
 (obtain ⟨hF, hi, hn, d0, hp, hr, d1, h2, d3, h3, h4, hB, hdef, u0, u3⟩ := H; have ho : drr4_ops[4]? = some drr4_o4 := rfl; simp only [Array.getD_eq_getD_getElem?] at u0 u3)
 have q3 : Array.getD (Act.tmps x) 13 undef = .pointer (some ⟨gD, oD + i * 4, none⟩) := p3
 simp only [Array.getD_eq_getD_getElem?] at q3
 have m := cell_thru d0 hB
 (refine wpOpIn_plain ho rfl (oper_inK hF.fn (fun K hK => ?_)); clear ho; rw [Oper.semAt_plain Fc _ _ (by intro c h; cases h)]; simp only [drr4_o4]; go_simp)
 exact hK _ _ ⟨_, act_putD x hdef _ _, rfl, Below.refl _ _⟩
theorem drrF_s5 (H : drrF_H Fc gD oD n cD i jp d P PQ df w0 x w) (p4 : drrF_val gD oD n cD i jp d P PQ 4 (x.tmps.getD 14 undef) w) : Stp Fc nC Tryz.prog drr4_ops Q 5 15 (drrF_val gD oD n cD i jp d P PQ 5) x w := by
 (obtain ⟨hF, hi, hn, d0, hp, hr, d1, h2, d3, h3, h4, hB, hdef, u0, u3⟩ := H; have ho : drr4_ops[5]? = some drr4_o5 := rfl; simp only [Array.getD_eq_getD_getElem?] at u0 u3)
 have q4 : Array.getD (Act.tmps x) 14 undef = by8 P := p4
 simp only [Array.getD_eq_getD_getElem?] at q4
 (refine wpOpIn_plain ho rfl (oper_inK hF.fn (fun K hK => ?_)); clear ho; rw [Oper.semAt_plain Fc _ _ (by intro c h; cases h)]; simp only [drr4_o5]; go_simp)
 refine ⟨hF.deep, (hF.call (refRight_any P w hp)).mono ?_⟩
 rintro e w' ⟨rfl, hb⟩
 exact hK _ _ ⟨_, act_putD x hdef _ _, by rw [hr]; exact rfl, hb⟩
theorem drrF_s6 (H : drrF_H Fc gD oD n cD i jp d P PQ df w0 x w) (p5 : drrF_val gD oD n cD i jp d P PQ 5 (x.tmps.getD 15 undef) w) : Stp Fc nC Tryz.prog drr4_ops Q 6 16 (drrF_val gD oD n cD i jp d P PQ 6) x w := by
 (obtain ⟨hF, hi, hn, d0, hp, hr, d1, h2, d3, h3, h4, hB, hdef, u0, u3⟩ := H; have ho : drr4_ops[6]? = some drr4_o6 := rfl; simp only [Array.getD_eq_getD_getElem?] at u0 u3)
 have q5 : Array.getD (Act.tmps x) 15 undef = .bool true := p5
 simp only [Array.getD_eq_getD_getElem?] at q5
 (refine wpOpIn_plain ho rfl (oper_inK hF.fn (fun K hK => ?_)); clear ho; rw [Oper.semAt_plain Fc _ _ (by intro c h; cases h)]; simp only [drr4_o6]; go_simp)
 exact hK _ _ ⟨_, act_putD x hdef _ _, rfl, Below.refl _ _⟩
theorem drrF_s7 (H : drrF_H Fc gD oD n cD i jp d P PQ df w0 x w) (p6 : drrF_val gD oD n cD i jp d P PQ 6 (x.tmps.getD 16 undef) w) : Stp Fc nC Tryz.prog drr4_ops Q 7 17 (drrF_val gD oD n cD i jp d P PQ 7) x w := by
 (obtain ⟨hF, hi, hn, d0, hp, hr, d1, h2, d3, h3, h4, hB, hdef, u0, u3⟩ := H; have ho : drr4_ops[7]? = some drr4_o7 := rfl; simp only [Array.getD_eq_getD_getElem?] at u0 u3)
 have q6 : Array.getD (Act.tmps x) 16 undef = .bool false := p6
 simp only [Array.getD_eq_getD_getElem?] at q6
 (refine wpOpIn_plain ho rfl (oper_inK hF.fn (fun K hK => ?_)); clear ho; rw [Oper.semAt_plain Fc _ _ (by intro c h; cases h)]; simp only [drr4_o7]; go_simp)
 exact hK _ _ ⟨_, act_putD x hdef _ _, rfl, Below.refl _ _⟩
theorem drrF_s8 (H : drrF_H Fc gD oD n cD i jp d P PQ df w0 x w) (p7 : drrF_val gD oD n cD i jp d P PQ 7 (x.tmps.getD 17 undef) w) : Stp Fc nC Tryz.prog drr4_ops Q 8 18 (drrF_val gD oD n cD i jp d P PQ 8) x w := by
 (obtain ⟨hF, hi, hn, d0, hp, hr, d1, h2, d3, h3, h4, hB, hdef, u0, u3⟩ := H; have ho : drr4_ops[8]? = some drr4_o8 := rfl; simp only [Array.getD_eq_getD_getElem?] at u0 u3)
 have q7 : Array.getD (Act.tmps x) 17 undef = .bool false := p7
 simp only [Array.getD_eq_getD_getElem?] at q7
 (have e7 : (drr4_ops[7]?.bind fun x => x.dst) = some 17 := rfl; have g7 := get_someT q7 (fun h => by cases h))
 (refine wpOpIn_stepT hF ho (fun K hK => ?_); clear ho; rw [Oper.semAt_plain Fc _ _ (by intro c h; cases h)]; simp only [drr4_o8]; go_simp)
 exact hK _ _ ⟨_, act_putD x hdef _ _, rfl, Below.refl _ _⟩
theorem drrF_s9 (H : drrF_H Fc gD oD n cD i jp d P PQ df w0 x w) (p7 : drrF_val gD oD n cD i jp d P PQ 7 (x.tmps.getD 17 undef) w) : Stp Fc nC Tryz.prog drr4_ops Q 9 19 (drrF_val gD oD n cD i jp d P PQ 9) x w := by
 (obtain ⟨hF, hi, hn, d0, hp, hr, d1, h2, d3, h3, h4, hB, hdef, u0, u3⟩ := H; have ho : drr4_ops[9]? = some drr4_o9 := rfl; simp only [Array.getD_eq_getD_getElem?] at u0 u3)
 have q7 : Array.getD (Act.tmps x) 17 undef = .bool false := p7
 simp only [Array.getD_eq_getD_getElem?] at q7
 (have e7 : (drr4_ops[7]?.bind fun x => x.dst) = some 17 := rfl; have g7 := get_someT q7 (fun h => by cases h))
 (refine wpOpIn_stepT hF ho (fun K hK => ?_); clear ho; rw [Oper.semAt_plain Fc _ _ (by intro c h; cases h)]; simp only [drr4_o9]; go_simp)
 exact hK _ _ ⟨_, act_putD x hdef _ _, rfl, Below.refl _ _⟩
theorem drrF_s10 (H : drrF_H Fc gD oD n cD i jp d P PQ df w0 x w) (p8 : drrF_val gD oD n cD i jp d P PQ 8 (x.tmps.getD 18 undef) w) (p9 : drrF_val gD oD n cD i jp d P PQ 9 (x.tmps.getD 19 undef) w) (p7 : drrF_val gD oD n cD i jp d P PQ 7 (x.tmps.getD 17 undef) w) : Stp Fc nC Tryz.prog drr4_ops Q 10 20 (drrF_val gD oD n cD i jp d P PQ 10) x w := by
 (obtain ⟨hF, hi, hn, d0, hp, hr, d1, h2, d3, h3, h4, hB, hdef, u0, u3⟩ := H; have ho : drr4_ops[10]? = some drr4_o10 := rfl; simp only [Array.getD_eq_getD_getElem?] at u0 u3)
 have q8 : Array.getD (Act.tmps x) 18 undef = .slice (some ⟨gD, oD, none⟩) n cD := p8
 have q9 : Array.getD (Act.tmps x) 19 undef = .int .i64 (i : Nat) := p9
 have q7 : Array.getD (Act.tmps x) 17 undef = .bool false := p7
 simp only [Array.getD_eq_getD_getElem?] at q8 q9 q7
 (have e7 : (drr4_ops[7]?.bind fun x => x.dst) = some 17 := rfl; have g7 := get_someT q7 (fun h => by cases h))
 have i0 : (0 : Int) ≤ (i : Int) := by omega
 have i1 : (i : Int) < (n : Int) := by omega
 (refine wpOpIn_stepT hF ho (fun K hK => ?_); clear ho; rw [Oper.semAt_plain Fc _ _ (by intro c h; cases h)]; simp only [drr4_o10]; go_simp)
 exact hK _ _ ⟨_, act_putD x hdef _ _, rfl, Below.refl _ _⟩
theorem drrF_s11 (H : drrF_H Fc gD oD n cD i jp d P PQ df w0 x w) (p10 : drrF_val gD oD n cD i jp d P PQ 10 (x.tmps.getD 20 undef) w) (p7 : drrF_val gD oD n cD i jp d P PQ 7 (x.tmps.getD 17 undef) w) : Stp Fc nC Tryz.prog drr4_ops Q 11 21 (drrF_val gD oD n cD i jp d P PQ 11) x w := by
 (obtain ⟨hF, hi, hn, d0, hp, hr, d1, h2, d3, h3, h4, hB, hdef, u0, u3⟩ := H; have ho : drr4_ops[11]? = some drr4_o11 := rfl; simp only [Array.getD_eq_getD_getElem?] at u0 u3)
 have q10 : Array.getD (Act.tmps x) 20 undef = .pointer (some ⟨gD, oD + i * 4, none⟩) := p10
 have q7 : Array.getD (Act.tmps x) 17 undef = .bool false := p7
 simp only [Array.getD_eq_getD_getElem?] at q10 q7
 (have e7 : (drr4_ops[7]?.bind fun x => x.dst) = some 17 := rfl; have g7 := get_someT q7 (fun h => by cases h))
 (refine wpOpIn_stepT hF ho (fun K hK => ?_); clear ho; rw [Oper.semAt_plain Fc _ _ (by intro c h; cases h)]; simp only [drr4_o11]; go_simp)
 exact hK _ _ ⟨_, act_putD x hdef _ _, rfl, Below.refl _ _⟩
theorem drrF_s12 (H : drrF_H Fc gD oD n cD i jp d P PQ df w0 x w) (p11 : drrF_val gD oD n cD i jp d P PQ 11 (x.tmps.getD 21 undef) w) (p7 : drrF_val gD oD n cD i jp d P PQ 7 (x.tmps.getD 17 undef) w) : Stp Fc nC Tryz.prog drr4_ops Q 12 22 (drrF_val gD oD n cD i jp d P PQ 12) x w := by
 (obtain ⟨hF, hi, hn, d0, hp, hr, d1, h2, d3, h3, h4, hB, hdef, u0, u3⟩ := H; have ho : drr4_ops[12]? = some drr4_o12 := rfl; simp only [Array.getD_eq_getD_getElem?] at u0 u3)
 have q11 : Array.getD (Act.tmps x) 21 undef = .pointer (some ⟨gD, oD + i * 4 + 1, none⟩) := p11
 have q7 : Array.getD (Act.tmps x) 17 undef = .bool false := p7
 simp only [Array.getD_eq_getD_getElem?] at q11 q7
 (have e7 : (drr4_ops[7]?.bind fun x => x.dst) = some 17 := rfl; have g7 := get_someT q7 (fun h => by cases h))
 have m := cell_thru d1 hB
 (refine wpOpIn_stepT hF ho (fun K hK => ?_); clear ho; rw [Oper.semAt_plain Fc _ _ (by intro c h; cases h)]; simp only [drr4_o12]; go_simp)
 exact hK _ _ ⟨_, act_putD x hdef _ _, rfl, Below.refl _ _⟩
theorem drrF_s13 (H : drrF_H Fc gD oD n cD i jp d P PQ df w0 x w) (p7 : drrF_val gD oD n cD i jp d P PQ 7 (x.tmps.getD 17 undef) w) : Stp Fc nC Tryz.prog drr4_ops Q 13 23 (drrF_val gD oD n cD i jp d P PQ 13) x w := by
 (obtain ⟨hF, hi, hn, d0, hp, hr, d1, h2, d3, h3, h4, hB, hdef, u0, u3⟩ := H; have ho : drr4_ops[13]? = some drr4_o13 := rfl; simp only [Array.getD_eq_getD_getElem?] at u0 u3)
 have q7 : Array.getD (Act.tmps x) 17 undef = .bool false := p7
 simp only [Array.getD_eq_getD_getElem?] at q7
 (have e7 : (drr4_ops[7]?.bind fun x => x.dst) = some 17 := rfl; have g7 := get_someT q7 (fun h => by cases h))
 (refine wpOpIn_stepT hF ho (fun K hK => ?_); clear ho; rw [Oper.semAt_plain Fc _ _ (by intro c h; cases h)]; simp only [drr4_o13]; go_simp)
 exact hK _ _ ⟨_, act_putD x hdef _ _, rfl, Below.refl _ _⟩
theorem drrF_s14 (H : drrF_H Fc gD oD n cD i jp d P PQ df w0 x w) (p7 : drrF_val gD oD n cD i jp d P PQ 7 (x.tmps.getD 17 undef) w) : Stp Fc nC Tryz.prog drr4_ops Q 14 24 (drrF_val gD oD n cD i jp d P PQ 14) x w := by
 (obtain ⟨hF, hi, hn, d0, hp, hr, d1, h2, d3, h3, h4, hB, hdef, u0, u3⟩ := H; have ho : drr4_ops[14]? = some drr4_o14 := rfl; simp only [Array.getD_eq_getD_getElem?] at u0 u3)
 have q7 : Array.getD (Act.tmps x) 17 undef = .bool false := p7
 simp only [Array.getD_eq_getD_getElem?] at q7
 (have e7 : (drr4_ops[7]?.bind fun x => x.dst) = some 17 := rfl; have g7 := get_someT q7 (fun h => by cases h))
 (refine wpOpIn_stepT hF ho (fun K hK => ?_); clear ho; rw [Oper.semAt_plain Fc _ _ (by intro c h; cases h)]; simp only [drr4_o14]; go_simp)
 exact hK _ _ ⟨_, act_putD x hdef _ _, rfl, Below.refl _ _⟩
theorem drrF_s15 (H : drrF_H Fc gD oD n cD i jp d P PQ df w0 x w) (p13 : drrF_val gD oD n cD i jp d P PQ 13 (x.tmps.getD 23 undef) w) (p14 : drrF_val gD oD n cD i jp d P PQ 14 (x.tmps.getD 24 undef) w) (p7 : drrF_val gD oD n cD i jp d P PQ 7 (x.tmps.getD 17 undef) w) : Stp Fc nC Tryz.prog drr4_ops Q 15 25 (drrF_val gD oD n cD i jp d P PQ 15) x w := by
 (obtain ⟨hF, hi, hn, d0, hp, hr, d1, h2, d3, h3, h4, hB, hdef, u0, u3⟩ := H; have ho : drr4_ops[15]? = some drr4_o15 := rfl; simp only [Array.getD_eq_getD_getElem?] at u0 u3)
 have q13 : Array.getD (Act.tmps x) 23 undef = .slice (some ⟨gD, oD, none⟩) n cD := p13
 have q14 : Array.getD (Act.tmps x) 24 undef = .int .i64 (i : Nat) := p14
 have q7 : Array.getD (Act.tmps x) 17 undef = .bool false := p7
 simp only [Array.getD_eq_getD_getElem?] at q13 q14 q7
 (have e7 : (drr4_ops[7]?.bind fun x => x.dst) = some 17 := rfl; have g7 := get_someT q7 (fun h => by cases h))
 have i0 : (0 : Int) ≤ (i : Int) := by omega
 have i1 : (i : Int) < (n : Int) := by omega
 (refine wpOpIn_stepT hF ho (fun K hK => ?_); clear ho; rw [Oper.semAt_plain Fc _ _ (by intro c h; cases h)]; simp only [drr4_o15]; go_simp)
 exact hK _ _ ⟨_, act_putD x hdef _ _, rfl, Below.refl _ _⟩
theorem drrF_s16 (H : drrF_H Fc gD oD n cD i jp d P PQ df w0 x w) (p15 : drrF_val gD oD n cD i jp d P PQ 15 (x.tmps.getD 25 undef) w) (p7 : drrF_val gD oD n cD i jp d P PQ 7 (x.tmps.getD 17 undef) w) : Stp Fc nC Tryz.prog drr4_ops Q 16 26 (drrF_val gD oD n cD i jp d P PQ 16) x w := by
 (obtain ⟨hF, hi, hn, d0, hp, hr, d1, h2, d3, h3, h4, hB, hdef, u0, u3⟩ := H; have ho : drr4_ops[16]? = some drr4_o16 := rfl; simp only [Array.getD_eq_getD_getElem?] at u0 u3)
 have q15 : Array.getD (Act.tmps x) 25 undef = .pointer (some ⟨gD, oD + i * 4, none⟩) := p15
 have q7 : Array.getD (Act.tmps x) 17 undef = .bool false := p7
 simp only [Array.getD_eq_getD_getElem?] at q15 q7
 (have e7 : (drr4_ops[7]?.bind fun x => x.dst) = some 17 := rfl; have g7 := get_someT q7 (fun h => by cases h))
 (refine wpOpIn_stepT hF ho (fun K hK => ?_); clear ho; rw [Oper.semAt_plain Fc _ _ (by intro c h; cases h)]; simp only [drr4_o16]; go_simp)
 exact hK _ _ ⟨_, act_putD x hdef _ _, rfl, Below.refl _ _⟩
theorem drrF_s17 (H : drrF_H Fc gD oD n cD i jp d P PQ df w0 x w) (p16 : drrF_val gD oD n cD i jp d P PQ 16 (x.tmps.getD 26 undef) w) (p7 : drrF_val gD oD n cD i jp d P PQ 7 (x.tmps.getD 17 undef) w) : Stp Fc nC Tryz.prog drr4_ops Q 17 27 (drrF_val gD oD n cD i jp d P PQ 17) x w := by
 (obtain ⟨hF, hi, hn, d0, hp, hr, d1, h2, d3, h3, h4, hB, hdef, u0, u3⟩ := H; have ho : drr4_ops[17]? = some drr4_o17 := rfl; simp only [Array.getD_eq_getD_getElem?] at u0 u3)
 have q16 : Array.getD (Act.tmps x) 26 undef = .pointer (some ⟨gD, oD + i * 4, none⟩) := p16
 have q7 : Array.getD (Act.tmps x) 17 undef = .bool false := p7
 simp only [Array.getD_eq_getD_getElem?] at q16 q7
 (have e7 : (drr4_ops[7]?.bind fun x => x.dst) = some 17 := rfl; have g7 := get_someT q7 (fun h => by cases h))
 have m := cell_thru d0 hB
 (refine wpOpIn_stepT hF ho (fun K hK => ?_); clear ho; rw [Oper.semAt_plain Fc _ _ (by intro c h; cases h)]; simp only [drr4_o17]; go_simp)
 exact hK _ _ ⟨_, act_putD x hdef _ _, rfl, Below.refl _ _⟩
theorem drrF_s18 (H : drrF_H Fc gD oD n cD i jp d P PQ df w0 x w) (p17 : drrF_val gD oD n cD i jp d P PQ 17 (x.tmps.getD 27 undef) w) (p7 : drrF_val gD oD n cD i jp d P PQ 7 (x.tmps.getD 17 undef) w) : Stp Fc nC Tryz.prog drr4_ops Q 18 28 (drrF_val gD oD n cD i jp d P PQ 18) x w := by
 (obtain ⟨hF, hi, hn, d0, hp, hr, d1, h2, d3, h3, h4, hB, hdef, u0, u3⟩ := H; have ho : drr4_ops[18]? = some drr4_o18 := rfl; simp only [Array.getD_eq_getD_getElem?] at u0 u3)
 have q17 : Array.getD (Act.tmps x) 27 undef = by8 P := p17
 have q7 : Array.getD (Act.tmps x) 17 undef = .bool false := p7
 simp only [Array.getD_eq_getD_getElem?] at q17 q7
 (have e7 : (drr4_ops[7]?.bind fun x => x.dst) = some 17 := rfl; have g7 := get_someT q7 (fun h => by cases h))
 (refine wpOpIn_stepT hF ho (fun K hK => ?_); clear ho; rw [Oper.semAt_plain Fc _ _ (by intro c h; cases h)]; simp only [drr4_o18]; go_simp)
 refine ⟨hF.deep, (hF.call (refOf_any P w hp)).mono ?_⟩
 rintro e w' ⟨rfl, hb⟩
 exact hK _ _ ⟨_, act_putD x hdef _ _, rfl, hb⟩
theorem drrF_s19 (H : drrF_H Fc gD oD n cD i jp d P PQ df w0 x w) (p12 : drrF_val gD oD n cD i jp d P PQ 12 (x.tmps.getD 22 undef) w) (p18 : drrF_val gD oD n cD i jp d P PQ 18 (x.tmps.getD 28 undef) w) (p7 : drrF_val gD oD n cD i jp d P PQ 7 (x.tmps.getD 17 undef) w) : Stp Fc nC Tryz.prog drr4_ops Q 19 29 (drrF_val gD oD n cD i jp d P PQ 19) x w := by
 (obtain ⟨hF, hi, hn, d0, hp, hr, d1, h2, d3, h3, h4, hB, hdef, u0, u3⟩ := H; have ho : drr4_ops[19]? = some drr4_o19 := rfl; simp only [Array.getD_eq_getD_getElem?] at u0 u3)
 have q12 : Array.getD (Act.tmps x) 22 undef = by8 d.L := p12
 have q18 : Array.getD (Act.tmps x) 28 undef = by8 (ofL P) := p18
 have q7 : Array.getD (Act.tmps x) 17 undef = .bool false := p7
 simp only [Array.getD_eq_getD_getElem?] at q12 q18 q7
 (have e7 : (drr4_ops[7]?.bind fun x => x.dst) = some 17 := rfl; have g7 := get_someT q7 (fun h => by cases h))
 have m := h2
 unfold by8 at q12 q18
 (refine wpOpIn_stepT hF ho (fun K hK => ?_); clear ho; rw [Oper.semAt_plain Fc _ _ (by intro c h; cases h)]; simp only [drr4_o19]; go_simp)
 exact hK _ _ ⟨_, act_putD x hdef _ _, rfl, Below.refl _ _⟩
theorem drrF_s20 (H : drrF_H Fc gD oD n cD i jp d P PQ df w0 x w) (p7 : drrF_val gD oD n cD i jp d P PQ 7 (x.tmps.getD 17 undef) w) (p19 : drrF_val gD oD n cD i jp d P PQ 19 (x.tmps.getD 29 undef) w) : Stp Fc nC Tryz.prog drr4_ops Q 20 30 (drrF_val gD oD n cD i jp d P PQ 20) x w := by
 (obtain ⟨hF, hi, hn, d0, hp, hr, d1, h2, d3, h3, h4, hB, hdef, u0, u3⟩ := H; have ho : drr4_ops[20]? = some drr4_o20 := rfl; simp only [Array.getD_eq_getD_getElem?] at u0 u3)
 have q7 : Array.getD (Act.tmps x) 17 undef = .bool false := p7
 have q19 : Array.getD (Act.tmps x) 29 undef = .bool false := p19
 simp only [Array.getD_eq_getD_getElem?] at q7 q19
 (refine wpOpIn_plain ho rfl (oper_inK hF.fn (fun K hK => ?_)); clear ho; rw [Oper.semAt_plain Fc _ _ (by intro c h; cases h)]; simp only [drr4_o20]; go_simp)
 exact hK _ _ ⟨_, act_putD x hdef _ _, rfl, Below.refl _ _⟩
theorem drrF_s21 (H : drrF_H Fc gD oD n cD i jp d P PQ df w0 x w) (p20 : drrF_val gD oD n cD i jp d P PQ 20 (x.tmps.getD 30 undef) w) : Stp Fc nC Tryz.prog drr4_ops Q 21 31 (drrF_val gD oD n cD i jp d P PQ 21) x w := by
 (obtain ⟨hF, hi, hn, d0, hp, hr, d1, h2, d3, h3, h4, hB, hdef, u0, u3⟩ := H; have ho : drr4_ops[21]? = some drr4_o21 := rfl; simp only [Array.getD_eq_getD_getElem?] at u0 u3)
 have q20 : Array.getD (Act.tmps x) 30 undef = .bool false := p20
 simp only [Array.getD_eq_getD_getElem?] at q20
 (refine wpOpIn_plain ho rfl (oper_inK hF.fn (fun K hK => ?_)); clear ho; rw [Oper.semAt_plain Fc _ _ (by intro c h; cases h)]; simp only [drr4_o21]; go_simp)
 exact hK _ _ ⟨_, act_putD x hdef _ _, rfl, Below.refl _ _⟩
theorem drrF_s22 (H : drrF_H Fc gD oD n cD i jp d P PQ df w0 x w) (p21 : drrF_val gD oD n cD i jp d P PQ 21 (x.tmps.getD 31 undef) w) : Stp Fc nC Tryz.prog drr4_ops Q 22 32 (drrF_val gD oD n cD i jp d P PQ 22) x w := by
 (obtain ⟨hF, hi, hn, d0, hp, hr, d1, h2, d3, h3, h4, hB, hdef, u0, u3⟩ := H; have ho : drr4_ops[22]? = some drr4_o22 := rfl; simp only [Array.getD_eq_getD_getElem?] at u0 u3)
 have q21 : Array.getD (Act.tmps x) 31 undef = .bool false := p21
 simp only [Array.getD_eq_getD_getElem?] at q21
 (have e21 : (drr4_ops[21]?.bind fun x => x.dst) = some 31 := rfl; have g21 := get_someT q21 (fun h => by cases h))
 (refine wpOpIn_stepT hF ho (fun K hK => ?_); clear ho; rw [Oper.semAt_plain Fc _ _ (by intro c h; cases h)]; simp only [drr4_o22]; go_simp)
 exact hK _ _ ⟨_, act_putD x hdef _ _, rfl, Below.refl _ _⟩
theorem drrF_s23 (H : drrF_H Fc gD oD n cD i jp d P PQ df w0 x w) (p21 : drrF_val gD oD n cD i jp d P PQ 21 (x.tmps.getD 31 undef) w) : Stp Fc nC Tryz.prog drr4_ops Q 23 33 (drrF_val gD oD n cD i jp d P PQ 23) x w := by
 (obtain ⟨hF, hi, hn, d0, hp, hr, d1, h2, d3, h3, h4, hB, hdef, u0, u3⟩ := H; have ho : drr4_ops[23]? = some drr4_o23 := rfl; simp only [Array.getD_eq_getD_getElem?] at u0 u3)
 have q21 : Array.getD (Act.tmps x) 31 undef = .bool false := p21
 simp only [Array.getD_eq_getD_getElem?] at q21
 (have e21 : (drr4_ops[21]?.bind fun x => x.dst) = some 31 := rfl; have g21 := get_someT q21 (fun h => by cases h))
 (refine wpOpIn_stepT hF ho (fun K hK => ?_); clear ho; rw [Oper.semAt_plain Fc _ _ (by intro c h; cases h)]; simp only [drr4_o23]; go_simp)
 exact hK _ _ ⟨_, act_putD x hdef _ _, rfl, Below.refl _ _⟩
theorem drrF_s24 (H : drrF_H Fc gD oD n cD i jp d P PQ df w0 x w) (p22 : drrF_val gD oD n cD i jp d P PQ 22 (x.tmps.getD 32 undef) w) (p23 : drrF_val gD oD n cD i jp d P PQ 23 (x.tmps.getD 33 undef) w) (p21 : drrF_val gD oD n cD i jp d P PQ 21 (x.tmps.getD 31 undef) w) : Stp Fc nC Tryz.prog drr4_ops Q 24 34 (drrF_val gD oD n cD i jp d P PQ 24) x w := by
 (obtain ⟨hF, hi, hn, d0, hp, hr, d1, h2, d3, h3, h4, hB, hdef, u0, u3⟩ := H; have ho : drr4_ops[24]? = some drr4_o24 := rfl; simp only [Array.getD_eq_getD_getElem?] at u0 u3)
 have q22 : Array.getD (Act.tmps x) 32 undef = .slice (some ⟨gD, oD, none⟩) n cD := p22
 have q23 : Array.getD (Act.tmps x) 33 undef = .int .i64 (i : Nat) := p23
 have q21 : Array.getD (Act.tmps x) 31 undef = .bool false := p21
 simp only [Array.getD_eq_getD_getElem?] at q22 q23 q21
 (have e21 : (drr4_ops[21]?.bind fun x => x.dst) = some 31 := rfl; have g21 := get_someT q21 (fun h => by cases h))
 have i0 : (0 : Int) ≤ (i : Int) := by omega
 have i1 : (i : Int) < (n : Int) := by omega
 (refine wpOpIn_stepT hF ho (fun K hK => ?_); clear ho; rw [Oper.semAt_plain Fc _ _ (by intro c h; cases h)]; simp only [drr4_o24]; go_simp)
 exact hK _ _ ⟨_, act_putD x hdef _ _, rfl, Below.refl _ _⟩
theorem drrF_s25 (H : drrF_H Fc gD oD n cD i jp d P PQ df w0 x w) (p24 : drrF_val gD oD n cD i jp d P PQ 24 (x.tmps.getD 34 undef) w) (p21 : drrF_val gD oD n cD i jp d P PQ 21 (x.tmps.getD 31 undef) w) : Stp Fc nC Tryz.prog drr4_ops Q 25 35 (drrF_val gD oD n cD i jp d P PQ 25) x w := by
 (obtain ⟨hF, hi, hn, d0, hp, hr, d1, h2, d3, h3, h4, hB, hdef, u0, u3⟩ := H; have ho : drr4_ops[25]? = some drr4_o25 := rfl; simp only [Array.getD_eq_getD_getElem?] at u0 u3)
 have q24 : Array.getD (Act.tmps x) 34 undef = .pointer (some ⟨gD, oD + i * 4, none⟩) := p24
 have q21 : Array.getD (Act.tmps x) 31 undef = .bool false := p21
 simp only [Array.getD_eq_getD_getElem?] at q24 q21
 (have e21 : (drr4_ops[21]?.bind fun x => x.dst) = some 31 := rfl; have g21 := get_someT q21 (fun h => by cases h))
 (refine wpOpIn_stepT hF ho (fun K hK => ?_); clear ho; rw [Oper.semAt_plain Fc _ _ (by intro c h; cases h)]; simp only [drr4_o25]; go_simp)
 exact hK _ _ ⟨_, act_putD x hdef _ _, rfl, Below.refl _ _⟩
theorem drrF_s26 (H : drrF_H Fc gD oD n cD i jp d P PQ df w0 x w) (p25 : drrF_val gD oD n cD i jp d P PQ 25 (x.tmps.getD 35 undef) w) (p21 : drrF_val gD oD n cD i jp d P PQ 21 (x.tmps.getD 31 undef) w) : Stp Fc nC Tryz.prog drr4_ops Q 26 36 (drrF_val gD oD n cD i jp d P PQ 26) x w := by
 (obtain ⟨hF, hi, hn, d0, hp, hr, d1, h2, d3, h3, h4, hB, hdef, u0, u3⟩ := H; have ho : drr4_ops[26]? = some drr4_o26 := rfl; simp only [Array.getD_eq_getD_getElem?] at u0 u3)
 have q25 : Array.getD (Act.tmps x) 35 undef = .pointer (some ⟨gD, oD + i * 4 + 3, none⟩) := p25
 have q21 : Array.getD (Act.tmps x) 31 undef = .bool false := p21
 simp only [Array.getD_eq_getD_getElem?] at q25 q21
 (have e21 : (drr4_ops[21]?.bind fun x => x.dst) = some 31 := rfl; have g21 := get_someT q21 (fun h => by cases h))
 have m := cell_thru d3 hB
 (refine wpOpIn_stepT hF ho (fun K hK => ?_); clear ho; rw [Oper.semAt_plain Fc _ _ (by intro c h; cases h)]; simp only [drr4_o26]; go_simp)
 exact hK _ _ ⟨_, act_putD x hdef _ _, rfl, Below.refl _ _⟩
theorem drrF_s27 (H : drrF_H Fc gD oD n cD i jp d P PQ df w0 x w) (p26 : drrF_val gD oD n cD i jp d P PQ 26 (x.tmps.getD 36 undef) w) (p21 : drrF_val gD oD n cD i jp d P PQ 21 (x.tmps.getD 31 undef) w) : Stp Fc nC Tryz.prog drr4_ops Q 27 37 (drrF_val gD oD n cD i jp d P PQ 27) x w := by
 (obtain ⟨hF, hi, hn, d0, hp, hr, d1, h2, d3, h3, h4, hB, hdef, u0, u3⟩ := H; have ho : drr4_ops[27]? = some drr4_o27 := rfl; simp only [Array.getD_eq_getD_getElem?] at u0 u3)
 have q26 : Array.getD (Act.tmps x) 36 undef = .int .i64 d.Z := p26
 have q21 : Array.getD (Act.tmps x) 31 undef = .bool false := p21
 simp only [Array.getD_eq_getD_getElem?] at q26 q21
 (have e21 : (drr4_ops[21]?.bind fun x => x.dst) = some 31 := rfl; have g21 := get_someT q21 (fun h => by cases h))
 have m := h3
 (refine wpOpIn_stepT hF ho (fun K hK => ?_); clear ho; rw [Oper.semAt_plain Fc _ _ (by intro c h; cases h)]; simp only [drr4_o27]; go_simp)
 exact hK _ _ ⟨_, act_putD x hdef _ _, rfl, Below.refl _ _⟩
theorem drrF_s28 (H : drrF_H Fc gD oD n cD i jp d P PQ df w0 x w) (p21 : drrF_val gD oD n cD i jp d P PQ 21 (x.tmps.getD 31 undef) w) (p27 : drrF_val gD oD n cD i jp d P PQ 27 (x.tmps.getD 37 undef) w) : Stp Fc nC Tryz.prog drr4_ops Q 28 38 (drrF_val gD oD n cD i jp d P PQ 28) x w := by
 (obtain ⟨hF, hi, hn, d0, hp, hr, d1, h2, d3, h3, h4, hB, hdef, u0, u3⟩ := H; have ho : drr4_ops[28]? = some drr4_o28 := rfl; simp only [Array.getD_eq_getD_getElem?] at u0 u3)
 have q21 : Array.getD (Act.tmps x) 31 undef = .bool false := p21
 have q27 : Array.getD (Act.tmps x) 37 undef = .bool false := p27
 simp only [Array.getD_eq_getD_getElem?] at q21 q27
 (refine wpOpIn_plain ho rfl (oper_inK hF.fn (fun K hK => ?_)); clear ho; rw [Oper.semAt_plain Fc _ _ (by intro c h; cases h)]; simp only [drr4_o28]; go_simp)
 exact hK _ _ ⟨_, act_putD x hdef _ _, rfl, Below.refl _ _⟩
theorem drrF_s29 (H : drrF_H Fc gD oD n cD i jp d P PQ df w0 x w) (p28 : drrF_val gD oD n cD i jp d P PQ 28 (x.tmps.getD 38 undef) w) : Stp Fc nC Tryz.prog drr4_ops Q 29 39 (drrF_val gD oD n cD i jp d P PQ 29) x w := by
 (obtain ⟨hF, hi, hn, d0, hp, hr, d1, h2, d3, h3, h4, hB, hdef, u0, u3⟩ := H; have ho : drr4_ops[29]? = some drr4_o29 := rfl; simp only [Array.getD_eq_getD_getElem?] at u0 u3)
 have q28 : Array.getD (Act.tmps x) 38 undef = .bool false := p28
 simp only [Array.getD_eq_getD_getElem?] at q28
 (refine wpOpIn_plain ho rfl (oper_inK hF.fn (fun K hK => ?_)); clear ho; rw [Oper.semAt_plain Fc _ _ (by intro c h; cases h)]; simp only [drr4_o29]; go_simp)
 exact hK _ _ ⟨_, act_putD x hdef _ _, rfl, Below.refl _ _⟩
theorem drrF_s30 (H : drrF_H Fc gD oD n cD i jp d P PQ df w0 x w) (p29 : drrF_val gD oD n cD i jp d P PQ 29 (x.tmps.getD 39 undef) w) : Stp Fc nC Tryz.prog drr4_ops Q 30 40 (drrF_val gD oD n cD i jp d P PQ 30) x w := by
 (obtain ⟨hF, hi, hn, d0, hp, hr, d1, h2, d3, h3, h4, hB, hdef, u0, u3⟩ := H; have ho : drr4_ops[30]? = some drr4_o30 := rfl; simp only [Array.getD_eq_getD_getElem?] at u0 u3)
 have q29 : Array.getD (Act.tmps x) 39 undef = .bool false := p29
 simp only [Array.getD_eq_getD_getElem?] at q29
 (have e29 : (drr4_ops[29]?.bind fun x => x.dst) = some 39 := rfl; have g29 := get_someT q29 (fun h => by cases h))
 (refine wpOpIn_stepT hF ho (fun K hK => ?_); clear ho; rw [Oper.semAt_plain Fc _ _ (by intro c h; cases h)]; simp only [drr4_o30]; go_simp)
 exact hK _ _ ⟨_, act_putD x hdef _ _, rfl, Below.refl _ _⟩
theorem drrF_s31 (H : drrF_H Fc gD oD n cD i jp d P PQ df w0 x w) (p29 : drrF_val gD oD n cD i jp d P PQ 29 (x.tmps.getD 39 undef) w) : Stp Fc nC Tryz.prog drr4_ops Q 31 41 (drrF_val gD oD n cD i jp d P PQ 31) x w := by
 (obtain ⟨hF, hi, hn, d0, hp, hr, d1, h2, d3, h3, h4, hB, hdef, u0, u3⟩ := H; have ho : drr4_ops[31]? = some drr4_o31 := rfl; simp only [Array.getD_eq_getD_getElem?] at u0 u3)
 have q29 : Array.getD (Act.tmps x) 39 undef = .bool false := p29
 simp only [Array.getD_eq_getD_getElem?] at q29
 (have e29 : (drr4_ops[29]?.bind fun x => x.dst) = some 39 := rfl; have g29 := get_someT q29 (fun h => by cases h))
 (refine wpOpIn_stepT hF ho (fun K hK => ?_); clear ho; rw [Oper.semAt_plain Fc _ _ (by intro c h; cases h)]; simp only [drr4_o31]; go_simp)
 exact hK _ _ ⟨_, act_putD x hdef _ _, rfl, Below.refl _ _⟩
theorem drrF_s32 (H : drrF_H Fc gD oD n cD i jp d P PQ df w0 x w) (p30 : drrF_val gD oD n cD i jp d P PQ 30 (x.tmps.getD 40 undef) w) (p31 : drrF_val gD oD n cD i jp d P PQ 31 (x.tmps.getD 41 undef) w) (p29 : drrF_val gD oD n cD i jp d P PQ 29 (x.tmps.getD 39 undef) w) : Stp Fc nC Tryz.prog drr4_ops Q 32 42 (drrF_val gD oD n cD i jp d P PQ 32) x w := by
 (obtain ⟨hF, hi, hn, d0, hp, hr, d1, h2, d3, h3, h4, hB, hdef, u0, u3⟩ := H; have ho : drr4_ops[32]? = some drr4_o32 := rfl; simp only [Array.getD_eq_getD_getElem?] at u0 u3)
 have q30 : Array.getD (Act.tmps x) 40 undef = .slice (some ⟨gD, oD, none⟩) n cD := p30
 have q31 : Array.getD (Act.tmps x) 41 undef = .int .i64 (i : Nat) := p31
 have q29 : Array.getD (Act.tmps x) 39 undef = .bool false := p29
 simp only [Array.getD_eq_getD_getElem?] at q30 q31 q29
 (have e29 : (drr4_ops[29]?.bind fun x => x.dst) = some 39 := rfl; have g29 := get_someT q29 (fun h => by cases h))
 have i0 : (0 : Int) ≤ (i : Int) := by omega
 have i1 : (i : Int) < (n : Int) := by omega
 (refine wpOpIn_stepT hF ho (fun K hK => ?_); clear ho; rw [Oper.semAt_plain Fc _ _ (by intro c h; cases h)]; simp only [drr4_o32]; go_simp)
 exact hK _ _ ⟨_, act_putD x hdef _ _, rfl, Below.refl _ _⟩
theorem drrF_s33 (H : drrF_H Fc gD oD n cD i jp d P PQ df w0 x w) (p32 : drrF_val gD oD n cD i jp d P PQ 32 (x.tmps.getD 42 undef) w) (p29 : drrF_val gD oD n cD i jp d P PQ 29 (x.tmps.getD 39 undef) w) : Stp Fc nC Tryz.prog drr4_ops Q 33 43 (drrF_val gD oD n cD i jp d P PQ 33) x w := by
 (obtain ⟨hF, hi, hn, d0, hp, hr, d1, h2, d3, h3, h4, hB, hdef, u0, u3⟩ := H; have ho : drr4_ops[33]? = some drr4_o33 := rfl; simp only [Array.getD_eq_getD_getElem?] at u0 u3)
 have q32 : Array.getD (Act.tmps x) 42 undef = .pointer (some ⟨gD, oD + i * 4, none⟩) := p32
 have q29 : Array.getD (Act.tmps x) 39 undef = .bool false := p29
 simp only [Array.getD_eq_getD_getElem?] at q32 q29
 (have e29 : (drr4_ops[29]?.bind fun x => x.dst) = some 39 := rfl; have g29 := get_someT q29 (fun h => by cases h))
 (refine wpOpIn_stepT hF ho (fun K hK => ?_); clear ho; rw [Oper.semAt_plain Fc _ _ (by intro c h; cases h)]; simp only [drr4_o33]; go_simp)
 exact hK _ _ ⟨_, act_putD x hdef _ _, rfl, Below.refl _ _⟩
theorem drrF_s34 (H : drrF_H Fc gD oD n cD i jp d P PQ df w0 x w) (p33 : drrF_val gD oD n cD i jp d P PQ 33 (x.tmps.getD 43 undef) w) (p29 : drrF_val gD oD n cD i jp d P PQ 29 (x.tmps.getD 39 undef) w) : Stp Fc nC Tryz.prog drr4_ops Q 34 44 (drrF_val gD oD n cD i jp d P PQ 34) x w := by
 (obtain ⟨hF, hi, hn, d0, hp, hr, d1, h2, d3, h3, h4, hB, hdef, u0, u3⟩ := H; have ho : drr4_ops[34]? = some drr4_o34 := rfl; simp only [Array.getD_eq_getD_getElem?] at u0 u3)
 have q33 : Array.getD (Act.tmps x) 43 undef = .pointer (some ⟨gD, oD + i * 4 + 3, none⟩) := p33
 have q29 : Array.getD (Act.tmps x) 39 undef = .bool false := p29
 simp only [Array.getD_eq_getD_getElem?] at q33 q29
 (have e29 : (drr4_ops[29]?.bind fun x => x.dst) = some 39 := rfl; have g29 := get_someT q29 (fun h => by cases h))
 have m := cell_thru d3 hB
 (refine wpOpIn_stepT hF ho (fun K hK => ?_); clear ho; rw [Oper.semAt_plain Fc _ _ (by intro c h; cases h)]; simp only [drr4_o34]; go_simp)
 exact hK _ _ ⟨_, act_putD x hdef _ _, rfl, Below.refl _ _⟩
theorem drrF_s35 (H : drrF_H Fc gD oD n cD i jp d P PQ df w0 x w) (p34 : drrF_val gD oD n cD i jp d P PQ 34 (x.tmps.getD 44 undef) w) (p29 : drrF_val gD oD n cD i jp d P PQ 29 (x.tmps.getD 39 undef) w) : Stp Fc nC Tryz.prog drr4_ops Q 35 45 (drrF_val gD oD n cD i jp d P PQ 35) x w := by
 (obtain ⟨hF, hi, hn, d0, hp, hr, d1, h2, d3, h3, h4, hB, hdef, u0, u3⟩ := H; have ho : drr4_ops[35]? = some drr4_o35 := rfl; simp only [Array.getD_eq_getD_getElem?] at u0 u3)
 have q34 : Array.getD (Act.tmps x) 44 undef = .int .i64 d.Z := p34
 have q29 : Array.getD (Act.tmps x) 39 undef = .bool false := p29
 simp only [Array.getD_eq_getD_getElem?] at q34 q29
 (have e29 : (drr4_ops[29]?.bind fun x => x.dst) = some 39 := rfl; have g29 := get_someT q29 (fun h => by cases h))
 have m := h4
 (refine wpOpIn_stepT hF ho (fun K hK => ?_); clear ho; rw [Oper.semAt_plain Fc _ _ (by intro c h; cases h)]; simp only [drr4_o35]; go_simp)
 exact hK _ _ ⟨_, act_putD x hdef _ _, rfl, Below.refl _ _⟩
theorem drrF_s36 (H : drrF_H Fc gD oD n cD i jp d P PQ df w0 x w) (p29 : drrF_val gD oD n cD i jp d P PQ 29 (x.tmps.getD 39 undef) w) (p35 : drrF_val gD oD n cD i jp d P PQ 35 (x.tmps.getD 45 undef) w) : Stp Fc nC Tryz.prog drr4_ops Q 36 46 (drrF_val gD oD n cD i jp d P PQ 36) x w := by
 (obtain ⟨hF, hi, hn, d0, hp, hr, d1, h2, d3, h3, h4, hB, hdef, u0, u3⟩ := H; have ho : drr4_ops[36]? = some drr4_o36 := rfl; simp only [Array.getD_eq_getD_getElem?] at u0 u3)
 have q29 : Array.getD (Act.tmps x) 39 undef = .bool false := p29
 have q35 : Array.getD (Act.tmps x) 45 undef = .bool true := p35
 simp only [Array.getD_eq_getD_getElem?] at q29 q35
 (refine wpOpIn_plain ho rfl (oper_inK hF.fn (fun K hK => ?_)); clear ho; rw [Oper.semAt_plain Fc _ _ (by intro c h; cases h)]; simp only [drr4_o36]; go_simp)
 exact hK _ _ ⟨_, act_putD x hdef _ _, rfl, Below.refl _ _⟩
theorem drrF_s37 (H : drrF_H Fc gD oD n cD i jp d P PQ df w0 x w) (p36 : drrF_val gD oD n cD i jp d P PQ 36 (x.tmps.getD 46 undef) w) : Stp Fc nC Tryz.prog drr4_ops Q 37 47 (drrF_val gD oD n cD i jp d P PQ 37) x w := by
 (obtain ⟨hF, hi, hn, d0, hp, hr, d1, h2, d3, h3, h4, hB, hdef, u0, u3⟩ := H; have ho : drr4_ops[37]? = some drr4_o37 := rfl; simp only [Array.getD_eq_getD_getElem?] at u0 u3)
 have q36 : Array.getD (Act.tmps x) 46 undef = .bool true := p36
 simp only [Array.getD_eq_getD_getElem?] at q36
 (refine wpOpIn_plain ho rfl (oper_inK hF.fn (fun K hK => ?_)); clear ho; rw [Oper.semAt_plain Fc _ _ (by intro c h; cases h)]; simp only [drr4_o37]; go_simp)
 exact hK _ _ ⟨_, act_putD x hdef _ _, rfl, Below.refl _ _⟩
theorem drrF_s38 (H : drrF_H Fc gD oD n cD i jp d P PQ df w0 x w) (p37 : drrF_val gD oD n cD i jp d P PQ 37 (x.tmps.getD 47 undef) w) : Stp Fc nC Tryz.prog drr4_ops Q 38 48 (drrF_val gD oD n cD i jp d P PQ 38) x w := by
 (obtain ⟨hF, hi, hn, d0, hp, hr, d1, h2, d3, h3, h4, hB, hdef, u0, u3⟩ := H; have ho : drr4_ops[38]? = some drr4_o38 := rfl; simp only [Array.getD_eq_getD_getElem?] at u0 u3)
 have q37 : Array.getD (Act.tmps x) 47 undef = .bool true := p37
 simp only [Array.getD_eq_getD_getElem?] at q37
 (have e37 : (drr4_ops[37]?.bind fun x => x.dst) = some 47 := rfl; have g37 := get_someT q37 (fun h => by cases h))
 (refine wpOpIn_stepT hF ho (fun K hK => ?_); clear ho; rw [Oper.semAt_plain Fc _ _ (by intro c h; cases h)]; simp only [drr4_o38]; go_simp)
 exact hK _ _ ⟨_, act_putD x hdef _ _, rfl, Below.refl _ _⟩
theorem drrF_s39 (H : drrF_H Fc gD oD n cD i jp d P PQ df w0 x w) (p38 : drrF_val gD oD n cD i jp d P PQ 38 (x.tmps.getD 48 undef) w) (p37 : drrF_val gD oD n cD i jp d P PQ 37 (x.tmps.getD 47 undef) w) : Stp Fc nC Tryz.prog drr4_ops Q 39 49 (drrF_val gD oD n cD i jp d P PQ 39) x w := by
 (obtain ⟨hF, hi, hn, d0, hp, hr, d1, h2, d3, h3, h4, hB, hdef, u0, u3⟩ := H; have ho : drr4_ops[39]? = some drr4_o39 := rfl; simp only [Array.getD_eq_getD_getElem?] at u0 u3)
 have q38 : Array.getD (Act.tmps x) 48 undef = undef := p38
 have q37 : Array.getD (Act.tmps x) 47 undef = .bool true := p37
 simp only [Array.getD_eq_getD_getElem?] at q38 q37
 (have e37 : (drr4_ops[37]?.bind fun x => x.dst) = some 47 := rfl; have g37 := get_someT q37 (fun h => by cases h))
 (refine wpOpIn_stepT hF ho (fun K hK => ?_); clear ho; rw [Oper.semAt_plain Fc _ _ (by intro c h; cases h)]; simp only [drr4_o39]; go_simp)
 exact hK _ _ ⟨_, act_putD x hdef _ _, rfl, Below.refl _ _⟩
theorem drrF_s40 (H : drrF_H Fc gD oD n cD i jp d P PQ df w0 x w) (p39 : drrF_val gD oD n cD i jp d P PQ 39 (x.tmps.getD 49 undef) w) (p37 : drrF_val gD oD n cD i jp d P PQ 37 (x.tmps.getD 47 undef) w) : Stp Fc nC Tryz.prog drr4_ops Q 40 50 (drrF_val gD oD n cD i jp d P PQ 40) x w := by
 (obtain ⟨hF, hi, hn, d0, hp, hr, d1, h2, d3, h3, h4, hB, hdef, u0, u3⟩ := H; have ho : drr4_ops[40]? = some drr4_o40 := rfl; simp only [Array.getD_eq_getD_getElem?] at u0 u3)
 have q39 : Array.getD (Act.tmps x) 49 undef = undef := p39
 have q37 : Array.getD (Act.tmps x) 47 undef = .bool true := p37
 simp only [Array.getD_eq_getD_getElem?] at q39 q37
 (have e37 : (drr4_ops[37]?.bind fun x => x.dst) = some 47 := rfl; have g37 := get_someT q37 (fun h => by cases h))
 (refine wpOpIn_stepT hF ho (fun K hK => ?_); clear ho; rw [Oper.semAt_plain Fc _ _ (by intro c h; cases h)]; simp only [drr4_o40]; go_simp)
 exact hK _ _ ⟨_, act_putD x hdef _ _, rfl, Below.refl _ _⟩
theorem drrF_s41 (H : drrF_H Fc gD oD n cD i jp d P PQ df w0 x w) (p40 : drrF_val gD oD n cD i jp d P PQ 40 (x.tmps.getD 50 undef) w) : Stp Fc nC Tryz.prog drr4_ops Q 41 51 (drrF_val gD oD n cD i jp d P PQ 41) x w := by
 (obtain ⟨hF, hi, hn, d0, hp, hr, d1, h2, d3, h3, h4, hB, hdef, u0, u3⟩ := H; have ho : drr4_ops[41]? = some drr4_o41 := rfl; simp only [Array.getD_eq_getD_getElem?] at u0 u3)
 have q40 : Array.getD (Act.tmps x) 50 undef = undef := p40
 simp only [Array.getD_eq_getD_getElem?] at q40
 have e40 : (drr4_ops[40]?.bind fun x => x.dst) = some 50 := rfl
 exact op_skipped hF ho rfl e40 q40 ⟨_, rfl, rfl, Below.refl _ _⟩
theorem drrF_s42 (H : drrF_H Fc gD oD n cD i jp d P PQ df w0 x w) (p40 : drrF_val gD oD n cD i jp d P PQ 40 (x.tmps.getD 50 undef) w) : Stp Fc nC Tryz.prog drr4_ops Q 42 52 (drrF_val gD oD n cD i jp d P PQ 42) x w := by
 (obtain ⟨hF, hi, hn, d0, hp, hr, d1, h2, d3, h3, h4, hB, hdef, u0, u3⟩ := H; have ho : drr4_ops[42]? = some drr4_o42 := rfl; simp only [Array.getD_eq_getD_getElem?] at u0 u3)
 have q40 : Array.getD (Act.tmps x) 50 undef = undef := p40
 simp only [Array.getD_eq_getD_getElem?] at q40
 have e40 : (drr4_ops[40]?.bind fun x => x.dst) = some 50 := rfl
 exact op_skipped hF ho rfl e40 q40 ⟨_, rfl, rfl, Below.refl _ _⟩
theorem drrF_s43 (H : drrF_H Fc gD oD n cD i jp d P PQ df w0 x w) (p42 : drrF_val gD oD n cD i jp d P PQ 42 (x.tmps.getD 52 undef) w) (p40 : drrF_val gD oD n cD i jp d P PQ 40 (x.tmps.getD 50 undef) w) : Stp Fc nC Tryz.prog drr4_ops Q 43 53 (drrF_val gD oD n cD i jp d P PQ 43) x w := by
 (obtain ⟨hF, hi, hn, d0, hp, hr, d1, h2, d3, h3, h4, hB, hdef, u0, u3⟩ := H; have ho : drr4_ops[43]? = some drr4_o43 := rfl; simp only [Array.getD_eq_getD_getElem?] at u0 u3)
 have q42 : Array.getD (Act.tmps x) 52 undef = undef := p42
 have q40 : Array.getD (Act.tmps x) 50 undef = undef := p40
 simp only [Array.getD_eq_getD_getElem?] at q42 q40
 have e40 : (drr4_ops[40]?.bind fun x => x.dst) = some 50 := rfl
 exact op_skipped hF ho rfl e40 q40 ⟨_, rfl, rfl, Below.refl _ _⟩
theorem drrF_s44 (H : drrF_H Fc gD oD n cD i jp d P PQ df w0 x w) (p41 : drrF_val gD oD n cD i jp d P PQ 41 (x.tmps.getD 51 undef) w) (p43 : drrF_val gD oD n cD i jp d P PQ 43 (x.tmps.getD 53 undef) w) (p40 : drrF_val gD oD n cD i jp d P PQ 40 (x.tmps.getD 50 undef) w) : Stp Fc nC Tryz.prog drr4_ops Q 44 54 (drrF_val gD oD n cD i jp d P PQ 44) x w := by
 (obtain ⟨hF, hi, hn, d0, hp, hr, d1, h2, d3, h3, h4, hB, hdef, u0, u3⟩ := H; have ho : drr4_ops[44]? = some drr4_o44 := rfl; simp only [Array.getD_eq_getD_getElem?] at u0 u3)
 have q41 : Array.getD (Act.tmps x) 51 undef = undef := p41
 have q43 : Array.getD (Act.tmps x) 53 undef = undef := p43
 have q40 : Array.getD (Act.tmps x) 50 undef = undef := p40
 simp only [Array.getD_eq_getD_getElem?] at q41 q43 q40
 have e40 : (drr4_ops[40]?.bind fun x => x.dst) = some 50 := rfl
 exact op_skipped hF ho rfl e40 q40 ⟨_, rfl, rfl, Below.refl _ _⟩
theorem drrF_s45 (H : drrF_H Fc gD oD n cD i jp d P PQ df w0 x w) (p44 : drrF_val gD oD n cD i jp d P PQ 44 (x.tmps.getD 54 undef) w) (p40 : drrF_val gD oD n cD i jp d P PQ 40 (x.tmps.getD 50 undef) w) : Stp Fc nC Tryz.prog drr4_ops Q 45 55 (drrF_val gD oD n cD i jp d P PQ 45) x w := by
 (obtain ⟨hF, hi, hn, d0, hp, hr, d1, h2, d3, h3, h4, hB, hdef, u0, u3⟩ := H; have ho : drr4_ops[45]? = some drr4_o45 := rfl; simp only [Array.getD_eq_getD_getElem?] at u0 u3)
 have q44 : Array.getD (Act.tmps x) 54 undef = undef := p44
 have q40 : Array.getD (Act.tmps x) 50 undef = undef := p40
 simp only [Array.getD_eq_getD_getElem?] at q44 q40
 have e40 : (drr4_ops[40]?.bind fun x => x.dst) = some 50 := rfl
 exact op_skipped hF ho rfl e40 q40 ⟨_, rfl, rfl, Below.refl _ _⟩
theorem drrF_s46 (H : drrF_H Fc gD oD n cD i jp d P PQ df w0 x w) (p45 : drrF_val gD oD n cD i jp d P PQ 45 (x.tmps.getD 55 undef) w) (p40 : drrF_val gD oD n cD i jp d P PQ 40 (x.tmps.getD 50 undef) w) : Stp Fc nC Tryz.prog drr4_ops Q 46 56 (drrF_val gD oD n cD i jp d P PQ 46) x w := by
 (obtain ⟨hF, hi, hn, d0, hp, hr, d1, h2, d3, h3, h4, hB, hdef, u0, u3⟩ := H; have ho : drr4_ops[46]? = some drr4_o46 := rfl; simp only [Array.getD_eq_getD_getElem?] at u0 u3)
 have q45 : Array.getD (Act.tmps x) 55 undef = undef := p45
 have q40 : Array.getD (Act.tmps x) 50 undef = undef := p40
 simp only [Array.getD_eq_getD_getElem?] at q45 q40
 have e40 : (drr4_ops[40]?.bind fun x => x.dst) = some 50 := rfl
 exact op_skipped hF ho rfl e40 q40 ⟨_, rfl, rfl, Below.refl _ _⟩
theorem drrF_s47 (H : drrF_H Fc gD oD n cD i jp d P PQ df w0 x w) (p40 : drrF_val gD oD n cD i jp d P PQ 40 (x.tmps.getD 50 undef) w) : Stp Fc nC Tryz.prog drr4_ops Q 47 57 (drrF_val gD oD n cD i jp d P PQ 47) x w := by
 (obtain ⟨hF, hi, hn, d0, hp, hr, d1, h2, d3, h3, h4, hB, hdef, u0, u3⟩ := H; have ho : drr4_ops[47]? = some drr4_o47 := rfl; simp only [Array.getD_eq_getD_getElem?] at u0 u3)
 have q40 : Array.getD (Act.tmps x) 50 undef = undef := p40
 simp only [Array.getD_eq_getD_getElem?] at q40
 have e40 : (drr4_ops[40]?.bind fun x => x.dst) = some 50 := rfl
 exact op_skipped hF ho rfl e40 q40 ⟨_, rfl, rfl, Below.refl _ _⟩
theorem drrF_s48 (H : drrF_H Fc gD oD n cD i jp d P PQ df w0 x w) (p40 : drrF_val gD oD n cD i jp d P PQ 40 (x.tmps.getD 50 undef) w) : Stp Fc nC Tryz.prog drr4_ops Q 48 58 (drrF_val gD oD n cD i jp d P PQ 48) x w := by
 (obtain ⟨hF, hi, hn, d0, hp, hr, d1, h2, d3, h3, h4, hB, hdef, u0, u3⟩ := H; have ho : drr4_ops[48]? = some drr4_o48 := rfl; simp only [Array.getD_eq_getD_getElem?] at u0 u3)
 have q40 : Array.getD (Act.tmps x) 50 undef = undef := p40
 simp only [Array.getD_eq_getD_getElem?] at q40
 have e40 : (drr4_ops[40]?.bind fun x => x.dst) = some 50 := rfl
 exact op_skipped hF ho rfl e40 q40 ⟨_, rfl, rfl, Below.refl _ _⟩
theorem drrF_s49 (H : drrF_H Fc gD oD n cD i jp d P PQ df w0 x w) (p47 : drrF_val gD oD n cD i jp d P PQ 47 (x.tmps.getD 57 undef) w) (p48 : drrF_val gD oD n cD i jp d P PQ 48 (x.tmps.getD 58 undef) w) (p40 : drrF_val gD oD n cD i jp d P PQ 40 (x.tmps.getD 50 undef) w) : Stp Fc nC Tryz.prog drr4_ops Q 49 59 (drrF_val gD oD n cD i jp d P PQ 49) x w := by
 (obtain ⟨hF, hi, hn, d0, hp, hr, d1, h2, d3, h3, h4, hB, hdef, u0, u3⟩ := H; have ho : drr4_ops[49]? = some drr4_o49 := rfl; simp only [Array.getD_eq_getD_getElem?] at u0 u3)
 have q47 : Array.getD (Act.tmps x) 57 undef = undef := p47
 have q48 : Array.getD (Act.tmps x) 58 undef = undef := p48
 have q40 : Array.getD (Act.tmps x) 50 undef = undef := p40
 simp only [Array.getD_eq_getD_getElem?] at q47 q48 q40
 have e40 : (drr4_ops[40]?.bind fun x => x.dst) = some 50 := rfl
 exact op_skipped hF ho rfl e40 q40 ⟨_, rfl, rfl, Below.refl _ _⟩
theorem drrF_s50 (H : drrF_H Fc gD oD n cD i jp d P PQ df w0 x w) (p49 : drrF_val gD oD n cD i jp d P PQ 49 (x.tmps.getD 59 undef) w) (p40 : drrF_val gD oD n cD i jp d P PQ 40 (x.tmps.getD 50 undef) w) : Stp Fc nC Tryz.prog drr4_ops Q 50 60 (drrF_val gD oD n cD i jp d P PQ 50) x w := by
 (obtain ⟨hF, hi, hn, d0, hp, hr, d1, h2, d3, h3, h4, hB, hdef, u0, u3⟩ := H; have ho : drr4_ops[50]? = some drr4_o50 := rfl; simp only [Array.getD_eq_getD_getElem?] at u0 u3)
 have q49 : Array.getD (Act.tmps x) 59 undef = undef := p49
 have q40 : Array.getD (Act.tmps x) 50 undef = undef := p40
 simp only [Array.getD_eq_getD_getElem?] at q49 q40
 have e40 : (drr4_ops[40]?.bind fun x => x.dst) = some 50 := rfl
 exact op_skipped hF ho rfl e40 q40 ⟨_, rfl, rfl, Below.refl _ _⟩
theorem drrF_s51 (H : drrF_H Fc gD oD n cD i jp d P PQ df w0 x w) (p50 : drrF_val gD oD n cD i jp d P PQ 50 (x.tmps.getD 60 undef) w) (p40 : drrF_val gD oD n cD i jp d P PQ 40 (x.tmps.getD 50 undef) w) : Stp Fc nC Tryz.prog drr4_ops Q 51 61 (drrF_val gD oD n cD i jp d P PQ 51) x w := by
 (obtain ⟨hF, hi, hn, d0, hp, hr, d1, h2, d3, h3, h4, hB, hdef, u0, u3⟩ := H; have ho : drr4_ops[51]? = some drr4_o51 := rfl; simp only [Array.getD_eq_getD_getElem?] at u0 u3)
 have q50 : Array.getD (Act.tmps x) 60 undef = undef := p50
 have q40 : Array.getD (Act.tmps x) 50 undef = undef := p40
 simp only [Array.getD_eq_getD_getElem?] at q50 q40
 have e40 : (drr4_ops[40]?.bind fun x => x.dst) = some 50 := rfl
 exact op_skipped hF ho rfl e40 q40 ⟨_, rfl, rfl, Below.refl _ _⟩
theorem drrF_s52 (H : drrF_H Fc gD oD n cD i jp d P PQ df w0 x w) (p46 : drrF_val gD oD n cD i jp d P PQ 46 (x.tmps.getD 56 undef) w) (p51 : drrF_val gD oD n cD i jp d P PQ 51 (x.tmps.getD 61 undef) w) (p40 : drrF_val gD oD n cD i jp d P PQ 40 (x.tmps.getD 50 undef) w) : Stp Fc nC Tryz.prog drr4_ops Q 52 62 (drrF_val gD oD n cD i jp d P PQ 52) x w := by
 (obtain ⟨hF, hi, hn, d0, hp, hr, d1, h2, d3, h3, h4, hB, hdef, u0, u3⟩ := H; have ho : drr4_ops[52]? = some drr4_o52 := rfl; simp only [Array.getD_eq_getD_getElem?] at u0 u3)
 have q46 : Array.getD (Act.tmps x) 56 undef = undef := p46
 have q51 : Array.getD (Act.tmps x) 61 undef = undef := p51
 have q40 : Array.getD (Act.tmps x) 50 undef = undef := p40
 simp only [Array.getD_eq_getD_getElem?] at q46 q51 q40
 have e40 : (drr4_ops[40]?.bind fun x => x.dst) = some 50 := rfl
 exact op_skipped hF ho rfl e40 q40 ⟨_, rfl, rfl, Below.refl _ _⟩
theorem drrF_s53 (H : drrF_H Fc gD oD n cD i jp d P PQ df w0 x w) (p40 : drrF_val gD oD n cD i jp d P PQ 40 (x.tmps.getD 50 undef) w) (p52 : drrF_val gD oD n cD i jp d P PQ 52 (x.tmps.getD 62 undef) w) (p37 : drrF_val gD oD n cD i jp d P PQ 37 (x.tmps.getD 47 undef) w) : Stp Fc nC Tryz.prog drr4_ops Q 53 63 (drrF_val gD oD n cD i jp d P PQ 53) x w := by
 (obtain ⟨hF, hi, hn, d0, hp, hr, d1, h2, d3, h3, h4, hB, hdef, u0, u3⟩ := H; have ho : drr4_ops[53]? = some drr4_o53 := rfl; simp only [Array.getD_eq_getD_getElem?] at u0 u3)
 have q40 : Array.getD (Act.tmps x) 50 undef = undef := p40
 have q52 : Array.getD (Act.tmps x) 62 undef = undef := p52
 have q37 : Array.getD (Act.tmps x) 47 undef = .bool true := p37
 simp only [Array.getD_eq_getD_getElem?] at q40 q52 q37
 (have e37 : (drr4_ops[37]?.bind fun x => x.dst) = some 47 := rfl; have g37 := get_someT q37 (fun h => by cases h))
 (refine wpOpIn_stepT hF ho (fun K hK => ?_); clear ho; rw [Oper.semAt_plain Fc _ _ (by intro c h; cases h)]; simp only [drr4_o53]; go_simp)
 exact hK _ _ ⟨_, act_putD x hdef _ _, rfl, Below.refl _ _⟩
theorem drrF_s54 (H : drrF_H Fc gD oD n cD i jp d P PQ df w0 x w) (p37 : drrF_val gD oD n cD i jp d P PQ 37 (x.tmps.getD 47 undef) w) (p53 : drrF_val gD oD n cD i jp d P PQ 53 (x.tmps.getD 63 undef) w) : Stp Fc nC Tryz.prog drr4_ops Q 54 64 (drrF_val gD oD n cD i jp d P PQ 54) x w := by
 (obtain ⟨hF, hi, hn, d0, hp, hr, d1, h2, d3, h3, h4, hB, hdef, u0, u3⟩ := H; have ho : drr4_ops[54]? = some drr4_o54 := rfl; simp only [Array.getD_eq_getD_getElem?] at u0 u3)
 have q37 : Array.getD (Act.tmps x) 47 undef = .bool true := p37
 have q53 : Array.getD (Act.tmps x) 63 undef = undef := p53
 simp only [Array.getD_eq_getD_getElem?] at q37 q53
 (refine wpOpIn_plain ho rfl (oper_inK hF.fn (fun K hK => ?_)); clear ho; rw [Oper.semAt_plain Fc _ _ (by intro c h; cases h)]; simp only [drr4_o54]; go_simp)
 exact hK _ _ ⟨_, act_putD x hdef _ _, rfl, Below.refl _ _⟩
end
section
theorem drrF {Fc : Fence} (hF : Wide Fc) {nC : Nat} (gD oD n cD i jp : Nat) (d : DT) (P PQ : List UInt8) (Q : Exit → Act → World → Prop) (t0 : Array Value) (df : List Deferred) (w0 : World) (ht : t0.size = 68)
  (hs0 : t0.getD 0 undef = .slice (some ⟨gD, oD, none⟩) n cD) (hs3 : t0.getD 3 undef = .int .i64 (i : Nat))
  (hi : i < n) (hn : n ≤ 140737488351232) (d0 : w0.cell? ⟨gD, oD + i * 4, none⟩ = some (by8 P)) (hp : P.length ≤ 1000000) (hr : rightP P = true) (d1 : w0.cell? ⟨gD, oD + i * 4 + 1, none⟩ = some (by8 d.L)) (h2 : (!(d.L == ofL P)) = false) (d3 : w0.cell? ⟨gD, oD + i * 4 + 3, none⟩ = some (.int .i64 d.Z)) (h3 : decide (d.Z < 0) = false) (h4 : decide ((1048576 : Int) < d.Z) = true)
  (hQ : ∀ (vs : Nat → Value) (w : World), Below w0.heap.size w0 w → (vs 64 = .bool true) → Q .normal { tmps := [10, 11, 12, 13, 14, 15, 16, 17, 18, 19, 20, 21, 22, 23, 24, 25, 26, 27, 28, 29, 30, 31, 32, 33, 34, 35, 36, 37, 38, 39, 40, 41, 42, 43, 44, 45, 46, 47, 48, 49, 50, 51, 52, 53, 54, 55, 56, 57, 58, 59, 60, 61, 62, 63, 64].foldl (fun y d => y.setIfInBounds d (vs d)) t0, defers := df } w) :
  (Code.region 4 drr4_ops true).wpIn Fc nC Tryz.prog Q { tmps := t0, defers := df } w0 := by
 refine wpIn_region_tail 55 (by decide) (by kernel_rfl) (fun a b => Below a.heap.size a b) (drrF_val gD oD n cD i jp d P PQ) t0 df w0 (by rw [ht]; kernel_rfl) (by kernel_rfl) (by kernel_rfl) (by kernel_rfl) ((Below.refl _ _).drew) (fun _ _ _ h k => h.trans (k.mono h.size)) (drrF_below gD oD n cD i jp d P PQ) ?_ ?_
 ·intro j o ho hj x w hB hdef hsz hs hdeps
  have hs' : ∀ s, ¬ drr4_mem s → x.tmps.getD s undef = t0.getD s undef := fun s hn => hs s (fun j hj e => hn (by rw [e]; exact drr4_slots j hj))
  have u0 := (hs' 0 (by decide)).trans hs0
  have u3 := (hs' 3 (by decide)).trans hs3
  have H : drrF_H Fc gD oD n cD i jp d P PQ df w0 x w := ⟨hF, hi, hn, d0, hp, hr, d1, h2, d3, h3, h4, hB, hdef, u0, u3⟩
  match j, ho, hj with
  | 0, ho, _ =>
    (have e : o = drr4_o0 := (Option.some.inj ho).symm; subst e)
    exact drrF_s0 H 
  | 1, ho, _ =>
    (have e : o = drr4_o1 := (Option.some.inj ho).symm; subst e)
    exact drrF_s1 H 
  | 2, ho, _ =>
    (have e : o = drr4_o2 := (Option.some.inj ho).symm; subst e)
    exact drrF_s2 H (hdeps ⟨0, .data⟩ (by simp) rfl) (hdeps ⟨1, .data⟩ (by simp) rfl)
  | 3, ho, _ =>
    (have e : o = drr4_o3 := (Option.some.inj ho).symm; subst e)
    exact drrF_s3 H (hdeps ⟨2, .data⟩ (by simp) rfl)
  | 4, ho, _ =>
    (have e : o = drr4_o4 := (Option.some.inj ho).symm; subst e)
    exact drrF_s4 H (hdeps ⟨3, .data⟩ (by simp) rfl)
  | 5, ho, _ =>
    (have e : o = drr4_o5 := (Option.some.inj ho).symm; subst e)
    exact drrF_s5 H (hdeps ⟨4, .data⟩ (by simp) rfl)
  | 6, ho, _ =>
    (have e : o = drr4_o6 := (Option.some.inj ho).symm; subst e)
    exact drrF_s6 H (hdeps ⟨5, .data⟩ (by simp) rfl)
  | 7, ho, _ =>
    (have e : o = drr4_o7 := (Option.some.inj ho).symm; subst e)
    exact drrF_s7 H (hdeps ⟨6, .data⟩ (by simp) rfl)
  | 8, ho, _ =>
    (have e : o = drr4_o8 := (Option.some.inj ho).symm; subst e)
    exact drrF_s8 H (hdeps ⟨7, .guard⟩ (by simp) rfl)
  | 9, ho, _ =>
    (have e : o = drr4_o9 := (Option.some.inj ho).symm; subst e)
    exact drrF_s9 H (hdeps ⟨7, .guard⟩ (by simp) rfl)
  | 10, ho, _ =>
    (have e : o = drr4_o10 := (Option.some.inj ho).symm; subst e)
    exact drrF_s10 H (hdeps ⟨8, .data⟩ (by simp) rfl) (hdeps ⟨9, .data⟩ (by simp) rfl) (hdeps ⟨7, .guard⟩ (by simp) rfl)
  | 11, ho, _ =>
    (have e : o = drr4_o11 := (Option.some.inj ho).symm; subst e)
    exact drrF_s11 H (hdeps ⟨10, .data⟩ (by simp) rfl) (hdeps ⟨7, .guard⟩ (by simp) rfl)
  | 12, ho, _ =>
    (have e : o = drr4_o12 := (Option.some.inj ho).symm; subst e)
    exact drrF_s12 H (hdeps ⟨11, .data⟩ (by simp) rfl) (hdeps ⟨7, .guard⟩ (by simp) rfl)
  | 13, ho, _ =>
    (have e : o = drr4_o13 := (Option.some.inj ho).symm; subst e)
    exact drrF_s13 H (hdeps ⟨7, .guard⟩ (by simp) rfl)
  | 14, ho, _ =>
    (have e : o = drr4_o14 := (Option.some.inj ho).symm; subst e)
    exact drrF_s14 H (hdeps ⟨7, .guard⟩ (by simp) rfl)
  | 15, ho, _ =>
    (have e : o = drr4_o15 := (Option.some.inj ho).symm; subst e)
    exact drrF_s15 H (hdeps ⟨13, .data⟩ (by simp) rfl) (hdeps ⟨14, .data⟩ (by simp) rfl) (hdeps ⟨7, .guard⟩ (by simp) rfl)
  | 16, ho, _ =>
    (have e : o = drr4_o16 := (Option.some.inj ho).symm; subst e)
    exact drrF_s16 H (hdeps ⟨15, .data⟩ (by simp) rfl) (hdeps ⟨7, .guard⟩ (by simp) rfl)
  | 17, ho, _ =>
    (have e : o = drr4_o17 := (Option.some.inj ho).symm; subst e)
    exact drrF_s17 H (hdeps ⟨16, .data⟩ (by simp) rfl) (hdeps ⟨7, .guard⟩ (by simp) rfl)
  | 18, ho, _ =>
    (have e : o = drr4_o18 := (Option.some.inj ho).symm; subst e)
    exact drrF_s18 H (hdeps ⟨17, .data⟩ (by simp) rfl) (hdeps ⟨7, .guard⟩ (by simp) rfl)
  | 19, ho, _ =>
    (have e : o = drr4_o19 := (Option.some.inj ho).symm; subst e)
    exact drrF_s19 H (hdeps ⟨12, .data⟩ (by simp) rfl) (hdeps ⟨18, .data⟩ (by simp) rfl) (hdeps ⟨7, .guard⟩ (by simp) rfl)
  | 20, ho, _ =>
    (have e : o = drr4_o20 := (Option.some.inj ho).symm; subst e)
    exact drrF_s20 H (hdeps ⟨7, .data⟩ (by simp) rfl) (hdeps ⟨19, .data⟩ (by simp) rfl)
  | 21, ho, _ =>
    (have e : o = drr4_o21 := (Option.some.inj ho).symm; subst e)
    exact drrF_s21 H (hdeps ⟨20, .data⟩ (by simp) rfl)
  | 22, ho, _ =>
    (have e : o = drr4_o22 := (Option.some.inj ho).symm; subst e)
    exact drrF_s22 H (hdeps ⟨21, .guard⟩ (by simp) rfl)
  | 23, ho, _ =>
    (have e : o = drr4_o23 := (Option.some.inj ho).symm; subst e)
    exact drrF_s23 H (hdeps ⟨21, .guard⟩ (by simp) rfl)
  | 24, ho, _ =>
    (have e : o = drr4_o24 := (Option.some.inj ho).symm; subst e)
    exact drrF_s24 H (hdeps ⟨22, .data⟩ (by simp) rfl) (hdeps ⟨23, .data⟩ (by simp) rfl) (hdeps ⟨21, .guard⟩ (by simp) rfl)
  | 25, ho, _ =>
    (have e : o = drr4_o25 := (Option.some.inj ho).symm; subst e)
    exact drrF_s25 H (hdeps ⟨24, .data⟩ (by simp) rfl) (hdeps ⟨21, .guard⟩ (by simp) rfl)
  | 26, ho, _ =>
    (have e : o = drr4_o26 := (Option.some.inj ho).symm; subst e)
    exact drrF_s26 H (hdeps ⟨25, .data⟩ (by simp) rfl) (hdeps ⟨21, .guard⟩ (by simp) rfl)
  | 27, ho, _ =>
    (have e : o = drr4_o27 := (Option.some.inj ho).symm; subst e)
    exact drrF_s27 H (hdeps ⟨26, .data⟩ (by simp) rfl) (hdeps ⟨21, .guard⟩ (by simp) rfl)
  | 28, ho, _ =>
    (have e : o = drr4_o28 := (Option.some.inj ho).symm; subst e)
    exact drrF_s28 H (hdeps ⟨21, .data⟩ (by simp) rfl) (hdeps ⟨27, .data⟩ (by simp) rfl)
  | 29, ho, _ =>
    (have e : o = drr4_o29 := (Option.some.inj ho).symm; subst e)
    exact drrF_s29 H (hdeps ⟨28, .data⟩ (by simp) rfl)
  | 30, ho, _ =>
    (have e : o = drr4_o30 := (Option.some.inj ho).symm; subst e)
    exact drrF_s30 H (hdeps ⟨29, .guard⟩ (by simp) rfl)
  | 31, ho, _ =>
    (have e : o = drr4_o31 := (Option.some.inj ho).symm; subst e)
    exact drrF_s31 H (hdeps ⟨29, .guard⟩ (by simp) rfl)
  | 32, ho, _ =>
    (have e : o = drr4_o32 := (Option.some.inj ho).symm; subst e)
    exact drrF_s32 H (hdeps ⟨30, .data⟩ (by simp) rfl) (hdeps ⟨31, .data⟩ (by simp) rfl) (hdeps ⟨29, .guard⟩ (by simp) rfl)
  | 33, ho, _ =>
    (have e : o = drr4_o33 := (Option.some.inj ho).symm; subst e)
    exact drrF_s33 H (hdeps ⟨32, .data⟩ (by simp) rfl) (hdeps ⟨29, .guard⟩ (by simp) rfl)
  | 34, ho, _ =>
    (have e : o = drr4_o34 := (Option.some.inj ho).symm; subst e)
    exact drrF_s34 H (hdeps ⟨33, .data⟩ (by simp) rfl) (hdeps ⟨29, .guard⟩ (by simp) rfl)
  | 35, ho, _ =>
    (have e : o = drr4_o35 := (Option.some.inj ho).symm; subst e)
    exact drrF_s35 H (hdeps ⟨34, .data⟩ (by simp) rfl) (hdeps ⟨29, .guard⟩ (by simp) rfl)
  | 36, ho, _ =>
    (have e : o = drr4_o36 := (Option.some.inj ho).symm; subst e)
    exact drrF_s36 H (hdeps ⟨29, .data⟩ (by simp) rfl) (hdeps ⟨35, .data⟩ (by simp) rfl)
  | 37, ho, _ =>
    (have e : o = drr4_o37 := (Option.some.inj ho).symm; subst e)
    exact drrF_s37 H (hdeps ⟨36, .data⟩ (by simp) rfl)
  | 38, ho, _ =>
    (have e : o = drr4_o38 := (Option.some.inj ho).symm; subst e)
    exact drrF_s38 H (hdeps ⟨37, .guard⟩ (by simp) rfl)
  | 39, ho, _ =>
    (have e : o = drr4_o39 := (Option.some.inj ho).symm; subst e)
    exact drrF_s39 H (hdeps ⟨38, .data⟩ (by simp) rfl) (hdeps ⟨37, .guard⟩ (by simp) rfl)
  | 40, ho, _ =>
    (have e : o = drr4_o40 := (Option.some.inj ho).symm; subst e)
    exact drrF_s40 H (hdeps ⟨39, .data⟩ (by simp) rfl) (hdeps ⟨37, .guard⟩ (by simp) rfl)
  | 41, ho, _ =>
    (have e : o = drr4_o41 := (Option.some.inj ho).symm; subst e)
    exact drrF_s41 H (hdeps ⟨40, .guard⟩ (by simp) rfl)
  | 42, ho, _ =>
    (have e : o = drr4_o42 := (Option.some.inj ho).symm; subst e)
    exact drrF_s42 H (hdeps ⟨40, .guard⟩ (by simp) rfl)
  | 43, ho, _ =>
    (have e : o = drr4_o43 := (Option.some.inj ho).symm; subst e)
    exact drrF_s43 H (hdeps ⟨42, .data⟩ (by simp) rfl) (hdeps ⟨40, .guard⟩ (by simp) rfl)
  | 44, ho, _ =>
    (have e : o = drr4_o44 := (Option.some.inj ho).symm; subst e)
    exact drrF_s44 H (hdeps ⟨41, .data⟩ (by simp) rfl) (hdeps ⟨43, .data⟩ (by simp) rfl) (hdeps ⟨40, .guard⟩ (by simp) rfl)
  | 45, ho, _ =>
    (have e : o = drr4_o45 := (Option.some.inj ho).symm; subst e)
    exact drrF_s45 H (hdeps ⟨44, .data⟩ (by simp) rfl) (hdeps ⟨40, .guard⟩ (by simp) rfl)
  | 46, ho, _ =>
    (have e : o = drr4_o46 := (Option.some.inj ho).symm; subst e)
    exact drrF_s46 H (hdeps ⟨45, .data⟩ (by simp) rfl) (hdeps ⟨40, .guard⟩ (by simp) rfl)
  | 47, ho, _ =>
    (have e : o = drr4_o47 := (Option.some.inj ho).symm; subst e)
    exact drrF_s47 H (hdeps ⟨40, .guard⟩ (by simp) rfl)
  | 48, ho, _ =>
    (have e : o = drr4_o48 := (Option.some.inj ho).symm; subst e)
    exact drrF_s48 H (hdeps ⟨40, .guard⟩ (by simp) rfl)
  | 49, ho, _ =>
    (have e : o = drr4_o49 := (Option.some.inj ho).symm; subst e)
    exact drrF_s49 H (hdeps ⟨47, .data⟩ (by simp) rfl) (hdeps ⟨48, .data⟩ (by simp) rfl) (hdeps ⟨40, .guard⟩ (by simp) rfl)
  | 50, ho, _ =>
    (have e : o = drr4_o50 := (Option.some.inj ho).symm; subst e)
    exact drrF_s50 H (hdeps ⟨49, .data⟩ (by simp) rfl) (hdeps ⟨40, .guard⟩ (by simp) rfl)
  | 51, ho, _ =>
    (have e : o = drr4_o51 := (Option.some.inj ho).symm; subst e)
    exact drrF_s51 H (hdeps ⟨50, .data⟩ (by simp) rfl) (hdeps ⟨40, .guard⟩ (by simp) rfl)
  | 52, ho, _ =>
    (have e : o = drr4_o52 := (Option.some.inj ho).symm; subst e)
    exact drrF_s52 H (hdeps ⟨46, .data⟩ (by simp) rfl) (hdeps ⟨51, .data⟩ (by simp) rfl) (hdeps ⟨40, .guard⟩ (by simp) rfl)
  | 53, ho, _ =>
    (have e : o = drr4_o53 := (Option.some.inj ho).symm; subst e)
    exact drrF_s53 H (hdeps ⟨40, .data⟩ (by simp) rfl) (hdeps ⟨52, .data⟩ (by simp) rfl) (hdeps ⟨37, .guard⟩ (by simp) rfl)
  | 54, ho, _ =>
    (have e : o = drr4_o54 := (Option.some.inj ho).symm; subst e)
    exact drrF_s54 H (hdeps ⟨37, .data⟩ (by simp) rfl) (hdeps ⟨53, .data⟩ (by simp) rfl)
  | k + 55, _, hj => omega
 ·intro x w hB hdef hsz hs hv
  have hx := frame_sets x.tmps t0 hsz [10, 11, 12, 13, 14, 15, 16, 17, 18, 19, 20, 21, 22, 23, 24, 25, 26, 27, 28, 29, 30, 31, 32, 33, 34, 35, 36, 37, 38, 39, 40, 41, 42, 43, 44, 45, 46, 47, 48, 49, 50, 51, 52, 53, 54, 55, 56, 57, 58, 59, 60, 61, 62, 63, 64] (fun s hn => hs s (fun j hj e => hn (by rw [e]; exact drr4_slots j hj)))
  have hq := hQ (fun d => x.tmps.getD d undef) w hB (hv 54 (by decide))
  obtain ⟨T, Df⟩ := x
  dsimp only at hx hdef hq
  subst hdef
  rw [← hx] at hq
  exact hq
end
open Go.RowKit Go.Shelf
theorem refRight_all (a : Option Addr) (n ca : Nat) (f : Nat → DT) (w : World) (hn : n ≤ 140737488351232) (hrow : RowK w a 4 n (fun i => cellD (f i))) (hP : ∀ i, i < n → (f i).P.length ≤ 1000000) :
  Calls Tryz.prog 11 #[.slice a n ca] w fun e w' => e = .returned (.bool (rightD (docsN f n))) ∧ Below w.heap.size w w' := by
 have hres := rightD_eq f n
 have HR := hide hrow
 have HH := hide (And.intro hP hres)
 clear hrow hP hres
 go_enter Tryz.func11, Tryz.ntmps11
 go_wp2_with fail
 go_loopg [3] n (fun q s3 wr => ∃ k : Nat, k + q = n ∧ s3 = .int .i64 k ∧ (riseP [] (pathsN (fun i => (f i).P) k) = true ∧ ∀ i, i < k → fitD (f i) = true) ∧ Below w.heap.size w wr)
 case atStart => exact ⟨0, by omega, rfl, ⟨rfl, fun i h => by omega⟩, Below.refl _ _⟩
 case round =>
  obtain ⟨k, hkq, rfl, hg, hB⟩ := hrel
  have HC := hide (And.intro hg hB)
  clear hg
  cases gk with
  | zero =>
    obtain rfl : k = n := by omega
    clear hB
    go_wp2_with fail
    go_ret
    refine ⟨?_, HC.out.2⟩
    rw [HH.out.2, HC.out.1.1, Bool.and_true, show ((List.range k).all fun i => fitD (f i)) = true from List.all_eq_true.2 (fun i hi => HC.out.1.2 i (List.mem_range.1 hi)), Bool.and_true]
    have : decide ((k : Int) ≤ 4000) = decide (k ≤ 4000) := by rw [decide_eq_decide]; omega
    rw [← this]
    rfl
  | succ q =>
    have hkn : k < n := by omega
    have hkz : (k : Int) < (n : Int) := by omega
    have hb := HR.out.below hB
    obtain ⟨g, o, rfl, d0, d1, d2, d3⟩ := hb.at4 hkn
    obtain ⟨r1, r2, r3, r4⟩ := rise_round (fun i => (f i).P) k n hkn HC.out.1.1
    have hbad : fitD (f k) = false → rightD (docsN f n) = false := fun h => by
     have : ((List.range n).all fun i => fitD (f i)) = false := by
      rw [List.all_eq_false]
      exact ⟨k, List.mem_range.2 hkn, by rw [h]; decide⟩
     rw [HH.out.2, this, Bool.and_false]
    have hnx : fitD (f k) = true → ∀ i, i < k + 1 → fitD (f i) = true := fun h i hi => by
     rcases Nat.lt_or_ge i k with h1 | h1
     ·exact HC.out.1.2 i h1
     ·obtain rfl : i = k := by omega
      exact h
    have HBD := hide hbad
    have HNX := hide hnx
    clear hbad hnx
    have HX0 := hide (And.intro d0 (And.intro d1 (And.intro d3 (HH.out.1 k hkn))))
    have HD := hide (And.intro r1 (And.intro r2 (And.intro r3 r4)))
    have HB := hide hb
    clear hB hb d0 d1 d2 d3 r1 r2 r3 r4
    cases hrt : rightP (f k).P with
    | false =>
      have H1 := hide hrt
      clear hrt
      go_wp2_with fail
      refine (wpIn_wide (n := 0)).1 (drrC wide_plain g o n ca k 0 (f k) (f k).P [] _ _ _ _ rfl rfl rfl hkn hn HX0.out.1 HX0.out.2.2.2 H1.out ?_)
      intro vs W5 hb5 h64
      simp only [List.foldl_cons, List.foldl_nil, List.setIfInBounds_toArray, List.set_cons_succ, List.set_cons_zero]
      rw [h64]
      have H5 := hide (HC.out.2.trans (hb5.mono HC.out.2.size))
      clear h64 hb5
      go_wp2_with fail
      go_ret
      exact ⟨by rw [HH.out.2, HD.out.1 H1.out, Bool.and_false, Bool.false_and]; rfl, H5.out⟩
    | true =>
      have H1 := hide hrt
      clear hrt
      by_cases hL : (f k).L = ofL (f k).P
      case neg =>
       have h2 : (!((f k).L == ofL (f k).P)) = true := by simp [hL]
       have H2 := hide (And.intro h2 (HBD.out (by unfold fitD; rw [decide_eq_false hL, Bool.false_and])))
       clear h2 hL
       go_wp2_with fail
       refine (wpIn_wide (n := 0)).1 (drrD wide_plain g o n ca k 0 (f k) (f k).P [] _ _ _ _ rfl rfl rfl hkn hn HX0.out.1 HX0.out.2.2.2 H1.out HX0.out.2.1 H2.out.1 ?_)
       intro vs W5 hb5 h64
       simp only [List.foldl_cons, List.foldl_nil, List.setIfInBounds_toArray, List.set_cons_succ, List.set_cons_zero]
       rw [h64]
       have H5 := hide (HC.out.2.trans (hb5.mono HC.out.2.size))
       clear h64 hb5
       go_wp2_with fail
       go_ret
       exact ⟨by rw [H2.out.2]; rfl, H5.out⟩
      have hl2 : (!((f k).L == ofL (f k).P)) = false := by rw [hL]; simp
      by_cases hZ : (f k).Z < 0
      ·have H2 := hide (And.intro hl2 (And.intro (decide_eq_true hZ) (HBD.out (by unfold fitD; rw [show decide (0 ≤ (f k).Z ∧ (f k).Z ≤ 1048576) = false from decide_eq_false (by omega), Bool.and_false]))))
       clear hl2 hL hZ
       go_wp2_with fail
       refine (wpIn_wide (n := 0)).1 (drrE wide_plain g o n ca k 0 (f k) (f k).P [] _ _ _ _ rfl rfl rfl hkn hn HX0.out.1 HX0.out.2.2.2 H1.out HX0.out.2.1 H2.out.1 HX0.out.2.2.1 H2.out.2.1 ?_)
       intro vs W5 hb5 h64
       simp only [List.foldl_cons, List.foldl_nil, List.setIfInBounds_toArray, List.set_cons_succ, List.set_cons_zero]
       rw [h64]
       have H5 := hide (HC.out.2.trans (hb5.mono HC.out.2.size))
       clear h64 hb5
       go_wp2_with fail
       go_ret
       exact ⟨by rw [H2.out.2.2]; rfl, H5.out⟩
      by_cases hZ2 : (1048576 : Int) < (f k).Z
      ·have H2 := hide (And.intro hl2 (And.intro (decide_eq_false hZ) (And.intro (decide_eq_true hZ2) (HBD.out (by unfold fitD; rw [show decide (0 ≤ (f k).Z ∧ (f k).Z ≤ 1048576) = false from decide_eq_false (by omega), Bool.and_false])))))
       clear hl2 hL hZ hZ2
       go_wp2_with fail
       refine (wpIn_wide (n := 0)).1 (drrF wide_plain g o n ca k 0 (f k) (f k).P [] _ _ _ _ rfl rfl rfl hkn hn HX0.out.1 HX0.out.2.2.2 H1.out HX0.out.2.1 H2.out.1 HX0.out.2.2.1 H2.out.2.1 H2.out.2.2.1 ?_)
       intro vs W5 hb5 h64
       simp only [List.foldl_cons, List.foldl_nil, List.setIfInBounds_toArray, List.set_cons_succ, List.set_cons_zero]
       rw [h64]
       have H5 := hide (HC.out.2.trans (hb5.mono HC.out.2.size))
       clear h64 hb5
       go_wp2_with fail
       go_ret
       exact ⟨by rw [H2.out.2.2.2]; rfl, H5.out⟩
      have hl3 : decide ((f k).Z < 0) = false := decide_eq_false hZ
      have hl4 : decide ((1048576 : Int) < (f k).Z) = false := decide_eq_false hZ2
      have hfit := HNX.out (by unfold fitD; rw [decide_eq_true hL, decide_eq_true (by omega)]; rfl)
      have HX := hide (And.intro HX0.out.1 (And.intro HX0.out.2.1 (And.intro HX0.out.2.2.1 (And.intro hl2 (And.intro hl3 (And.intro hl4 HX0.out.2.2.2))))))
      have HFT := hide hfit
      clear hl2 hl3 hl4 hL hZ hZ2 hfit
      rcases Nat.eq_zero_or_pos k with h0 | h0
      ·have h00 : decide (0 < k) = false := decide_eq_false (by omega)
       have H0 := hide (And.intro h0 h00)
       clear h0 h00
       go_wp2_with fail
       refine (wpIn_wide (n := 0)).1 (drrA wide_plain g o n ca k 0 (f k) (f k).P [] _ _ _ _ rfl rfl rfl hkn hn HX.out.1 HX.out.2.2.2.2.2.2 H1.out HX.out.2.1 HX.out.2.2.2.1 HX.out.2.2.1 HX.out.2.2.2.2.1 HX.out.2.2.2.2.2.1 H0.out.2 ?_)
       intro vs W5 hb5 h64
       simp only [List.foldl_cons, List.foldl_nil, List.setIfInBounds_toArray, List.set_cons_succ, List.set_cons_zero]
       rw [h64]
       have H5 := hide (HC.out.2.trans (hb5.mono HC.out.2.size))
       clear h64 hb5
       go_wp2_with fail
       go_roundg q
       case measure => omega
       case rel => exact ⟨k + 1, by omega, by go_num, ⟨HD.out.2.1 H1.out H0.out.1, HFT.out⟩, H5.out⟩
      ·obtain ⟨j, hj⟩ : ∃ j, k = j + 1 := ⟨k - 1, by omega⟩
       have h00 : decide (0 < k) = true := decide_eq_true h0
       have hjn : j < n := by omega
       obtain ⟨g2, o2, e2, c0, _⟩ := HB.out.at4 hjn
       cases e2
       cases hlt : ltP (f j).P (f k).P with
       | false =>
         have h6 : (!Op.bytesLess (f j).P (f k).P) = true := by rw [less_raw, hlt]; rfl
         have H0 := hide (And.intro hj (And.intro h00 (And.intro c0 (And.intro h6 hlt))))
         clear h0 h00 hj c0 h6 hlt
         go_wp2_with fail
         refine (wpIn_wide (n := 0)).1 (drrG wide_plain g o n ca k j (f k) (f k).P (f j).P _ _ _ _ rfl rfl rfl hkn hn HX.out.1 HX.out.2.2.2.2.2.2 H1.out HX.out.2.1 HX.out.2.2.2.1 HX.out.2.2.1 HX.out.2.2.2.2.1 HX.out.2.2.2.2.2.1 H0.out.2.1 (hide H0.out.1) H0.out.2.2.1 H0.out.2.2.2.1 ?_)
         intro vs W5 hb5 h64
         simp only [List.foldl_cons, List.foldl_nil, List.setIfInBounds_toArray, List.set_cons_succ, List.set_cons_zero]
         rw [h64]
         have H5 := hide (HC.out.2.trans (hb5.mono HC.out.2.size))
         clear h64 hb5
         go_wp2_with fail
         go_ret
         exact ⟨by rw [HH.out.2, HD.out.2.2.1 j H0.out.1 H0.out.2.2.2.2, Bool.and_false, Bool.false_and]; rfl, H5.out⟩
       | true =>
         have h6 : (!Op.bytesLess (f j).P (f k).P) = false := by rw [less_raw, hlt]; rfl
         have H0 := hide (And.intro hj (And.intro h00 (And.intro c0 (And.intro h6 hlt))))
         clear h0 h00 hj c0 h6 hlt
         go_wp2_with fail
         refine (wpIn_wide (n := 0)).1 (drrB wide_plain g o n ca k j (f k) (f k).P (f j).P _ _ _ _ rfl rfl rfl hkn hn HX.out.1 HX.out.2.2.2.2.2.2 H1.out HX.out.2.1 HX.out.2.2.2.1 HX.out.2.2.1 HX.out.2.2.2.2.1 HX.out.2.2.2.2.2.1 H0.out.2.1 (hide H0.out.1) H0.out.2.2.1 H0.out.2.2.2.1 ?_)
         intro vs W5 hb5 h64
         simp only [List.foldl_cons, List.foldl_nil, List.setIfInBounds_toArray, List.set_cons_succ, List.set_cons_zero]
         rw [h64]
         have H5 := hide (HC.out.2.trans (hb5.mono HC.out.2.size))
         clear h64 hb5
         go_wp2_with fail
         go_roundg q
         case measure => omega
         case rel => exact ⟨k + 1, by omega, by go_num, ⟨HD.out.2.2.2 j H0.out.1 H1.out H0.out.2.2.2.2, HFT.out⟩, H5.out⟩
end Go.Proofs.YtpmldopbjlnknaaGreat
