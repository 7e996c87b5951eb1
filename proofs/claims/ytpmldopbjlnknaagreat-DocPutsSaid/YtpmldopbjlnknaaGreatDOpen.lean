/-
  Documents (api.Doc) in a row, as they came in.
-/
import Derived.Test.YtpmldopbjlnknaaGreatDBase
set_option maxRecDepth 100000
set_option linter.unusedVariables false
set_option linter.unusedSimpArgs false
namespace Go.Proofs.YtpmldopbjlnknaaGreat
open Go.ChangeShapes Go.WideShapes Go.RowKit Go.Deep
theorem cells_doc : Tryz.prog.cellsOf 47 = 4 := by kernel_rfl
theorem cells_u32' : Tryz.prog.cellsOf 45 = 1 := by kernel_rfl
theorem cells_int' : Tryz.prog.cellsOf 3 = 1 := by kernel_rfl
section
variable {H : Type} {enc : TypeId × Value → H} {w : World} {base n : Nat} {held : Bool}
def SzD (d : DT) : Prop := d.P.length ≤ 140737488351232 ∧ d.L.length ≤ 140737488351232 ∧ d.S < 4294967296 ∧ (Lit.int .i64 d.Z).wf = true
theorem open_doc {A : Addr} {cs : List Value} {x : DataW H × List MemPlace} (hA : A.spot = none) (hc : w.cells? base A (Tryz.prog.cellsOf 47) = some cs) (ht : DataW.trod enc Tryz.prog w base (fun _ => true) held n 47 cs = some x) :
  ∃ d : DT, (w.cell? ⟨A.block, A.off, none⟩ = some (by8 d.P) ∧ w.cell? ⟨A.block, A.off + 1, none⟩ = some (by8 d.L) ∧ w.cell? ⟨A.block, A.off + 2, none⟩ = some (.int .u32 (d.S : Nat)) ∧ w.cell? ⟨A.block, A.off + 3, none⟩ = some (.int .i64 d.Z)) ∧
    ((∀ y ∈ x.1.weights Tryz.prog 47, y ≤ reachBytes) → SzD d) := by
 obtain ⟨_, hcl, hat⟩ := World.cells?_some hc
 rw [cells_doc] at hcl hat
 obtain ⟨ys, n', _, hy, _, hyl, hf⟩ := DataW.trod_struct Tryz.underlying47 ht
 match cs, hcl with
 | [x0, x1, x2, x3], _ =>
   match ys, hyl with
   | [y0, y1, y2, y3], _ =>
     have f0 : DataW.trod enc Tryz.prog w base (fun _ => true) held n' 9 (([x0, x1, x2, x3].drop 0).take (Tryz.prog.cellsOf 9)) = [y0, y1, y2, y3][0]? := hf 0 _ rfl
     rw [cells_string] at f0
     have f1 : DataW.trod enc Tryz.prog w base (fun _ => true) held n' 9 (([x0, x1, x2, x3].drop 1).take (Tryz.prog.cellsOf 9)) = [y0, y1, y2, y3][1]? := hf 1 _ rfl
     rw [cells_string] at f1
     have f2 : DataW.trod enc Tryz.prog w base (fun _ => true) held n' 45 (([x0, x1, x2, x3].drop 2).take (Tryz.prog.cellsOf 45)) = [y0, y1, y2, y3][2]? := hf 2 _ rfl
     rw [cells_u32'] at f2
     have f3 : DataW.trod enc Tryz.prog w base (fun _ => true) held n' 3 (([x0, x1, x2, x3].drop 3).take (Tryz.prog.cellsOf 3)) = [y0, y1, y2, y3][3]? := hf 3 _ rfl
     rw [cells_int'] at f3
     have a0 := hat 0 (by omega)
     have a1 := hat 1 (by omega)
     have a2 := hat 2 (by omega)
     have a3 := hat 3 (by omega)
     simp only [add_none' A hA, Nat.add_zero] at a0 a1 a2 a3
     simp only [List.getElem?_cons_zero, List.getElem?_cons_succ] at a0 a1 a2 a3
     obtain ⟨s, hK, hyK, wK⟩ := DataW.trod_string Tryz.underlying9 (show DataW.trod enc Tryz.prog w base (fun _ => true) held n' 9 [x0] = some y0 from f0)
     cases hK
     obtain ⟨t, hL, hyL, wL⟩ := DataW.trod_string Tryz.underlying9 (show DataW.trod enc Tryz.prog w base (fun _ => true) held n' 9 [x1] = some y1 from f1)
     cases hL
     obtain ⟨S, hS, hyS, wS⟩ := DataW.trod_int Tryz.underlying45 (show DataW.trod enc Tryz.prog w base (fun _ => true) held n' 45 [x2] = some y2 from f2)
     cases hS
     obtain ⟨Z, hZ, hyZ, wZ⟩ := DataW.trod_int Tryz.underlying3 (show DataW.trod enc Tryz.prog w base (fun _ => true) held n' 3 [x3] = some y3 from f3)
     cases hZ
     obtain ⟨hS0, hS1⟩ := u32_bounds wS
     obtain ⟨SS, rfl⟩ : ∃ T : Nat, S = (T : Int) := ⟨S.toNat, by omega⟩
     refine ⟨⟨s.data.toList, t.data.toList, SS, Z⟩, ⟨by rw [show by8 (⟨s.data.toList, t.data.toList, SS, Z⟩ : DT).P = .string s from by8_data s]; exact a0, by rw [show by8 (⟨s.data.toList, t.data.toList, SS, Z⟩ : DT).L = .string t from by8_data t]; exact a1, a2, a3⟩, fun hw => ?_⟩
     have hxx : x.1 = .agg [y0.1, y1.1, y2.1, y3.1] := by rw [hy]; rfl
     rw [hxx] at hw
     refine ⟨?_, ?_, by show SS < _; omega, wZ⟩
     ·have := hw s.data.toList.length (by
       simp only [DataW.weights, Tryz.underlying47]
       refine DataW.weights_mem_each (j := 0) (t := 9) (d := y0.1) rfl rfl _ ?_
       rw [hyK]
       simp [DataW.weights])
      rw [reach_is'] at this
      exact this
     ·have := hw t.data.toList.length (by
       simp only [DataW.weights, Tryz.underlying47]
       refine DataW.weights_mem_each (j := 1) (t := 9) (d := y1.1) rfl rfl _ ?_
       rw [hyL]
       simp [DataW.weights])
      rw [reach_is'] at this
      exact this
theorem open_docs {fuel : Nat} {cs : List Value} {x : DataW H × List MemPlace} (h : DataW.trod enc Tryz.prog w base (fun _ => true) held fuel 22 cs = some x) :
  ∃ (a : Option Addr) (len cap : Nat) (ds : List DT), cs = [.slice a len cap] ∧ len ≤ cap ∧ cap ≤ 9223372036854775807 ∧ (a = none → cap = 0) ∧ Docs w a ds ∧ ds.length = len ∧
    ((∀ y ∈ x.1.weights Tryz.prog 22, y ≤ reachBytes) → len ≤ 140737488351232 ∧ ∀ d ∈ ds, SzD d) := by
 have hbT : 1 ≤ Tryz.prog.bytesOf 47 := of_decide_eq_true (by kernel_rfl)
 rcases open_slice Tryz.underlying22 h with ⟨hcs, _⟩ | ⟨a, len, cap, m, n', D, Pl, hcs, _, hl, hm, hmm, hx, hi⟩
 ·exact ⟨none, 0, 0, [], hcs, by omega, by omega, fun _ => rfl, .inl rfl, rfl, fun _ => ⟨by omega, fun d hd => by cases hd⟩⟩
 ·have hmc : m = cap := by simpa using hmm
  have hm' := hm
  unfold maxLen at hm'
  have hsp : 0 < len → a.spot = none := fun h0 => by
   obtain ⟨cs', hc, _⟩ := hi 0 (by omega)
   obtain ⟨_, hcl, hat⟩ := World.cells?_some hc
   rw [cells_doc] at hcl hat
   have h1 := hat 0 (by omega)
   rw [List.getElem?_eq_getElem (by omega)] at h1
   have h2 := World.cell?_spot h1
   obtain ⟨b, o, s⟩ := a
   simpa [Addr.add] using h2
  have key : ∀ i, ∃ d : DT, i < len → (w.cell? ⟨a.block, a.off + i * 4, none⟩ = some (by8 d.P) ∧ w.cell? ⟨a.block, a.off + i * 4 + 1, none⟩ = some (by8 d.L) ∧ w.cell? ⟨a.block, a.off + i * 4 + 2, none⟩ = some (.int .u32 (d.S : Nat)) ∧ w.cell? ⟨a.block, a.off + i * 4 + 3, none⟩ = some (.int .i64 d.Z)) ∧
    ((∀ y ∈ (D i).weights Tryz.prog 47, y ≤ reachBytes) → SzD d) := fun i => by
   by_cases hlt : i < len
   ·obtain ⟨cs', hc, ht⟩ := hi i (by omega)
    have hsn := hsp (by omega)
    rw [add_none' a hsn] at hc
    obtain ⟨P, h1, h3⟩ := open_doc (A := ⟨a.block, a.off + i * Tryz.prog.cellsOf 47, none⟩) rfl hc ht
    simp only [cells_doc] at h1
    exact ⟨P, fun _ => ⟨h1, h3⟩⟩
   ·exact ⟨⟨[], [], 0, 0⟩, fun h => absurd h hlt⟩
  refine ⟨some a, len, cap, (List.range len).map (fun i => Classical.choose (key i)), hcs, hl, hm', (fun e => by cases e), ?_, by simp, fun hw => ⟨?_, fun d hd => ?_⟩⟩
  ·rcases Nat.eq_zero_or_pos len with h0 | h0
   ·exact .inl (List.eq_nil_of_length_eq_zero (by simp [h0]))
   ·have hsn := hsp h0
    obtain ⟨b, o, s⟩ := a
    simp only at hsn
    subst hsn
    refine .inr ⟨b, o, rfl, fun i d hid j u hu => ?_⟩
    rw [List.getElem?_map] at hid
    obtain ⟨i', hi', rfl⟩ := Option.map_eq_some_iff.1 hid
    obtain ⟨hlt, hii⟩ := List.getElem?_eq_some_iff.1 hi'
    simp at hlt hii
    subst hii
    obtain ⟨c0, c1, c2, c3⟩ := (Classical.choose_spec (key i) hlt).1
    match j, hu with
    | 0, hu => cases hu; simpa using c0
    | 1, hu => cases hu; simpa [Nat.add_assoc] using c1
    | 2, hu => cases hu; simpa [Nat.add_assoc] using c2
    | 3, hu => cases hu; simpa [Nat.add_assoc] using c3
    | j + 4, hu => simp [cellD] at hu
  ·have h1 := hw ((((List.range len).map D).length + ((List.range (m - len)).map fun j => D (len + j)).length) * Tryz.prog.bytesOf 47) (by
    rw [hx]
    simp only [DataW.weights, Tryz.underlying22]
    exact List.mem_cons_self)
   simp only [List.length_map, List.length_range, reach_is'] at h1
   have h2 := Nat.le_mul_of_pos_right (len + (m - len)) hbT
   omega
  ·obtain ⟨i, hir, rfl⟩ := List.mem_map.1 hd
   have hlt := List.mem_range.1 hir
   refine (Classical.choose_spec (key i) hlt).2 (fun y hm => hw y ?_)
   rw [hx]
   simp only [DataW.weights, Tryz.underlying22]
   refine List.mem_cons_of_mem _ (List.mem_append_left _ (weightsAll_mem' (List.mem_map.2 ⟨i, List.mem_range.2 hlt, rfl⟩) y hm))
end
end Go.Proofs.YtpmldopbjlnknaaGreat
