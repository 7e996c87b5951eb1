/-
  Things that came in as an argument.
-/
import Derived.Test.YtpnphijfdcimlaaThings
import Derived.OpenShut
import Derived.ChangeArms
import Derived.ChangeSlices
import Derived.SizedLaws
import Derived.Deep.Slices
import Derived.DataReads
namespace Go.Proofs.Ytpnphijfdcimlaa
open Go.ChangeShapes Go.WideShapes Go.RowKit Go.Deep

theorem cells_int : Try.prog.cellsOf 3 = 1 := by kernel_rfl
theorem cells_bytes : Try.prog.cellsOf 25 = 1 := by kernel_rfl
theorem cells_ints : Try.prog.cellsOf 29 = 1 := by kernel_rfl
theorem cells_thing : Try.prog.cellsOf 31 = 5 := by kernel_rfl
theorem bytes_u8 : Try.prog.bytesOf 5 = 1 := by kernel_rfl
theorem bytes_int : Try.prog.bytesOf 3 = 8 := by kernel_rfl
theorem reach_is : reachBytes = 140737488351232 := rfl
theorem add_none (A : Addr) (hA : A.spot = none) (j : Nat) : A.add j = ⟨A.block, A.off + j, none⟩ := by
  obtain ⟨b, o, s⟩ := A
  simp only at hA
  subst hA
  unfold Addr.add
  split
  · rename_i e; rw [e, Nat.add_zero]
  · rfl

section
variable {H : Type} {enc : TypeId × Value → H} {w : World} {base n : Nat} {held : Bool}
set_option maxRecDepth 100000 in
theorem open_thing {A : Addr} {cs : List Value} {x : DataW H × List MemPlace} (hA : A.spot = none) (hc : w.cells? base A (Try.prog.cellsOf 31) = some cs) (ht : DataW.trod enc Try.prog w base (fun _ => true) held n 31 cs = some x) :
    ∃ T : Thg, (w.cell? ⟨A.block, A.off, none⟩ = some (.int .i64 T.K) ∧ w.cell? ⟨A.block, A.off + 1, none⟩ = some (.int .i64 T.N) ∧ w.cell? ⟨A.block, A.off + 2, none⟩ = some (.int .i64 T.M) ∧
      w.cell? ⟨A.block, A.off + 3, none⟩ = some (.slice T.pB T.B.length T.cB) ∧ w.cell? ⟨A.block, A.off + 4, none⟩ = some (.slice T.pR T.lR T.cR)) ∧ T.Ok w ∧
      ((∀ y ∈ x.1.weights Try.prog 31, y ≤ reachBytes) → T.B.length ≤ 140737488351232 ∧ T.lR ≤ 140737488351232) := by
  obtain ⟨_, hcl, hat⟩ := World.cells?_some hc
  rw [cells_thing] at hcl hat
  obtain ⟨ys, n', _, hy, _, hyl, hf⟩ := DataW.trod_struct Try.underlying31 ht
  match cs, hcl with
  | [x0, x1, x2, x3, x4], _ =>
    match ys, hyl with
    | [y0, y1, y2, y3, y4], _ =>
      have f0 : DataW.trod enc Try.prog w base (fun _ => true) held n' 3 (([x0, x1, x2, x3, x4].drop 0).take (Try.prog.cellsOf 3)) = [y0, y1, y2, y3, y4][0]? := hf 0 _ rfl
      rw [cells_int] at f0
      have f1 : DataW.trod enc Try.prog w base (fun _ => true) held n' 3 (([x0, x1, x2, x3, x4].drop 1).take (Try.prog.cellsOf 3)) = [y0, y1, y2, y3, y4][1]? := hf 1 _ rfl
      rw [cells_int] at f1
      have f2 : DataW.trod enc Try.prog w base (fun _ => true) held n' 3 (([x0, x1, x2, x3, x4].drop 2).take (Try.prog.cellsOf 3)) = [y0, y1, y2, y3, y4][2]? := hf 2 _ rfl
      rw [cells_int] at f2
      have f3 : DataW.trod enc Try.prog w base (fun _ => true) held n' 25 (([x0, x1, x2, x3, x4].drop 3).take (Try.prog.cellsOf 25)) = [y0, y1, y2, y3, y4][3]? := hf 3 _ rfl
      rw [cells_bytes] at f3
      have f4 : DataW.trod enc Try.prog w base (fun _ => true) held n' 29 (([x0, x1, x2, x3, x4].drop 4).take (Try.prog.cellsOf 29)) = [y0, y1, y2, y3, y4][4]? := hf 4 _ rfl
      rw [cells_ints] at f4
      have a0 := hat 0 (by omega)
      have a1 := hat 1 (by omega)
      have a2 := hat 2 (by omega)
      have a3 := hat 3 (by omega)
      have a4 := hat 4 (by omega)
      simp only [add_none A hA, Nat.add_zero] at a0 a1 a2 a3 a4
      simp only [List.getElem?_cons_zero, List.getElem?_cons_succ] at a0 a1 a2 a3 a4
      obtain ⟨K, hK, hyK, wK⟩ := DataW.trod_int Try.underlying3 (show DataW.trod enc Try.prog w base (fun _ => true) held n' 3 [x0] = some y0 from f0)
      obtain ⟨N, hN, hyN, wN⟩ := DataW.trod_int Try.underlying3 (show DataW.trod enc Try.prog w base (fun _ => true) held n' 3 [x1] = some y1 from f1)
      obtain ⟨M, hM, hyM, wM⟩ := DataW.trod_int Try.underlying3 (show DataW.trod enc Try.prog w base (fun _ => true) held n' 3 [x2] = some y2 from f2)
      cases hK
      cases hN
      cases hM
      obtain ⟨pB, lB, cB, B, hx3, hB, hlB, hmB, hnB, hbB, hwB⟩ : ∃ (pB : Option Addr) (lB cB : Nat) (B : List Nat), x3 = .slice pB lB cB ∧ B.length = lB ∧ lB ≤ cB ∧ cB ≤ 9223372036854775807 ∧ (pB = none → cB = 0) ∧ BL w pB B ∧ (∀ (hw : ∀ y ∈ y3.1.weights Try.prog 25, y ≤ reachBytes), lB ≤ 140737488351232) := by
        rcases open_ints Try.underlying25 Try.underlying5 (by kernel_rfl) (show DataW.trod enc Try.prog w base (fun _ => true) held n' 25 [x3] = some y3 from f3) with ⟨hcs, _⟩ | ⟨a, len, cap, zs, hcs, _, hl, hm, hz, hx, hcell, hwz⟩
        · cases hcs
          exact ⟨none, 0, 0, [], rfl, rfl, by omega, by omega, fun _ => rfl, BL.mk (by simp) (.inl rfl), fun _ => by omega⟩
        · cases hcs
          have hz' : zs.length = cap := by simpa using hz
          have hrow : IsRow .u8 w (some a) len cap zs := .inr ⟨a, rfl, hl, hm, hz', hcell, hwz⟩
          obtain ⟨h1, h2, h3, z, hzb⟩ := hrow.byt
          refine ⟨some a, len, cap, tx z len, rfl, tx_length _ _, h1, h2, h3, hzb.bl, fun hw => ?_⟩
          have := hw ((zs.take len).length + (zs.drop len).length) (by
            rw [hx]
            simp only [DataW.weights, Try.underlying25, lits, List.length_map, bytes_u8, Nat.mul_one]
            exact List.mem_cons_self)
          rw [List.length_take, List.length_drop, reach_is] at this
          omega
      cases hx3
      obtain ⟨pR, lR, cR, R, hx4, hlR, hmR, hnR, hbR, hwfR, hwR⟩ : ∃ (pR : Option Addr) (lR cR : Nat) (R : Nat → Int), x4 = .slice pR lR cR ∧ lR ≤ cR ∧ cR ≤ 9223372036854775807 ∧ (pR = none → cR = 0) ∧ Ints w pR lR R ∧ (∀ i, (Lit.int .i64 (R i)).wf = true) ∧ (∀ (hw : ∀ y ∈ y4.1.weights Try.prog 29, y ≤ reachBytes), lR ≤ 140737488351232) := by
        rcases open_ints Try.underlying29 Try.underlying3 (by kernel_rfl) (show DataW.trod enc Try.prog w base (fun _ => true) held n' 29 [x4] = some y4 from f4) with ⟨hcs, _⟩ | ⟨a, len, cap, zs, hcs, _, hl, hm, hz, hx, hcell, hwz⟩
        · cases hcs
          exact ⟨none, 0, 0, fun _ => 0, rfl, by omega, by omega, fun _ => rfl, .inl rfl, fun _ => wf64 (by simp) (by simp), fun _ => by omega⟩
        · cases hcs
          have hz' : zs.length = cap := by simpa using hz
          have hm' := hm
          unfold maxLen at hm'
          refine ⟨some a, len, cap, fun i => zs.getD i 0, rfl, hl, hm', (fun e => by cases e), ?_, fun i => ?_, fun hw => ?_⟩
          · rcases Nat.eq_zero_or_pos len with h0 | h0
            · exact .inl h0
            · have hs := World.cell?_spot (hcell 0 (by omega))
              obtain ⟨b, off, spot⟩ := a
              have hsp : spot = none := by simpa [Addr.add] using hs
              subst hsp
              refine .inr ⟨b, off, rfl, fun i hi => ?_⟩
              have := hcell i (by omega)
              rwa [add_none _ rfl] at this
          · show (Lit.int .i64 (zs.getD i 0)).wf = true
            by_cases hi : i < zs.length
            · refine hwz _ ?_
              rw [List.getD_eq_getElem?_getD, List.getElem?_eq_getElem hi]
              exact List.getElem_mem hi
            · rw [List.getD_eq_getElem?_getD, List.getElem?_eq_none (by omega)]
              exact wf64 (by simp) (by simp)
          · have := hw (((zs.take len).length + (zs.drop len).length) * 8) (by
              rw [hx]
              simp only [DataW.weights, Try.underlying29, lits, List.length_map, bytes_int]
              exact List.mem_cons_self)
            rw [List.length_take, List.length_drop, reach_is] at this
            omega
      cases hx4
      refine ⟨⟨K, N, M, B, pB, cB, R, lR, pR, cR⟩, ⟨a0, a1, a2, by rw [hB]; exact a3, a4⟩, ⟨wK, wN, wM, by show B.length ≤ cB; omega, hmB, hnB, hbB, hlR, hmR, hnR, hbR, hwfR⟩, fun hw => ?_⟩
      have hxx : x.1 = .agg [y0.1, y1.1, y2.1, y3.1, y4.1] := by rw [hy]; rfl
      rw [hxx] at hw
      refine ⟨?_, ?_⟩
      · show B.length ≤ _
        rw [hB]
        refine hwB (fun y hm => hw y ?_)
        simp only [DataW.weights, Try.underlying31]
        exact DataW.weights_mem_each (j := 3) (t := 25) (d := y3.1) rfl rfl y hm
      · refine hwR (fun y hm => hw y ?_)
        simp only [DataW.weights, Try.underlying31]
        exact DataW.weights_mem_each (j := 4) (t := 29) (d := y4.1) rfl rfl y hm
theorem weightsAll_mem {e : TypeId} : ∀ {l : List (DataW H)} {d : DataW H}, d ∈ l → ∀ n ∈ d.weights Try.prog e, n ∈ DataW.weightsAll Try.prog e l
  | d' :: r, d, hd, n, hn => by
    simp only [DataW.weightsAll, List.mem_append]
    rcases List.mem_cons.1 hd with rfl | h
    · exact Or.inl hn
    · exact Or.inr (weightsAll_mem h n hn)
set_option maxRecDepth 100000 in
theorem open_things {fuel : Nat} {cs : List Value} {x : DataW H × List MemPlace} (h : DataW.trod enc Try.prog w base (fun _ => true) held fuel 22 cs = some x) :
    ∃ (a : Option Addr) (len cap : Nat) (T : Nat → Thg), cs = [.slice a len cap] ∧ len ≤ cap ∧ cap ≤ 9223372036854775807 ∧ Things w a len T ∧
      ((∀ y ∈ x.1.weights Try.prog 22, y ≤ reachBytes) → len ≤ 140737488351232 ∧ ∀ i, i < len → (T i).B.length ≤ 140737488351232 ∧ (T i).lR ≤ 140737488351232) := by
  have hbT : 1 ≤ Try.prog.bytesOf 31 := of_decide_eq_true (by kernel_rfl)
  rcases open_slice Try.underlying22 h with ⟨hcs, _⟩ | ⟨a, len, cap, m, n', D, Pl, hcs, _, hl, hm, hmm, hx, hi⟩
  · exact ⟨none, 0, 0, fun _ => ⟨0, 0, 0, [], none, 0, fun _ => 0, 0, none, 0⟩, hcs, by omega, by omega, .inl rfl, fun _ => ⟨by omega, fun i hi => by omega⟩⟩
  · have hmc : m = cap := by simpa using hmm
    have hm' := hm
    unfold maxLen at hm'
    have hsp : 0 < len → a.spot = none := fun h0 => by
      obtain ⟨cs', hc, _⟩ := hi 0 (by omega)
      obtain ⟨_, hcl, hat⟩ := World.cells?_some hc
      rw [cells_thing] at hcl hat
      have h1 := hat 0 (by omega)
      rw [List.getElem?_eq_getElem (by omega)] at h1
      have h2 := World.cell?_spot h1
      obtain ⟨b, o, s⟩ := a
      simpa [Addr.add] using h2
    have key : ∀ i, ∃ T : Thg, i < len → ((w.cell? ⟨a.block, a.off + i * 5, none⟩ = some (.int .i64 T.K) ∧ w.cell? ⟨a.block, a.off + i * 5 + 1, none⟩ = some (.int .i64 T.N) ∧ w.cell? ⟨a.block, a.off + i * 5 + 2, none⟩ = some (.int .i64 T.M) ∧
        w.cell? ⟨a.block, a.off + i * 5 + 3, none⟩ = some (.slice T.pB T.B.length T.cB) ∧ w.cell? ⟨a.block, a.off + i * 5 + 4, none⟩ = some (.slice T.pR T.lR T.cR)) ∧ T.Ok w) ∧
        ((∀ y ∈ (D i).weights Try.prog 31, y ≤ reachBytes) → T.B.length ≤ 140737488351232 ∧ T.lR ≤ 140737488351232) := fun i => by
      by_cases hlt : i < len
      · obtain ⟨cs', hc, ht⟩ := hi i (by omega)
        have hsn := hsp (by omega)
        rw [add_none a hsn] at hc
        obtain ⟨T, h1, h2, h3⟩ := open_thing (A := ⟨a.block, a.off + i * Try.prog.cellsOf 31, none⟩) rfl hc ht
        simp only [cells_thing] at h1
        exact ⟨T, fun _ => ⟨⟨h1, h2⟩, h3⟩⟩
      · exact ⟨⟨0, 0, 0, [], none, 0, fun _ => 0, 0, none, 0⟩, fun h => absurd h hlt⟩
    refine ⟨some a, len, cap, fun i => Classical.choose (key i), hcs, hl, hm', ?_, fun hw => ⟨?_, fun i hlt => ?_⟩⟩
    · rcases Nat.eq_zero_or_pos len with h0 | h0
      · exact .inl h0
      · have hsn := hsp h0
        obtain ⟨b, o, s⟩ := a
        simp only at hsn
        subst hsn
        exact .inr ⟨b, o, rfl, fun i hlt => ⟨(Classical.choose_spec (key i) hlt).1.1, (Classical.choose_spec (key i) hlt).1.2⟩⟩
    · have h1 := hw ((((List.range len).map D).length + ((List.range (m - len)).map fun j => D (len + j)).length) * Try.prog.bytesOf 31) (by
        rw [hx]
        simp only [DataW.weights, Try.underlying22]
        exact List.mem_cons_self)
      simp only [List.length_map, List.length_range, reach_is] at h1
      have h2 := Nat.le_mul_of_pos_right (len + (m - len)) hbT
      omega
    · refine (Classical.choose_spec (key i) hlt).2 (fun y hm => hw y ?_)
      rw [hx]
      simp only [DataW.weights, Try.underlying22]
      refine List.mem_cons_of_mem _ (List.mem_append_left _ (weightsAll_mem (List.mem_map.2 ⟨i, List.mem_range.2 hlt, rfl⟩) y hm))
end
end Go.Proofs.Ytpnphijfdcimlaa
