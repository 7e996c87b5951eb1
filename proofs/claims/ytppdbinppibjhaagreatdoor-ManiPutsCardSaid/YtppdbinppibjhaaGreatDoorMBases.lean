/-
  Shards (api.ShardRef) in a row, manifests, as they came in.
-/
import Derived.Test.YtppdbinppibjhaaGreatDoorMMaths
import Derived.Test.YtppdbinppibjhaaGreatDoorLentI
import Derived.Test.YtppdbinppibjhaaGreatDoorPrt
import Derived.Test.YtppdbinppibjhaaGreatDoorRegionsA
import Derived.Test.YtppdbinppibjhaaGreatDoorAppendS
import Derived.Test.YtppdbinppibjhaaGreatDoorRowP
set_option maxHeartbeats 2000000
set_option maxRecDepth 100000
set_option linter.unusedVariables false
set_option linter.unusedSimpArgs false
namespace Go.Proofs.YtppdbinppibjhaaGreatDoor
open Go.ChangeShapes Go.WideShapes Go.RowKit Go.Deep
theorem IsRow.intsL {w : World} {a : Option Addr} {len cap : Nat} {zs : List Int} (h : IsRow .i64 w a len cap zs) : ∃ D : List Int, D.length = len ∧ Ints w a len (fun i => D.getD i 0) ∧ ∀ d ∈ D, (Lit.int .i64 d).wf = true := by
 rcases h with ⟨rfl, rfl, rfl, rfl⟩ | ⟨⟨b, off, spot⟩, rfl, hl, hm, hz, hc, hw⟩
 ·exact ⟨[], rfl, .inl rfl, fun d hd => by cases hd⟩
 ·refine ⟨zs.take len, by simp; omega, ?_, fun d hd => hw d (List.mem_of_mem_take hd)⟩
  rcases Nat.eq_zero_or_pos len with h0 | h0
  ·exact .inl h0
  ·have hs := World.cell?_spot (hc 0 (by omega))
   have hsp : spot = none := by simpa [Addr.add] using hs
   subst hsp
   refine .inr ⟨b, off, rfl, fun i hi => ?_⟩
   have e : (zs.take len).getD i 0 = zs.getD i 0 := by
    rw [List.getD_eq_getElem?_getD, List.getD_eq_getElem?_getD, List.getElem?_take_of_lt hi]
   show w.cell? ⟨b, off + i, none⟩ = some (.int .i64 ((zs.take len).getD i 0))
   rw [e, ← hc i (by omega)]
   unfold Addr.add
   split
   ·rename_i e; rw [e, Nat.add_zero]
   ·rfl
theorem IsRow.addrI {w : World} {a : Option Addr} {len cap : Nat} {zs : List Int} (h : IsRow .i64 w a len cap zs) : cap = 0 ∨ ∃ b off, a = some ⟨b, off, none⟩ := by
 rcases h with ⟨rfl, rfl, rfl, rfl⟩ | ⟨⟨b, off, spot⟩, rfl, hl, hm, hz, hc, hw⟩
 ·exact .inl rfl
 ·rcases Nat.eq_zero_or_pos cap with h0 | h0
  ·exact .inl h0
  ·have hs := World.cell?_spot (hc 0 (by omega))
   have hsp : spot = none := by simpa [Addr.add] using hs
   subst hsp
   exact .inr ⟨b, off, rfl⟩
structure Shd where
 N : Int
 Z : Int
 S : Nat
 D : List Int
 pD : Option Addr
 cD : Nat
def Shd.st (P : Shd) : ST := ⟨P.N, P.Z, P.S, P.D⟩
structure Shd.Ok (w : World) (P : Shd) : Prop where
 wN : (Lit.int .i64 P.N).wf = true
 wZ : (Lit.int .i64 P.Z).wf = true
 lS : P.S < 4294967296
 lD : P.D.length ≤ P.cD
 mD : P.cD ≤ 9223372036854775807
 nD : P.pD = none → P.cD = 0
 oD : P.cD = 0 ∨ ∃ b off, P.pD = some ⟨b, off, none⟩
 wD : ∀ d ∈ P.D, (Lit.int .i64 d).wf = true
 bD : Ints w P.pD P.D.length (fun i => P.D.getD i 0)
theorem Shd.Ok.below {w w' : World} {P : Shd} (h : P.Ok w) (hb : Below w.heap.size w w') : P.Ok w' := ⟨h.wN, h.wZ, h.lS, h.lD, h.mD, h.nD, h.oD, h.wD, h.bD.below hb⟩
def Shds (w : World) (a : Option Addr) (n : Nat) (P : Nat → Shd) : Prop :=
 n = 0 ∨ ∃ b off, a = some ⟨b, off, none⟩ ∧ ∀ i, i < n → (w.cell? ⟨b, off + i * 4, none⟩ = some (.int .i64 (P i).N) ∧ w.cell? ⟨b, off + i * 4 + 1, none⟩ = some (.int .i64 (P i).Z) ∧ w.cell? ⟨b, off + i * 4 + 2, none⟩ = some (.int .u32 ((P i).S : Nat)) ∧ w.cell? ⟨b, off + i * 4 + 3, none⟩ = some (.slice (P i).pD (P i).D.length (P i).cD)) ∧ (P i).Ok w
theorem Shds.below {w w' : World} {a : Option Addr} {n : Nat} {P : Nat → Shd} (h : Shds w a n P) (hb : Below w.heap.size w w') : Shds w' a n P := by
 rcases h with h | ⟨b, off, rfl, hc⟩
 ·exact .inl h
 ·refine .inr ⟨b, off, rfl, fun i hi => ?_⟩
  obtain ⟨⟨h0, h1, h2, h3⟩, h5⟩ := hc i hi
  exact ⟨⟨cell_thru h0 hb, cell_thru h1 hb, cell_thru h2 hb, cell_thru h3 hb⟩, h5.below hb⟩
theorem Shds.cells {w : World} {a : Option Addr} {n : Nat} {P : Nat → Shd} (h : Shds w a n P) (i : Nat) (hi : i < n) : ∃ b off, a = some ⟨b, off, none⟩ ∧ (w.cell? ⟨b, off + i * 4, none⟩ = some (.int .i64 (P i).N) ∧ w.cell? ⟨b, off + i * 4 + 1, none⟩ = some (.int .i64 (P i).Z) ∧ w.cell? ⟨b, off + i * 4 + 2, none⟩ = some (.int .u32 ((P i).S : Nat)) ∧ w.cell? ⟨b, off + i * 4 + 3, none⟩ = some (.slice (P i).pD (P i).D.length (P i).cD)) ∧ (P i).Ok w := by
 rcases h with h | ⟨b, off, e, hc⟩
 ·omega
 ·exact ⟨b, off, e, hc i hi⟩
theorem cells_shard : Tryz.prog.cellsOf 54 = 4 := by kernel_rfl
theorem cells_mani : Tryz.prog.cellsOf 24 = 2 := by kernel_rfl
theorem cells_mint : Tryz.prog.cellsOf 3 = 1 := by kernel_rfl
theorem cells_mu32 : Tryz.prog.cellsOf 52 = 1 := by kernel_rfl
theorem cells_mints : Tryz.prog.cellsOf 49 = 1 := by kernel_rfl
theorem cells_mshards : Tryz.prog.cellsOf 22 = 1 := by kernel_rfl
theorem bytes_mint : Tryz.prog.bytesOf 3 = 8 := by kernel_rfl
section
variable {H : Type} {enc : TypeId × Value → H} {w : World} {base n : Nat} {held : Bool}
theorem open_shard {A : Addr} {cs : List Value} {x : DataW H × List MemPlace} (hA : A.spot = none) (hc : w.cells? base A (Tryz.prog.cellsOf 54) = some cs) (ht : DataW.trod enc Tryz.prog w base (fun _ => true) held n 54 cs = some x) :
  ∃ P : Shd, (w.cell? ⟨A.block, A.off, none⟩ = some (.int .i64 P.N) ∧ w.cell? ⟨A.block, A.off + 1, none⟩ = some (.int .i64 P.Z) ∧ w.cell? ⟨A.block, A.off + 2, none⟩ = some (.int .u32 (P.S : Nat)) ∧ w.cell? ⟨A.block, A.off + 3, none⟩ = some (.slice P.pD P.D.length P.cD)) ∧ P.Ok w ∧
    ((∀ y ∈ x.1.weights Tryz.prog 54, y ≤ reachBytes) → P.D.length ≤ 140737488351232) := by
 obtain ⟨_, hcl, hat⟩ := World.cells?_some hc
 rw [cells_shard] at hcl hat
 obtain ⟨ys, n', _, hy, _, hyl, hf⟩ := DataW.trod_struct Tryz.underlying54 ht
 match cs, hcl with
 | [x0, x1, x2, x3], _ =>
   match ys, hyl with
   | [y0, y1, y2, y3], _ =>
     have f0 : DataW.trod enc Tryz.prog w base (fun _ => true) held n' 3 (([x0, x1, x2, x3].drop 0).take (Tryz.prog.cellsOf 3)) = [y0, y1, y2, y3][0]? := hf 0 _ rfl
     rw [cells_mint] at f0
     have f1 : DataW.trod enc Tryz.prog w base (fun _ => true) held n' 3 (([x0, x1, x2, x3].drop 1).take (Tryz.prog.cellsOf 3)) = [y0, y1, y2, y3][1]? := hf 1 _ rfl
     rw [cells_mint] at f1
     have f2 : DataW.trod enc Tryz.prog w base (fun _ => true) held n' 52 (([x0, x1, x2, x3].drop 2).take (Tryz.prog.cellsOf 52)) = [y0, y1, y2, y3][2]? := hf 2 _ rfl
     rw [cells_mu32] at f2
     have f3 : DataW.trod enc Tryz.prog w base (fun _ => true) held n' 49 (([x0, x1, x2, x3].drop 3).take (Tryz.prog.cellsOf 49)) = [y0, y1, y2, y3][3]? := hf 3 _ rfl
     rw [cells_mints] at f3
     have a0 := hat 0 (by omega)
     have a1 := hat 1 (by omega)
     have a2 := hat 2 (by omega)
     have a3 := hat 3 (by omega)
     simp only [add_none' A hA, Nat.add_zero] at a0 a1 a2 a3
     simp only [List.getElem?_cons_zero, List.getElem?_cons_succ] at a0 a1 a2 a3
     obtain ⟨K, hK, hyK, wK⟩ := DataW.trod_int Tryz.underlying3 (show DataW.trod enc Tryz.prog w base (fun _ => true) held n' 3 [x0] = some y0 from f0)
     cases hK
     obtain ⟨Z, hZ, hyZ, wZ⟩ := DataW.trod_int Tryz.underlying3 (show DataW.trod enc Tryz.prog w base (fun _ => true) held n' 3 [x1] = some y1 from f1)
     cases hZ
     obtain ⟨S, hS, hyS, wS⟩ := DataW.trod_int Tryz.underlying52 (show DataW.trod enc Tryz.prog w base (fun _ => true) held n' 52 [x2] = some y2 from f2)
     cases hS
     obtain ⟨hS0, hS1⟩ := u32_bounds wS
     obtain ⟨SS, rfl⟩ : ∃ T : Nat, S = (T : Int) := ⟨S.toNat, by omega⟩
     obtain ⟨pD, lD, cD, D, hx3, hD, hlD, hmD, hnD, hoD, hwD, hbD, hzD⟩ : ∃ (pD : Option Addr) (lD cD : Nat) (D : List Int), x3 = .slice pD lD cD ∧ D.length = lD ∧ lD ≤ cD ∧ cD ≤ 9223372036854775807 ∧ (pD = none → cD = 0) ∧ (cD = 0 ∨ ∃ b off, pD = some ⟨b, off, none⟩) ∧ (∀ d ∈ D, (Lit.int .i64 d).wf = true) ∧ Ints w pD lD (fun i => D.getD i 0) ∧ (∀ (hw : ∀ y ∈ y3.1.weights Tryz.prog 49, y ≤ reachBytes), lD ≤ 140737488351232) := by
      rcases open_ints Tryz.underlying49 Tryz.underlying3 (by kernel_rfl) (show DataW.trod enc Tryz.prog w base (fun _ => true) held n' 49 [x3] = some y3 from f3) with ⟨hcs, _⟩ | ⟨a, len, cap, zs, hcs, _, hl, hm, hz, hx, hcell, hwz⟩
      ·cases hcs
       exact ⟨none, 0, 0, [], rfl, rfl, by omega, by omega, fun _ => rfl, .inl rfl, (fun d hd => by cases hd), .inl rfl, fun _ => by omega⟩
      ·cases hcs
       have hz' : zs.length = cap := by simpa using hz
       have hrow : IsRow .i64 w (some a) len cap zs := .inr ⟨a, rfl, hl, hm, hz', hcell, hwz⟩
       obtain ⟨D, hD, hi, hwd⟩ := hrow.intsL
       obtain ⟨h1, h2, h3, _⟩ := hrow.ints
       refine ⟨some a, len, cap, D, rfl, hD, h1, h2, h3, hrow.addrI, hwd, hi, fun hw => ?_⟩
       have := hw (((zs.take len).length + (zs.drop len).length) * 8) (by
        rw [hx]
        simp only [DataW.weights, Tryz.underlying49, lits, List.length_map, bytes_mint]
        exact List.mem_cons_self)
       rw [List.length_take, List.length_drop, reach_is'] at this
       omega
     cases hx3
     refine ⟨⟨K, Z, SS, D, pD, cD⟩, ⟨a0, a1, a2, by rw [hD]; exact a3⟩, ⟨wK, wZ, by show SS < _; omega, by show D.length ≤ cD; omega, hmD, hnD, hoD, hwD, by show Ints w pD D.length _; rw [hD]; exact hbD⟩, fun hw => ?_⟩
     have hxx : x.1 = .agg [y0.1, y1.1, y2.1, y3.1] := by rw [hy]; rfl
     rw [hxx] at hw
     show D.length ≤ _
     rw [hD]
     refine hzD (fun y hm => hw y ?_)
     simp only [DataW.weights, Tryz.underlying54]
     exact DataW.weights_mem_each (j := 3) (t := 49) (d := y3.1) rfl rfl y hm
theorem open_shards {fuel : Nat} {cs : List Value} {x : DataW H × List MemPlace} (h : DataW.trod enc Tryz.prog w base (fun _ => true) held fuel 22 cs = some x) :
  ∃ (a : Option Addr) (len cap : Nat) (P : Nat → Shd), cs = [.slice a len cap] ∧ len ≤ cap ∧ cap ≤ 9223372036854775807 ∧ (a = none → cap = 0) ∧ Shds w a len P ∧
    ((∀ y ∈ x.1.weights Tryz.prog 22, y ≤ reachBytes) → len ≤ 140737488351232 ∧ ∀ i, i < len → (P i).D.length ≤ 140737488351232) := by
 have hbT : 1 ≤ Tryz.prog.bytesOf 54 := of_decide_eq_true (by kernel_rfl)
 rcases open_slice Tryz.underlying22 h with ⟨hcs, _⟩ | ⟨a, len, cap, m, n', D, Pl, hcs, _, hl, hm, hmm, hx, hi⟩
 ·exact ⟨none, 0, 0, fun _ => ⟨0, 0, 0, [], none, 0⟩, hcs, by omega, by omega, fun _ => rfl, .inl rfl, fun _ => ⟨by omega, fun i hi => by omega⟩⟩
 ·have hmc : m = cap := by simpa using hmm
  have hm' := hm
  unfold maxLen at hm'
  have hsp : 0 < len → a.spot = none := fun h0 => by
   obtain ⟨cs', hc, _⟩ := hi 0 (by omega)
   obtain ⟨_, hcl, hat⟩ := World.cells?_some hc
   rw [cells_shard] at hcl hat
   have h1 := hat 0 (by omega)
   rw [List.getElem?_eq_getElem (by omega)] at h1
   have h2 := World.cell?_spot h1
   obtain ⟨b, o, s⟩ := a
   simpa [Addr.add] using h2
  have key : ∀ i, ∃ P : Shd, i < len → ((w.cell? ⟨a.block, a.off + i * 4, none⟩ = some (.int .i64 P.N) ∧ w.cell? ⟨a.block, a.off + i * 4 + 1, none⟩ = some (.int .i64 P.Z) ∧ w.cell? ⟨a.block, a.off + i * 4 + 2, none⟩ = some (.int .u32 (P.S : Nat)) ∧ w.cell? ⟨a.block, a.off + i * 4 + 3, none⟩ = some (.slice P.pD P.D.length P.cD)) ∧ P.Ok w) ∧
    ((∀ y ∈ (D i).weights Tryz.prog 54, y ≤ reachBytes) → P.D.length ≤ 140737488351232) := fun i => by
   by_cases hlt : i < len
   ·obtain ⟨cs', hc, ht⟩ := hi i (by omega)
    have hsn := hsp (by omega)
    rw [add_none' a hsn] at hc
    obtain ⟨P, h1, h2, h3⟩ := open_shard (A := ⟨a.block, a.off + i * Tryz.prog.cellsOf 54, none⟩) rfl hc ht
    simp only [cells_shard] at h1
    exact ⟨P, fun _ => ⟨⟨h1, h2⟩, h3⟩⟩
   ·exact ⟨⟨0, 0, 0, [], none, 0⟩, fun h => absurd h hlt⟩
  refine ⟨some a, len, cap, fun i => Classical.choose (key i), hcs, hl, hm', (fun e => by cases e), ?_, fun hw => ⟨?_, fun i hlt => ?_⟩⟩
  ·rcases Nat.eq_zero_or_pos len with h0 | h0
   ·exact .inl h0
   ·have hsn := hsp h0
    obtain ⟨b, o, s⟩ := a
    simp only at hsn
    subst hsn
    exact .inr ⟨b, o, rfl, fun i hlt => ⟨(Classical.choose_spec (key i) hlt).1.1, (Classical.choose_spec (key i) hlt).1.2⟩⟩
  ·have h1 := hw ((((List.range len).map D).length + ((List.range (m - len)).map fun j => D (len + j)).length) * Tryz.prog.bytesOf 54) (by
    rw [hx]
    simp only [DataW.weights, Tryz.underlying22]
    exact List.mem_cons_self)
   simp only [List.length_map, List.length_range, reach_is'] at h1
   have h2 := Nat.le_mul_of_pos_right (len + (m - len)) hbT
   omega
  ·refine (Classical.choose_spec (key i) hlt).2 (fun y hm => hw y ?_)
   rw [hx]
   simp only [DataW.weights, Tryz.underlying22]
   refine List.mem_cons_of_mem _ (List.mem_append_left _ (weightsAll_mem' (List.mem_map.2 ⟨i, List.mem_range.2 hlt, rfl⟩) y hm))
theorem open_mani {fuel : Nat} {cs : List Value} {x : DataW H × List MemPlace} (hcl : cs.length = 2) (h : DataW.trod enc Tryz.prog w base (fun _ => true) held fuel 24 cs = some x) :
  ∃ (G : Int) (a : Option Addr) (len cap : Nat) (P : Nat → Shd), cs = [.int .i64 G, .slice a len cap] ∧ (Lit.int .i64 G).wf = true ∧ len ≤ cap ∧ cap ≤ 9223372036854775807 ∧ (a = none → cap = 0) ∧ Shds w a len P ∧
    ((∀ y ∈ x.1.weights Tryz.prog 24, y ≤ reachBytes) → len ≤ 140737488351232 ∧ ∀ i, i < len → (P i).D.length ≤ 140737488351232) := by
 obtain ⟨ys, n', _, hy, _, hyl, hf⟩ := DataW.trod_struct Tryz.underlying24 h
 match cs, hcl with
 | [x0, x1], _ =>
   match ys, hyl with
   | [y0, y1], _ =>
     have f0 : DataW.trod enc Tryz.prog w base (fun _ => true) held n' 3 (([x0, x1].drop 0).take (Tryz.prog.cellsOf 3)) = [y0, y1][0]? := hf 0 _ rfl
     rw [cells_mint] at f0
     have f1 : DataW.trod enc Tryz.prog w base (fun _ => true) held n' 22 (([x0, x1].drop 1).take (Tryz.prog.cellsOf 22)) = [y0, y1][1]? := hf 1 _ rfl
     rw [cells_mshards] at f1
     obtain ⟨K, hK, hyK, wK⟩ := DataW.trod_int Tryz.underlying3 (show DataW.trod enc Tryz.prog w base (fun _ => true) held n' 3 [x0] = some y0 from f0)
     cases hK
     obtain ⟨a, len, cap, P, hcs, hl, hm, hn, hP, hw⟩ := open_shards (show DataW.trod enc Tryz.prog w base (fun _ => true) held n' 22 [x1] = some y1 from f1)
     cases hcs
     refine ⟨K, a, len, cap, P, rfl, wK, hl, hm, hn, hP, fun hq => hw (fun y hm => hq y ?_)⟩
     have hxx : x.1 = .agg [y0.1, y1.1] := by rw [hy]; rfl
     rw [hxx]
     simp only [DataW.weights, Tryz.underlying24]
     exact DataW.weights_mem_each (j := 1) (t := 22) (d := y1.1) rfl rfl y hm
end
def outZ (lo hi : Int) (z : Nat → Int) (n : Nat) : Bool := (List.range n).any fun i => decide (z i < lo) || decide (hi < z i)
def betZ (lo hi : Int) (z : Nat → Int) (n : Nat) : Bool := !outZ lo hi z n
def riseZ (z : Nat → Int) (n : Nat) : Bool := (List.range n).all fun i => decide (i = 0) || decide (z (i - 1) < z i)
theorem betZ_iff {lo hi : Int} {z : Nat → Int} {n : Nat} : betZ lo hi z n = true ↔ ∀ i, i < n → lo ≤ z i ∧ z i ≤ hi := by
 unfold betZ outZ
 rw [Bool.not_eq_true', List.any_eq_false]
 constructor
 ·intro h i hi
  have := h i (List.mem_range.2 hi)
  simp only [Bool.or_eq_true, decide_eq_true_eq, not_or] at this
  omega
 ·intro h i hi
  have := h i (List.mem_range.1 hi)
  simp only [Bool.or_eq_true, decide_eq_true_eq, not_or]
  omega
theorem riseZ_iff {z : Nat → Int} {n : Nat} : riseZ z n = true ↔ ∀ i, i < n → i = 0 ∨ z (i - 1) < z i := by
 unfold riseZ
 rw [List.all_eq_true]
 constructor
 ·intro h i hi
  have := h i (List.mem_range.2 hi)
  simpa only [Bool.or_eq_true, decide_eq_true_eq] using this
 ·intro h i hi
  have := h i (List.mem_range.1 hi)
  simpa only [Bool.or_eq_true, decide_eq_true_eq] using this
theorem upToR_iff (most : Int) : ∀ (D : List Int) (l : Int), upToR most l D = true ↔ ∀ i, i < D.length → D.getD i 0 ≤ most ∧ (match i with | 0 => l | j + 1 => D.getD j 0) < D.getD i 0
 | [], l => by simp [upToR]
 | d :: r, l => by
   simp only [upToR, Bool.and_eq_true, decide_eq_true_eq]
   rw [upToR_iff most r d]
   constructor
   ·rintro ⟨⟨h1, h2⟩, h3⟩ i hi
    cases i with
    | zero => exact ⟨by simpa using h2, by simpa using h1⟩
    | succ i =>
      have := h3 i (by simpa using hi)
      cases i with
      | zero => simpa using this
      | succ i => simpa using this
   ·intro h
    refine ⟨?_, fun i hi => ?_⟩
    ·have := h 0 (by simp)
     exact ⟨by simpa using this.2, by simpa using this.1⟩
    ·have := h (i + 1) (by simpa using hi)
     cases i with
     | zero => simpa using this
     | succ i => simpa using this
theorem upToR_split (most : Int) (D : List Int) : upToR most (-1) D = (betZ 0 most (fun i => D.getD i 0) D.length && riseZ (fun i => D.getD i 0) D.length) := by
 rw [Bool.eq_iff_iff, Bool.and_eq_true, upToR_iff, betZ_iff, riseZ_iff]
 constructor
 ·intro h
  have h2 : ∀ i, i < D.length → i = 0 ∨ D.getD (i - 1) 0 < D.getD i 0 := by
   intro i hi
   cases i with
   | zero => exact .inl rfl
   | succ i => exact .inr (h (i + 1) hi).2
  have h0 : ∀ i, i < D.length → 0 ≤ D.getD i 0 := by
   intro i
   induction i with
   | zero => intro hi; have := (h 0 hi).2; simp only at this; omega
   | succ i ih => intro hi; have := ih (by omega); have := (h (i + 1) hi).2; simp only at this; omega
  exact ⟨fun i hi => ⟨h0 i hi, (h i hi).1⟩, h2⟩
 ·rintro ⟨h1, h2⟩ i hi
  refine ⟨(h1 i hi).2, ?_⟩
  cases i with
  | zero => have := (h1 0 hi).1; simp only; omega
  | succ i => rcases h2 (i + 1) hi with h | h; omega; simpa using h
def stsN (P : Nat → Shd) (n : Nat) : List ST := (List.range n).map fun i => (P i).st
theorem stsN_length (P : Nat → Shd) (n : Nat) : (stsN P n).length = n := by simp [stsN]
theorem stsN_succ (P : Nat → Shd) (n : Nat) : stsN P (n + 1) = stsN P n ++ [(P n).st] := by simp [stsN, List.range_succ]
theorem stsN_get (P : Nat → Shd) (n i : Nat) (h : i < n) : (stsN P n)[i]? = some (P i).st := by simp [stsN, h]
def aheadS (l : Int) (P : Nat → Shd) : Nat → Int
 | 0 => l
 | i + 1 => (P i).N
theorem rightS_snoc (gen : Int) : ∀ (L : List ST) (l : Int) (s : ST), rightS gen l (L ++ [s]) = (rightS gen l L && okS gen ((L.map ST.N).getLastD l) s)
 | [], l, s => by simp [rightS]
 | x :: r, l, s => by
   show (okS gen l x && rightS gen x.N (r ++ [s])) = ((okS gen l x && rightS gen x.N r) && _)
   rw [rightS_snoc gen r x.N s, Bool.and_assoc]
   congr 2
   cases r with
   | nil => simp
   | cons y q => simp [List.getLastD, List.getLast_cons]
theorem stsN_last (P : Nat → Shd) (l : Int) (k : Nat) : ((stsN P k).map ST.N).getLastD l = aheadS l P k := by
 cases k with
 | zero => simp [stsN, aheadS]
 | succ k => rw [stsN_succ, List.map_append]; simp [aheadS, Shd.st]
theorem rightS_succ (gen l : Int) (P : Nat → Shd) (k : Nat) : rightS gen l (stsN P (k + 1)) = (rightS gen l (stsN P k) && okS gen (aheadS l P k) (P k).st) := by
 rw [stsN_succ, rightS_snoc, stsN_last]
theorem rightS_le {gen l : Int} {P : Nat → Shd} {n : Nat} : ∀ {k : Nat}, k ≤ n → rightS gen l (stsN P n) = true → rightS gen l (stsN P k) = true := by
 induction n with
 | zero =>
   intro k hk h
   have e : k = 0 := by omega
   rw [e]
   exact h
 | succ n ih =>
   intro k hk h
   rcases Nat.lt_or_ge k (n + 1) with h1 | h1
   ·rw [rightS_succ, Bool.and_eq_true] at h
    exact ih (by omega) h.1
   ·obtain rfl : k = n + 1 := by omega
    exact h
theorem okS_is (gen last : Int) (P : Shd) : okS gen last P.st = ((decide (last < P.N) && decide (P.N ≤ gen)) && (decide (0 ≤ P.Z) && decide (P.Z ≤ 67108864)) && (betZ 0 3999 (fun i => P.D.getD i 0) P.D.length && riseZ (fun i => P.D.getD i 0) P.D.length)) := by
 unfold okS Shd.st
 simp only
 rw [upToR_split]
open Go.RowKit
theorem sameShard_any (N Z : Int) (S l : Nat) (D : Nat → Int) (pa pb : Option Addr) (ca cb : Nat) (w : World) (hL : l ≤ 9223372036854775807) (ha : Ints w pa l D) (hb : Ints w pb l D) :
  Calls Tryz.prog 83 #[.agg #[.int .i64 N, .int .i64 Z, .int .u32 (S : Nat), .slice pa l ca], .agg #[.int .i64 N, .int .i64 Z, .int .u32 (S : Nat), .slice pb l cb]] w fun e w' => e = .returned (.bool true) ∧ Below w.heap.size w w' := by
 have hs := fun (W : World) (hW : Below w.heap.size w W) => sameInts_any pa pb l ca cb D W hL (ha.below hW) (hb.below hW)
 obtain ⟨W1, hW1⟩ : ∃ W1, w.alloc (.cells #[.int .i64 N, .int .i64 Z, .int .u32 (S : Nat), .slice pa l ca] 54) = W1 := ⟨_, rfl⟩
 have hB1 : Below w.heap.size w W1 := by rw [← hW1]; exact below_alloc _ _
 have hs1 : W1.heap.size = w.heap.size + 1 := by rw [← hW1]; simp
 have h1 : W1.heap[w.heap.size]? = some (.cells #[.int .i64 N, .int .i64 Z, .int .u32 (S : Nat), .slice pa l ca] 54 (0, 0)) := by rw [← hW1]; exact heap_alloc_new _ _
 obtain ⟨W2, hW2⟩ : ∃ W2, W1.alloc (.cells #[.int .i64 N, .int .i64 Z, .int .u32 (S : Nat), .slice pb l cb] 54) = W2 := ⟨_, rfl⟩
 have hB2 : Below W1.heap.size W1 W2 := by rw [← hW2]; exact below_alloc _ _
 have h2 : W2.heap[W1.heap.size]? = some (.cells #[.int .i64 N, .int .i64 Z, .int .u32 (S : Nat), .slice pb l cb] 54 (0, 0)) := by rw [← hW2]; exact heap_alloc_new _ _
 have h12 := (hB2.block _ (block_lt h1)).trans h1
 obtain ⟨e0, e1, e2, e3⟩ := cells4_at h12
 obtain ⟨d0, d1, d2, d3⟩ := cells4_at h2
 have hB : Below w.heap.size w W2 := hB1.trans (hB2.mono hB1.size)
 have hs2 := hs W2 hB
 have HS1 := hide hs1
 clear ha hb hs h1 h2 h12 hs1 hL
 go_enter Tryz.func83, Tryz.ntmps83
 go_wp2_with fail
 refine hs2.mono ?_
 rintro e w' ⟨rfl, hb⟩
 go_wp2_with fail
 go_ret
 exact ⟨rfl, hB.trans (hb.mono hB.size)⟩
abbrev sameM_mem (s : Nat) : Prop := s ∈ [17, 18, 19, 20, 21, 22, 23, 24, 25, 26]
theorem sameM_list (s : Nat) (h : sameM_mem s) : s ∈ [17, 18, 19, 20, 21, 22, 23, 24, 25, 26] := h
abbrev sameM_ops0 : Oper := ⟨some 17, .move (.tmp 0), 22, "same.go:332", #[], none⟩
abbrev sameM_ops1 : Oper := ⟨some 18, .move (.tmp 5), 3, "same.go:332", #[], none⟩
abbrev sameM_ops2 : Oper := ⟨some 19, .indexAddr 22 (.tmp 17) (.tmp 18), 0, "same.go:332", #[⟨0, .data⟩, ⟨1, .data⟩], none⟩
abbrev sameM_ops3 : Oper := ⟨some 20, .load 54 (.tmp 19), 54, "same.go:332", #[⟨2, .data⟩], none⟩
abbrev sameM_ops4 : Oper := ⟨some 21, .move (.tmp 1), 22, "same.go:332", #[], none⟩
abbrev sameM_ops5 : Oper := ⟨some 22, .move (.tmp 5), 3, "same.go:332", #[], none⟩
abbrev sameM_ops6 : Oper := ⟨some 23, .indexAddr 22 (.tmp 21) (.tmp 22), 0, "same.go:332", #[⟨4, .data⟩, ⟨5, .data⟩], none⟩
abbrev sameM_ops7 : Oper := ⟨some 24, .load 54 (.tmp 23), 54, "same.go:332", #[⟨6, .data⟩], none⟩
abbrev sameM_ops8 : Oper := ⟨some 25, .call ⟨.value (.func 83), #[.tmp 20, .tmp 24], #[54, 54]⟩, 4, "same.go:332", #[⟨3, .data⟩, ⟨7, .data⟩], none⟩
abbrev sameM_ops9 : Oper := ⟨some 26, .unOp .not 4 (.tmp 25), 4, "same.go:332", #[⟨8, .data⟩], none⟩
def sameM_ops : Array Oper := #[sameM_ops0, sameM_ops1, sameM_ops2, sameM_ops3, sameM_ops4, sameM_ops5, sameM_ops6, sameM_ops7, sameM_ops8, sameM_ops9]
def sameM_slot : Nat → Nat
 | 0 => 17
 | 1 => 18
 | 2 => 19
 | 3 => 20
 | 4 => 21
 | 5 => 22
 | 6 => 23
 | 7 => 24
 | 8 => 25
 | 9 => 26
 | j + 10 => 1027 + j
theorem sameM_inj (i j : Nat) (hi : i < 10) (hj : j < 10) (h : sameM_slot i = sameM_slot j) : i = j := by
 have key : ∀ i j : Fin 10, sameM_slot i.val = sameM_slot j.val → i = j := by decide
 exact Fin.mk.inj (key ⟨i, hi⟩ ⟨j, hj⟩ h)
def sameMR_val (n k ca cb S l ga oa gb ob c1 c2 : Nat) (N Z : Int) (p1 p2 : Option Addr) : Nat → Value → World → Prop
 | 0, v, w => v = .slice (some ⟨ga, oa, none⟩) n ca
 | 1, v, w => v = .int .i64 (k : Nat)
 | 2, v, w => v = .pointer (some ⟨ga, oa + k * 4, none⟩)
 | 3, v, w => v = .agg #[.int .i64 N, .int .i64 Z, .int .u32 (S : Nat), .slice p1 l c1]
 | 4, v, w => v = .slice (some ⟨gb, ob, none⟩) n cb
 | 5, v, w => v = .int .i64 (k : Nat)
 | 6, v, w => v = .pointer (some ⟨gb, ob + k * 4, none⟩)
 | 7, v, w => v = .agg #[.int .i64 N, .int .i64 Z, .int .u32 (S : Nat), .slice p2 l c2]
 | 8, v, w => v = .bool true
 | 9, v, w => v = .bool false
 | _, _, _ => True
theorem sameMR_below (n k ca cb S l ga oa gb ob c1 c2 : Nat) (N Z : Int) (p1 p2 : Option Addr) (w w' : World) (hb : Below w.heap.size w w') : ∀ j v, sameMR_val n k ca cb S l ga oa gb ob c1 c2 N Z p1 p2 j v w → sameMR_val n k ca cb S l ga oa gb ob c1 c2 N Z p1 p2 j v w' := by
 intro j v h
 match j, h with
 | 0, h | 1, h | 2, h | 3, h | 4, h | 5, h | 6, h | 7, h | 8, h | 9, h => exact h
 | _ + 10, h => exact h
theorem sameMR (n k ca cb S l ga oa gb ob c1 c2 : Nat) (N Z : Int) (p1 p2 : Option Addr) (Q : Exit → Act → World → Prop) (t0 : Array Value) (w0 : World) (ht : t0.size = 27)
  (hs0 : t0.getD 0 undef = .slice (some ⟨ga, oa, none⟩) n ca) (hs1 : t0.getD 1 undef = .slice (some ⟨gb, ob, none⟩) n cb) (hs5 : t0.getD 5 undef = .int .i64 (k : Nat))
  (hkn : k < n) (ha0 : w0.cell? ⟨ga, oa + k * 4, none⟩ = some (.int .i64 N)) (ha1 : w0.cell? ⟨ga, oa + k * 4 + 1, none⟩ = some (.int .i64 Z)) (ha2 : w0.cell? ⟨ga, oa + k * 4 + 2, none⟩ = some (.int .u32 (S : Nat))) (ha3 : w0.cell? ⟨ga, oa + k * 4 + 3, none⟩ = some (.slice p1 l c1)) (hb0 : w0.cell? ⟨gb, ob + k * 4, none⟩ = some (.int .i64 N)) (hb1 : w0.cell? ⟨gb, ob + k * 4 + 1, none⟩ = some (.int .i64 Z)) (hb2 : w0.cell? ⟨gb, ob + k * 4 + 2, none⟩ = some (.int .u32 (S : Nat))) (hb3 : w0.cell? ⟨gb, ob + k * 4 + 3, none⟩ = some (.slice p2 l c2))
  (cs : ∀ W, Below w0.heap.size w0 W → Calls Tryz.prog 83 #[.agg #[.int .i64 N, .int .i64 Z, .int .u32 (S : Nat), .slice p1 l c1], .agg #[.int .i64 N, .int .i64 Z, .int .u32 (S : Nat), .slice p2 l c2]] W fun e w' => e = .returned (.bool true) ∧ Below W.heap.size W w')
  (hQ : ∀ (vs : Nat → Value) (w : World), Below w0.heap.size w0 w → (vs 26 = .bool false) → Q .normal { tmps := [17, 18, 19, 20, 21, 22, 23, 24, 25, 26].foldl (fun y d => y.setIfInBounds d (vs d)) t0, defers := [] } w) :
  (Code.region 6 sameM_ops true).wp Tryz.prog Q { tmps := t0, defers := [] } w0 := by
 have hsl : ∀ j, j < 10 → sameM_mem (sameM_slot j) := by
  intro j hj
  match j, hj with
  | 0, _ => exact (by decide : sameM_mem 17)
  | 1, _ => exact (by decide : sameM_mem 18)
  | 2, _ => exact (by decide : sameM_mem 19)
  | 3, _ => exact (by decide : sameM_mem 20)
  | 4, _ => exact (by decide : sameM_mem 21)
  | 5, _ => exact (by decide : sameM_mem 22)
  | 6, _ => exact (by decide : sameM_mem 23)
  | 7, _ => exact (by decide : sameM_mem 24)
  | 8, _ => exact (by decide : sameM_mem 25)
  | 9, _ => exact (by decide : sameM_mem 26)
  | k + 10, hj => omega
 refine wp_region_inv (by kernel_rfl) sameM_slot (sameMR_val n k ca cb S l ga oa gb ob c1 c2 N Z p1 p2) t0 w0 ?_ ?_ ?_ (sameMR_below n k ca cb S l ga oa gb ob c1 c2 N Z p1 p2) ?_ ?_
 ·intro j o ho
  have hj : j < 10 := (Array.getElem?_eq_some_iff.1 ho).1
  rw [ht]
  match j, ho with
  | 0, ho | 1, ho | 2, ho | 3, ho | 4, ho | 5, ho | 6, ho | 7, ho | 8, ho | 9, ho => cases ho; exact ⟨rfl, by decide⟩
  | k + 10, _ => omega
 ·intro i j hi hj h
  exact sameM_inj i j hi hj h
 ·intro j o ho
  have hj : j < 10 := (Array.getElem?_eq_some_iff.1 ho).1
  match j, ho with
  | 0, ho | 1, ho | 2, ho | 3, ho | 4, ho | 5, ho | 6, ho | 7, ho | 8, ho | 9, ho => cases ho; decide
  | k + 10, _ => omega
 ·intro j o ho x w hB hdef hsz hs hdeps
  have hs' : ∀ s, ¬ sameM_mem s → x.tmps.getD s undef = t0.getD s undef := fun s hn => hs s (fun j hj e => hn (by rw [e]; exact hsl j hj))
  have u0 := (hs' 0 (by decide)).trans hs0
  have u1 := (hs' 1 (by decide)).trans hs1
  have u5 := (hs' 5 (by decide)).trans hs5
  have hj : j < 10 := (Array.getElem?_eq_some_iff.1 ho).1
  clear hs hs' hsl hsz ht hQ hs0 hs1 hs5
  simp only [Array.getD_eq_getD_getElem?] at u0 u1 u5
  match j, ho with
  | 0, ho =>
    have e : o = sameM_ops0 := (Option.some.inj ho).symm; unfold sameM_ops0 at e
    subst e
    clear hdeps
    refine wpOp_step ho (fun K hK => ?_)
    clear ho
    go_simp
    exact hK _ _ ⟨_, act_putD x hdef _ _, rfl, Below.refl _ _⟩
  | 1, ho =>
    have e : o = sameM_ops1 := (Option.some.inj ho).symm; unfold sameM_ops1 at e
    subst e
    clear hdeps
    refine wpOp_step ho (fun K hK => ?_)
    clear ho
    go_simp
    exact hK _ _ ⟨_, act_putD x hdef _ _, rfl, Below.refl _ _⟩
  | 2, ho =>
    have e : o = sameM_ops2 := (Option.some.inj ho).symm; unfold sameM_ops2 at e
    subst e
    have q0 : x.tmps.getD 17 undef = .slice (some ⟨ga, oa, none⟩) n ca := hdeps ⟨0, .data⟩ (by simp) rfl
    have q1 : x.tmps.getD 18 undef = .int .i64 (k : Nat) := hdeps ⟨1, .data⟩ (by simp) rfl
    simp only [Array.getD_eq_getD_getElem?] at q0 q1
    clear hdeps
    have kz : (k : Int) < (n : Int) := by omega
    have kz0 : (0 : Int) ≤ (k : Int) := by omega
    refine wpOp_step ho (fun K hK => ?_)
    clear ho
    go_simp
    exact hK _ _ ⟨_, act_putD x hdef _ _, rfl, Below.refl _ _⟩
  | 3, ho =>
    have e : o = sameM_ops3 := (Option.some.inj ho).symm; unfold sameM_ops3 at e
    subst e
    have q2 : x.tmps.getD 19 undef = .pointer (some ⟨ga, oa + k * 4, none⟩) := hdeps ⟨2, .data⟩ (by simp) rfl
    simp only [Array.getD_eq_getD_getElem?] at q2
    clear hdeps
    have c0' := cell_thru ha0 hB
    have c1' := cell_thru ha1 hB
    have c2' := cell_thru ha2 hB
    have c3' := cell_thru ha3 hB
    refine wpOp_step ho (fun K hK => ?_)
    clear ho
    go_simp
    exact hK _ _ ⟨_, act_putD x hdef _ _, rfl, Below.refl _ _⟩
  | 4, ho =>
    have e : o = sameM_ops4 := (Option.some.inj ho).symm; unfold sameM_ops4 at e
    subst e
    clear hdeps
    refine wpOp_step ho (fun K hK => ?_)
    clear ho
    go_simp
    exact hK _ _ ⟨_, act_putD x hdef _ _, rfl, Below.refl _ _⟩
  | 5, ho =>
    have e : o = sameM_ops5 := (Option.some.inj ho).symm; unfold sameM_ops5 at e
    subst e
    clear hdeps
    refine wpOp_step ho (fun K hK => ?_)
    clear ho
    go_simp
    exact hK _ _ ⟨_, act_putD x hdef _ _, rfl, Below.refl _ _⟩
  | 6, ho =>
    have e : o = sameM_ops6 := (Option.some.inj ho).symm; unfold sameM_ops6 at e
    subst e
    have q4 : x.tmps.getD 21 undef = .slice (some ⟨gb, ob, none⟩) n cb := hdeps ⟨4, .data⟩ (by simp) rfl
    have q5 : x.tmps.getD 22 undef = .int .i64 (k : Nat) := hdeps ⟨5, .data⟩ (by simp) rfl
    simp only [Array.getD_eq_getD_getElem?] at q4 q5
    clear hdeps
    have kz : (k : Int) < (n : Int) := by omega
    have kz0 : (0 : Int) ≤ (k : Int) := by omega
    refine wpOp_step ho (fun K hK => ?_)
    clear ho
    go_simp
    exact hK _ _ ⟨_, act_putD x hdef _ _, rfl, Below.refl _ _⟩
  | 7, ho =>
    have e : o = sameM_ops7 := (Option.some.inj ho).symm; unfold sameM_ops7 at e
    subst e
    have q6 : x.tmps.getD 23 undef = .pointer (some ⟨gb, ob + k * 4, none⟩) := hdeps ⟨6, .data⟩ (by simp) rfl
    simp only [Array.getD_eq_getD_getElem?] at q6
    clear hdeps
    have c0' := cell_thru hb0 hB
    have c1' := cell_thru hb1 hB
    have c2' := cell_thru hb2 hB
    have c3' := cell_thru hb3 hB
    refine wpOp_step ho (fun K hK => ?_)
    clear ho
    go_simp
    exact hK _ _ ⟨_, act_putD x hdef _ _, rfl, Below.refl _ _⟩
  | 8, ho =>
    have e : o = sameM_ops8 := (Option.some.inj ho).symm; unfold sameM_ops8 at e
    subst e
    have q3 : x.tmps.getD 20 undef = .agg #[.int .i64 N, .int .i64 Z, .int .u32 (S : Nat), .slice p1 l c1] := hdeps ⟨3, .data⟩ (by simp) rfl
    have q7 : x.tmps.getD 24 undef = .agg #[.int .i64 N, .int .i64 Z, .int .u32 (S : Nat), .slice p2 l c2] := hdeps ⟨7, .data⟩ (by simp) rfl
    simp only [Array.getD_eq_getD_getElem?] at q3 q7
    clear hdeps
    refine wpOp_step ho (fun K hK => ?_)
    clear ho
    go_simp
    refine (cs w hB).mono ?_
    rintro e w' ⟨rfl, hb⟩
    exact hK _ _ ⟨_, act_putD x hdef _ _, rfl, hb⟩
  | 9, ho =>
    have e : o = sameM_ops9 := (Option.some.inj ho).symm; unfold sameM_ops9 at e
    subst e
    have q8 : x.tmps.getD 25 undef = .bool true := hdeps ⟨8, .data⟩ (by simp) rfl
    simp only [Array.getD_eq_getD_getElem?] at q8
    clear hdeps
    refine wpOp_step ho (fun K hK => ?_)
    clear ho
    go_simp
    exact hK _ _ ⟨_, act_putD x hdef _ _, rfl, Below.refl _ _⟩
  | k + 10, _ => omega
 ·intro x w hB hdef hsz hs hv
  have hx := frame_sets x.tmps t0 hsz [17, 18, 19, 20, 21, 22, 23, 24, 25, 26] (fun s hn => hs s (fun j hj e => hn (sameM_list s (by rw [e]; exact hsl j hj))))
  have hq := hQ (fun d => x.tmps.getD d undef) w hB (hv 9 (by decide))
  obtain ⟨T, Df⟩ := x
  dsimp only at hx hdef hq
  subst hdef
  rw [← hx] at hq
  exact hq
theorem sameShards_any (a b : Option Addr) (n ca cb : Nat) (P Q : Nat → Shd) (w : World) (hn : n ≤ 9223372036854775807) (ha : Shds w a n P) (hb : Shds w b n Q) (hl : ∀ i, i < n → (P i).D.length ≤ 9223372036854775807) (he : ∀ i, i < n → (P i).st = (Q i).st) :
  Calls Tryz.prog 66 #[.slice a n ca, .slice b n cb] w fun e w' => e = .returned (.bool true) ∧ Below w.heap.size w w' := by
 go_enter Tryz.func66, Tryz.ntmps66
 go_wp2
 go_loopg [5] n (fun q s5 wr => ∃ k : Nat, k + q = n ∧ s5 = .int .i64 k ∧ Below w.heap.size w wr)
 case atStart => exact ⟨0, by omega, rfl, Below.refl _ _⟩
 case round =>
  obtain ⟨k, hkq, rfl, hbr⟩ := hrel
  cases gk with
  | zero =>
    obtain rfl : k = n := by omega
    clear ha hb hl he
    go_wp2
    go_ret
    exact ⟨rfl, hbr⟩
  | succ q =>
    have hkn : k < n := by omega
    have hkz : (k : Int) < (n : Int) := by omega
    have hk0 : (0 : Int) ≤ (k : Int) := by omega
    obtain ⟨ga, oa, rfl, ⟨x0, x1, x2, x3⟩, ok1⟩ := ha.cells k hkn
    obtain ⟨gb, ob, rfl, ⟨y0, y1, y2, y3⟩, ok2⟩ := hb.cells k hkn
    have heq := he k hkn
    simp only [Shd.st, ST.mk.injEq] at heq
    obtain ⟨eN, eZ, eS, eD⟩ := heq
    have hll := hl k hkn
    rw [← eN] at y0
    rw [← eZ] at y1
    rw [← eS] at y2
    rw [← eD] at y3
    have hbl2 := ok2.bD
    rw [← eD] at hbl2
    have cs := fun (W : World) (hW : Below wr.heap.size wr W) => sameShard_any (P k).N (P k).Z (P k).S (P k).D.length _ (P k).pD (Q k).pD (P k).cD (Q k).cD W hll ((ok1.bD.below hbr).below hW) ((hbl2.below hbr).below hW)
    have x0' := cell_thru x0 hbr
    have x1' := cell_thru x1 hbr
    have x2' := cell_thru x2 hbr
    have x3' := cell_thru x3 hbr
    have y0' := cell_thru y0 hbr
    have y1' := cell_thru y1 hbr
    have y2' := cell_thru y2 hbr
    have y3' := cell_thru y3 hbr
    clear ha hb hl he ok1 ok2 hbl2 x0 x1 x2 x3 y0 y1 y2 y3 eN eZ eS eD hll
    generalize (P k).N = N at *
    generalize (P k).Z = Z at *
    generalize (P k).S = S at *
    generalize (P k).D.length = l at *
    generalize (P k).cD = c1 at *
    generalize (Q k).cD = c2 at *
    generalize (P k).pD = p1 at *
    generalize (Q k).pD = p2 at *
    go_wp2
    refine sameMR n k ca cb S l ga oa gb ob c1 c2 N Z p1 p2 _ _ _ rfl rfl rfl rfl hkn x0' x1' x2' x3' y0' y1' y2' y3' cs ?_
    intro vs w2 hB2 h26
    simp only [List.foldl_cons, List.foldl_nil, List.setIfInBounds_toArray, List.set_cons_succ, List.set_cons_zero]
    rw [h26]
    generalize vs 17 = z17
    generalize vs 18 = z18
    generalize vs 19 = z19
    generalize vs 20 = z20
    generalize vs 21 = z21
    generalize vs 22 = z22
    generalize vs 23 = z23
    generalize vs 24 = z24
    generalize vs 25 = z25
    have HB := hide (hbr.trans (hB2.mono hbr.size))
    clear cs x0' x1' x2' x3' y0' y1' y2' y3' hB2
    go_wp2_with fail
    go_roundg q
    case measure => omega
    case rel => exact ⟨k + 1, by omega, by go_num, HB.out⟩
theorem sameMani_any (G : Int) (a b : Option Addr) (n ca cb : Nat) (P Q : Nat → Shd) (w : World) (hn : n ≤ 9223372036854775807) (ha : Shds w a n P) (hb : Shds w b n Q) (hl : ∀ i, i < n → (P i).D.length ≤ 9223372036854775807) (he : ∀ i, i < n → (P i).st = (Q i).st) :
  Calls Tryz.prog 33 #[.agg #[.int .i64 G, .slice a n ca], .agg #[.int .i64 G, .slice b n cb]] w fun e w' => e = .returned (.bool true) ∧ Below w.heap.size w w' := by
 have hs := fun (W : World) (hW : Below w.heap.size w W) => sameShards_any a b n ca cb P Q W hn (ha.below hW) (hb.below hW) hl he
 obtain ⟨W1, hW1⟩ : ∃ W1, w.alloc (.cells #[.int .i64 G, .slice a n ca] 24) = W1 := ⟨_, rfl⟩
 have hB1 : Below w.heap.size w W1 := by rw [← hW1]; exact below_alloc _ _
 have hs1 : W1.heap.size = w.heap.size + 1 := by rw [← hW1]; simp
 have h1 : W1.heap[w.heap.size]? = some (.cells #[.int .i64 G, .slice a n ca] 24 (0, 0)) := by rw [← hW1]; exact heap_alloc_new _ _
 obtain ⟨W2, hW2⟩ : ∃ W2, W1.alloc (.cells #[.int .i64 G, .slice b n cb] 24) = W2 := ⟨_, rfl⟩
 have hB2 : Below W1.heap.size W1 W2 := by rw [← hW2]; exact below_alloc _ _
 have h2 : W2.heap[W1.heap.size]? = some (.cells #[.int .i64 G, .slice b n cb] 24 (0, 0)) := by rw [← hW2]; exact heap_alloc_new _ _
 have h12 := (hB2.block _ (block_lt h1)).trans h1
 obtain ⟨e0, e1⟩ := cells2_at h12
 obtain ⟨d0, d1⟩ := cells2_at h2
 have hB : Below w.heap.size w W2 := hB1.trans (hB2.mono hB1.size)
 have hs2 := hs W2 hB
 have HS1 := hide hs1
 clear ha hb hs h1 h2 h12 hs1 hn hl he
 go_enter Tryz.func33, Tryz.ntmps33
 go_wp2_with fail
 refine hs2.mono ?_
 rintro e w' ⟨rfl, hb⟩
 go_wp2_with fail
 go_ret
 exact ⟨rfl, hB.trans (hb.mono hB.size)⟩
end Go.Proofs.YtppdbinppibjhaaGreatDoor
