/-
  Parts (api.Part) in a row, as they came in.
-/
import Derived.Test.YtpdlapnliiengaaGreatAppendS
import Derived.OpenShut
import Derived.ChangeArms
import Derived.ChangeSlices
import Derived.SizedLaws
import Derived.Deep.Slices
import Derived.DataReads
namespace Go.Proofs.YtpdlapnliiengaaGreat
open Go.ChangeShapes Go.WideShapes Go.RowKit Go.Deep

/-- A part: a tag, bytes. -/
structure Prt where
  T : Nat
  B : List Nat
  pB : Option Addr
  cB : Nat
structure Prt.Ok (w : World) (P : Prt) : Prop where
  T : P.T < 256
  lB : P.B.length ≤ P.cB
  mB : P.cB ≤ 9223372036854775807
  nB : P.pB = none → P.cB = 0
  oB : P.cB = 0 ∨ ∃ b off, P.pB = some ⟨b, off, none⟩
  bB : BL w P.pB P.B
theorem Prt.Ok.atB {w : World} {P : Prt} (h : P.Ok w) : ∀ g off s, P.pB = some ⟨g, off, s⟩ → 0 < P.B.length → g < w.heap.size := by
  intro g off s e h0
  obtain ⟨b, o, e', hc⟩ := h.bB.cell h0
  rw [e] at e'; cases e'
  exact block_lt_of_cell (hc 0 h0)
theorem Prt.Ok.kept {w w' : World} {P : Prt} {F : Nat → Prop} (h : P.Ok w) (hk : Kept F w w') (hF : ∀ k, k < w.heap.size → ¬ F k) : P.Ok w' :=
  ⟨h.T, h.lB, h.mB, h.nB, h.oB, h.bB.kept0 hk (fun g o s e h0 => hF g (h.atB g o s e h0))⟩
theorem Prt.Ok.below {w w' : World} {P : Prt} (h : P.Ok w) (hb : Below w.heap.size w w') : P.Ok w' := h.kept (Kept.of_below (F := fun _ => False) hb) (fun _ _ h => h)
/-- Parts in a row. -/
def Prts (w : World) (a : Option Addr) (n : Nat) (P : Nat → Prt) : Prop :=
  n = 0 ∨ ∃ b off, a = some ⟨b, off, none⟩ ∧ ∀ i, i < n → (w.cell? ⟨b, off + i * 2, none⟩ = some (.int .u8 ((P i).T : Nat)) ∧ w.cell? ⟨b, off + i * 2 + 1, none⟩ = some (.slice (P i).pB (P i).B.length (P i).cB)) ∧ (P i).Ok w
theorem Prts.kept {w w' : World} {a : Option Addr} {n : Nat} {P : Nat → Prt} {F : Nat → Prop} (h : Prts w a n P) (hk : Kept F w w') (hF : ∀ k, k < w.heap.size → ¬ F k) : Prts w' a n P := by
  rcases h with h | ⟨b, off, rfl, hc⟩
  · exact .inl h
  · refine .inr ⟨b, off, rfl, fun i hi => ?_⟩
    obtain ⟨⟨h0, h1⟩, h5⟩ := hc i hi
    have hb := hF b (block_lt_of_cell h0)
    exact ⟨⟨hk.cell h0 hb, hk.cell h1 hb⟩, h5.kept hk hF⟩
theorem Prts.below {w w' : World} {a : Option Addr} {n : Nat} {P : Nat → Prt} (h : Prts w a n P) (hb : Below w.heap.size w w') : Prts w' a n P := h.kept (Kept.of_below (F := fun _ => False) hb) (fun _ _ h => h)
theorem Prts.cells {w : World} {a : Option Addr} {n : Nat} {P : Nat → Prt} (h : Prts w a n P) (i : Nat) (hi : i < n) : ∃ b off, a = some ⟨b, off, none⟩ ∧ (w.cell? ⟨b, off + i * 2, none⟩ = some (.int .u8 ((P i).T : Nat)) ∧ w.cell? ⟨b, off + i * 2 + 1, none⟩ = some (.slice (P i).pB (P i).B.length (P i).cB)) ∧ (P i).Ok w := by
  rcases h with h | ⟨b, off, e, hc⟩
  · omega
  · exact ⟨b, off, e, hc i hi⟩

theorem cells_u8 : Tryz.prog.cellsOf 5 = 1 := by kernel_rfl
theorem cells_bytes' : Tryz.prog.cellsOf 22 = 1 := by kernel_rfl
theorem cells_part : Tryz.prog.cellsOf 184 = 2 := by kernel_rfl
theorem bytes_u8' : Tryz.prog.bytesOf 5 = 1 := by kernel_rfl
theorem reach_is' : reachBytes = 140737488351232 := rfl
theorem add_none' (A : Addr) (hA : A.spot = none) (j : Nat) : A.add j = ⟨A.block, A.off + j, none⟩ := by
  obtain ⟨b, o, s⟩ := A
  simp only at hA
  subst hA
  unfold Addr.add
  split
  · rename_i e; rw [e, Nat.add_zero]
  · rfl

section
variable {H : Type} {enc : TypeId × Value → H} {w : World} {base n : Nat} {held : Bool}
set_option maxRecDepth 100000 in
theorem open_part {A : Addr} {cs : List Value} {x : DataW H × List MemPlace} (hA : A.spot = none) (hc : w.cells? base A (Tryz.prog.cellsOf 184) = some cs) (ht : DataW.trod enc Tryz.prog w base (fun _ => true) held n 184 cs = some x) :
    ∃ P : Prt, (w.cell? ⟨A.block, A.off, none⟩ = some (.int .u8 (P.T : Nat)) ∧ w.cell? ⟨A.block, A.off + 1, none⟩ = some (.slice P.pB P.B.length P.cB)) ∧ P.Ok w ∧
      ((∀ y ∈ x.1.weights Tryz.prog 184, y ≤ reachBytes) → P.B.length ≤ 140737488351232) := by
  obtain ⟨_, hcl, hat⟩ := World.cells?_some hc
  rw [cells_part] at hcl hat
  obtain ⟨ys, n', _, hy, _, hyl, hf⟩ := DataW.trod_struct Tryz.underlying184 ht
  match cs, hcl with
  | [x0, x1], _ =>
    match ys, hyl with
    | [y0, y1], _ =>
      have f0 : DataW.trod enc Tryz.prog w base (fun _ => true) held n' 5 (([x0, x1].drop 0).take (Tryz.prog.cellsOf 5)) = [y0, y1][0]? := hf 0 _ rfl
      rw [cells_u8] at f0
      have f1 : DataW.trod enc Tryz.prog w base (fun _ => true) held n' 22 (([x0, x1].drop 1).take (Tryz.prog.cellsOf 22)) = [y0, y1][1]? := hf 1 _ rfl
      rw [cells_bytes'] at f1
      have a0 := hat 0 (by omega)
      have a1 := hat 1 (by omega)
      simp only [add_none' A hA, Nat.add_zero] at a0 a1
      simp only [List.getElem?_cons_zero, List.getElem?_cons_succ] at a0 a1
      obtain ⟨K, hK, hyK, wK⟩ := DataW.trod_int Tryz.underlying5 (show DataW.trod enc Tryz.prog w base (fun _ => true) held n' 5 [x0] = some y0 from f0)
      cases hK
      obtain ⟨hK0, hK1⟩ := u8_bounds wK
      obtain ⟨T, rfl⟩ : ∃ T : Nat, K = (T : Int) := ⟨K.toNat, by omega⟩
      obtain ⟨pB, lB, cB, B, hx3, hB, hlB, hmB, hnB, hoB, hbB, hwB⟩ : ∃ (pB : Option Addr) (lB cB : Nat) (B : List Nat), x1 = .slice pB lB cB ∧ B.length = lB ∧ lB ≤ cB ∧ cB ≤ 9223372036854775807 ∧ (pB = none → cB = 0) ∧ (cB = 0 ∨ ∃ b off, pB = some ⟨b, off, none⟩) ∧ BL w pB B ∧ (∀ (hw : ∀ y ∈ y1.1.weights Tryz.prog 22, y ≤ reachBytes), lB ≤ 140737488351232) := by
        rcases open_ints Tryz.underlying22 Tryz.underlying5 (by kernel_rfl) (show DataW.trod enc Tryz.prog w base (fun _ => true) held n' 22 [x1] = some y1 from f1) with ⟨hcs, _⟩ | ⟨a, len, cap, zs, hcs, _, hl, hm, hz, hx, hcell, hwz⟩
        · cases hcs
          exact ⟨none, 0, 0, [], rfl, rfl, by omega, by omega, fun _ => rfl, .inl rfl, BL.mk (by simp) (.inl rfl), fun _ => by omega⟩
        · cases hcs
          have hz' : zs.length = cap := by simpa using hz
          have hrow : IsRow .u8 w (some a) len cap zs := .inr ⟨a, rfl, hl, hm, hz', hcell, hwz⟩
          have haddr := hrow.addr
          obtain ⟨h1, h2, h3, z, hzb⟩ := hrow.byt
          refine ⟨some a, len, cap, tx z len, rfl, tx_length _ _, h1, h2, h3, haddr, hzb.bl, fun hw => ?_⟩
          have := hw ((zs.take len).length + (zs.drop len).length) (by
            rw [hx]
            simp only [DataW.weights, Tryz.underlying22, lits, List.length_map, bytes_u8', Nat.mul_one]
            exact List.mem_cons_self)
          rw [List.length_take, List.length_drop, reach_is'] at this
          omega
      cases hx3
      refine ⟨⟨T, B, pB, cB⟩, ⟨a0, by rw [hB]; exact a1⟩, ⟨by show T < 256; omega, by show B.length ≤ cB; omega, hmB, hnB, hoB, hbB⟩, fun hw => ?_⟩
      have hxx : x.1 = .agg [y0.1, y1.1] := by rw [hy]; rfl
      rw [hxx] at hw
      show B.length ≤ _
      rw [hB]
      refine hwB (fun y hm => hw y ?_)
      simp only [DataW.weights, Tryz.underlying184]
      exact DataW.weights_mem_each (j := 1) (t := 22) (d := y1.1) rfl rfl y hm
theorem weightsAll_mem' {e : TypeId} : ∀ {l : List (DataW H)} {d : DataW H}, d ∈ l → ∀ n ∈ d.weights Tryz.prog e, n ∈ DataW.weightsAll Tryz.prog e l
  | d' :: r, d, hd, n, hn => by
    simp only [DataW.weightsAll, List.mem_append]
    rcases List.mem_cons.1 hd with rfl | h
    · exact Or.inl hn
    · exact Or.inr (weightsAll_mem' h n hn)
set_option maxRecDepth 100000 in
theorem open_parts {fuel : Nat} {cs : List Value} {x : DataW H × List MemPlace} (h : DataW.trod enc Tryz.prog w base (fun _ => true) held fuel 182 cs = some x) :
    ∃ (a : Option Addr) (len cap : Nat) (P : Nat → Prt), cs = [.slice a len cap] ∧ len ≤ cap ∧ cap ≤ 9223372036854775807 ∧ (a = none → cap = 0) ∧ Prts w a len P ∧
      ((∀ y ∈ x.1.weights Tryz.prog 182, y ≤ reachBytes) → len ≤ 140737488351232 ∧ ∀ i, i < len → (P i).B.length ≤ 140737488351232) := by
  have hbT : 1 ≤ Tryz.prog.bytesOf 184 := of_decide_eq_true (by kernel_rfl)
  rcases open_slice Tryz.underlying182 h with ⟨hcs, _⟩ | ⟨a, len, cap, m, n', D, Pl, hcs, _, hl, hm, hmm, hx, hi⟩
  · exact ⟨none, 0, 0, fun _ => ⟨0, [], none, 0⟩, hcs, by omega, by omega, fun _ => rfl, .inl rfl, fun _ => ⟨by omega, fun i hi => by omega⟩⟩
  · have hmc : m = cap := by simpa using hmm
    have hm' := hm
    unfold maxLen at hm'
    have hsp : 0 < len → a.spot = none := fun h0 => by
      obtain ⟨cs', hc, _⟩ := hi 0 (by omega)
      obtain ⟨_, hcl, hat⟩ := World.cells?_some hc
      rw [cells_part] at hcl hat
      have h1 := hat 0 (by omega)
      rw [List.getElem?_eq_getElem (by omega)] at h1
      have h2 := World.cell?_spot h1
      obtain ⟨b, o, s⟩ := a
      simpa [Addr.add] using h2
    have key : ∀ i, ∃ P : Prt, i < len → ((w.cell? ⟨a.block, a.off + i * 2, none⟩ = some (.int .u8 (P.T : Nat)) ∧ w.cell? ⟨a.block, a.off + i * 2 + 1, none⟩ = some (.slice P.pB P.B.length P.cB)) ∧ P.Ok w) ∧
        ((∀ y ∈ (D i).weights Tryz.prog 184, y ≤ reachBytes) → P.B.length ≤ 140737488351232) := fun i => by
      by_cases hlt : i < len
      · obtain ⟨cs', hc, ht⟩ := hi i (by omega)
        have hsn := hsp (by omega)
        rw [add_none' a hsn] at hc
        obtain ⟨P, h1, h2, h3⟩ := open_part (A := ⟨a.block, a.off + i * Tryz.prog.cellsOf 184, none⟩) rfl hc ht
        simp only [cells_part] at h1
        exact ⟨P, fun _ => ⟨⟨h1, h2⟩, h3⟩⟩
      · exact ⟨⟨0, [], none, 0⟩, fun h => absurd h hlt⟩
    refine ⟨some a, len, cap, fun i => Classical.choose (key i), hcs, hl, hm', (fun e => by cases e), ?_, fun hw => ⟨?_, fun i hlt => ?_⟩⟩
    · rcases Nat.eq_zero_or_pos len with h0 | h0
      · exact .inl h0
      · have hsn := hsp h0
        obtain ⟨b, o, s⟩ := a
        simp only at hsn
        subst hsn
        exact .inr ⟨b, o, rfl, fun i hlt => ⟨(Classical.choose_spec (key i) hlt).1.1, (Classical.choose_spec (key i) hlt).1.2⟩⟩
    · have h1 := hw ((((List.range len).map D).length + ((List.range (m - len)).map fun j => D (len + j)).length) * Tryz.prog.bytesOf 184) (by
        rw [hx]
        simp only [DataW.weights, Tryz.underlying182]
        exact List.mem_cons_self)
      simp only [List.length_map, List.length_range, reach_is'] at h1
      have h2 := Nat.le_mul_of_pos_right (len + (m - len)) hbT
      omega
    · refine (Classical.choose_spec (key i) hlt).2 (fun y hm => hw y ?_)
      rw [hx]
      simp only [DataW.weights, Tryz.underlying182]
      refine List.mem_cons_of_mem _ (List.mem_append_left _ (weightsAll_mem' (List.mem_map.2 ⟨i, List.mem_range.2 hlt, rfl⟩) y hm))
end
theorem owns_tyne {w : World} {B n size k : Nat} {v : Value} {xs : List Value} {e t : TypeId} {c : Array Value} {fr : Nat × Nat} (h : w.ownsRow B e size v n xs) (hk : w.heap[k]? = some (.cells c t fr)) (hne : t ≠ e) : v.ownBlock ≠ some k := fun hv => by
  obtain ⟨_, _, cur, hc⟩ := owns_cells h k hv
  rw [hk] at hc
  cases hc
  exact hne rfl
theorem owns_apart {w : World} {B B' n n' s s' : Nat} {v v' : Value} {xs xs' : List Value} {e e' : TypeId} (h : w.ownsRow B e s v n xs) (h' : w.ownsRow B' e' s' v' n' xs') (hne : e ≠ e') (g : Nat) (hg : v.ownBlock = some g) : v'.ownBlock ≠ some g := by
  obtain ⟨_, _, cur, hc⟩ := owns_cells h g hg
  exact owns_tyne h' hc hne
end Go.Proofs.YtpdlapnliiengaaGreat
