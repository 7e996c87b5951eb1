/-
  A row of sets that comes in.
-/
import Derived.Test.YtmnjicpgdhnimaaDoorSLaid
import Derived.Test.YtmnjicpgdhnimaaDoorSUn
import Derived.ChangeArms
import Derived.ChangeSlices
import Derived.SizedLaws
import Derived.Deep.Slices
import Derived.DataReads
namespace Go.Proofs.YtmnjicpgdhnimaaDoor
open Go.ChangeShapes Go.WideShapes Go.RowKit Go.Deep

section
variable {H : Type} {enc : TypeId × Value → H} {w : World} {base n : Nat} {held : Bool}
theorem set_of_cells {cs : List Value} {x : DataW H × List MemPlace} (h4 : cs.length = 4) (ht : DataW.trod enc Tryd.prog w base (fun _ => true) held n 24 cs = some x) : ∃ S : Nat → Bool, ∀ j, j < 4 → cs[j]? = some (.int .u64 (wd S j : Nat)) := by
  obtain ⟨c0, c1, c2, c3, rfl⟩ : ∃ a b c d, cs = [a, b, c, d] := by
    match cs, h4 with
    | [a, b, c, d], _ => exact ⟨a, b, c, d, rfl⟩
  obtain ⟨xs, m, _, ex, hlen, hl, hel⟩ := DataW.trod_array Tryd.underlying24 ht
  rw [show Tryd.prog.cellsOf 22 = 1 by kernel_rfl] at hel
  have g : ∀ (j : Nat) (c : Value), j < 4 → [c0, c1, c2, c3][j]? = some c → ∃ n : Nat, c = .int .u64 (n : Nat) ∧ n < 18446744073709551616 := by
    intro j c hj hc
    obtain ⟨x, hx⟩ : ∃ x, xs[j]? = some x := ⟨_, List.getElem?_eq_getElem (by omega)⟩
    have k0 := hel j hj
    rw [hx] at k0
    obtain ⟨n, e1, _, hw⟩ := DataW.trod_int Tryd.underlying22 k0
    have hb := bounds_u64 hw
    refine ⟨n.toNat, ?_, by omega⟩
    have h1 := congrArg (fun l => l[0]?) e1
    simp only [List.getElem?_cons_zero, Nat.mul_one] at h1
    rw [List.getElem?_take_of_lt (by omega), List.getElem?_drop, Nat.add_zero] at h1
    have h2 : ([c0, c1, c2, c3] : List Value)[j]? = some (.int .u64 n) := by simpa [Value.cells] using h1
    rw [hc] at h2
    cases h2
    rw [Int.toNat_of_nonneg hb.1]
  obtain ⟨n0, rfl, h0⟩ := g 0 c0 (by omega) rfl
  obtain ⟨n1, rfl, h1⟩ := g 1 c1 (by omega) rfl
  obtain ⟨n2, rfl, h2⟩ := g 2 c2 (by omega) rfl
  obtain ⟨n3, rfl, h3⟩ := g 3 c3 (by omega) rfl
  let W : Nat → Nat := fun i => if i = 0 then n0 else if i = 1 then n1 else if i = 2 then n2 else n3
  refine ⟨hasW W, fun j hj => ?_⟩
  have hg := st_get (hasW W) j hj
  rw [← sc_st W (fun i hi => by show (if i = 0 then n0 else if i = 1 then n1 else if i = 2 then n2 else n3) < _; split; exact h0; split; exact h1; split; exact h2; exact h3)] at hg
  rw [← hg]
  match j, hj with
  | 0, _ => rfl
  | 1, _ => rfl
  | 2, _ => rfl
  | 3, _ => rfl
theorem cells_set : Tryd.prog.cellsOf 24 = 4 := by kernel_rfl
theorem addNone (A : Addr) (hA : A.spot = none) (j : Nat) : A.add j = ⟨A.block, A.off + j, none⟩ := by
  obtain ⟨b, o, s⟩ := A
  simp only at hA
  subst hA
  unfold Addr.add
  split
  · rename_i e; rw [e, Nat.add_zero]
  · rfl
set_option maxRecDepth 100000 in
theorem open_setrow {fuel : Nat} {cs : List Value} {x : DataW H × List MemPlace} (h : DataW.trod enc Tryd.prog w base (fun _ => true) held fuel 31 cs = some x) :
    ∃ (b : Option Addr) (m c : Nat) (F : Nat → Nat → Bool), cs = [.slice b m c] ∧ m ≤ c ∧ (b = none → c = 0) ∧ Sets w b m F ∧ ((∀ y ∈ x.1.weights Tryd.prog 31, y ≤ reachBytes) → m ≤ 140737488351232) := by
  have hbT : 1 ≤ Tryd.prog.bytesOf 24 := of_decide_eq_true (by kernel_rfl)
  rcases open_slice Tryd.underlying31 h with ⟨hcs, _⟩ | ⟨a, len, cap, m, n', D, Pl, hcs, _, hl, hm, hmm, hx, hi⟩
  · exact ⟨none, 0, 0, fun _ _ => false, hcs, by omega, fun _ => rfl, .inl rfl, fun _ => by omega⟩
  · have hmc : m = cap := by simpa using hmm
    have hsp : 0 < len → a.spot = none := fun h0 => by
      obtain ⟨cs', hc, _⟩ := hi 0 (by omega)
      obtain ⟨_, hcl, hat⟩ := World.cells?_some hc
      rw [cells_set] at hcl hat
      have h1 := hat 0 (by omega)
      rw [List.getElem?_eq_getElem (by omega)] at h1
      have h2 := World.cell?_spot h1
      obtain ⟨b, o, s⟩ := a
      simpa [Addr.add] using h2
    have key : ∀ i, ∃ S : Nat → Bool, i < len → ∀ j, j < 4 → w.cell? ⟨a.block, a.off + i * 4 + j, none⟩ = some (.int .u64 (wd S j : Nat)) := fun i => by
      by_cases hlt : i < len
      · obtain ⟨cs', hc, ht⟩ := hi i (by omega)
        have hsn := hsp (by omega)
        rw [addNone a hsn] at hc
        obtain ⟨_, hcl, hat⟩ := World.cells?_some hc
        rw [cells_set] at hcl hat
        obtain ⟨S, hS⟩ := set_of_cells hcl ht
        refine ⟨S, fun _ j hj => ?_⟩
        have h1 := hat j hj
        rw [hS j hj, addNone _ rfl] at h1
        exact h1
      · exact ⟨fun _ => false, fun h => absurd h hlt⟩
    refine ⟨some a, len, cap, fun i => Classical.choose (key i), hcs, hl, (fun e => by cases e), ?_, fun hw => ?_⟩
    · rcases Nat.eq_zero_or_pos len with h0 | h0
      · exact .inl h0
      · have hsn := hsp h0
        obtain ⟨b, o, s⟩ := a
        simp only at hsn
        subst hsn
        exact .inr ⟨b, o, rfl, fun i hlt => Classical.choose_spec (key i) hlt⟩
    · have h1 := hw ((((List.range len).map D).length + ((List.range (m - len)).map fun j => D (len + j)).length) * Tryd.prog.bytesOf 24) (by
        rw [hx]
        simp only [DataW.weights, Tryd.underlying31]
        exact List.mem_cons_self)
      simp only [List.length_map, List.length_range, show reachBytes = 140737488351232 from rfl] at h1
      have h2 := Nat.le_mul_of_pos_right (len + (m - len)) hbT
      omega
end
end Go.Proofs.YtmnjicpgdhnimaaDoor
