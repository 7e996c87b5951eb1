/-
  The cells of a row of sets (SWholeW's, without SetWhole).
-/
import Derived.Test.YtmnjicpgdhnimaaDoorSOne
import Derived.Test.YtmnjicpgdhnimaaDoorRows2
namespace Go.Proofs.YtmnjicpgdhnimaaDoor
open Go.RowKit Go.Shelf

/-- The cells of the first n sets. -/
def setsC (F : Nat → Nat → Bool) : Nat → List Value
  | 0 => []
  | n + 1 => setsC F n ++ [.int .u64 (wd (F n) 0 : Nat), .int .u64 (wd (F n) 1 : Nat), .int .u64 (wd (F n) 2 : Nat), .int .u64 (wd (F n) 3 : Nat)]
theorem setsC_length (F : Nat → Nat → Bool) : ∀ n, (setsC F n).length = n * 4
  | 0 => rfl
  | n + 1 => by
    unfold setsC
    rw [List.length_append, setsC_length F n]
    simp only [List.length_cons, List.length_nil]
    omega
theorem setsC_get (F : Nat → Nat → Bool) : ∀ n i j, i < n → j < 4 → (setsC F n)[i * 4 + j]? = some (.int .u64 (wd (F i) j : Nat))
  | n + 1, i, j, hi, hj => by
    unfold setsC
    rcases Nat.lt_or_ge i n with h | h
    · rw [List.getElem?_append_left (by rw [setsC_length]; omega)]
      exact setsC_get F n i j h hj
    · obtain rfl : i = n := by omega
      rw [List.getElem?_append_right (by rw [setsC_length]; omega), setsC_length, show i * 4 + j - i * 4 = j by omega]
      match j, hj with
      | 0, _ => rfl
      | 1, _ => rfl
      | 2, _ => rfl
      | 3, _ => rfl
theorem owns_sets {w : World} {B n : Nat} {A : Option Addr} {C : Nat} {F : Nat → Nat → Bool} (h : w.ownsRow B 24 4 (.slice A n C) n (setsC F n)) : Sets w A n F := by
  rcases Nat.eq_zero_or_pos n with h0 | h0
  · exact .inl h0
  · obtain ⟨g, C', e, _⟩ := owns_cellS h (setsC_get F n 0 0 h0 (by omega))
    cases e
    refine .inr ⟨g, 0, rfl, fun i hi j hj => ?_⟩
    obtain ⟨g1, C1, e1, c1, _⟩ := owns_cellS h (setsC_get F n i j hi hj)
    cases e1
    rw [Nat.zero_add]
    exact c1
theorem info_set : (Tryd.prog.info? 24).map (fun i => (i.zero, i.size, i.bytes)) = some (some (.agg #[.int .u64 0, .int .u64 0, .int .u64 0, .int .u64 0]), 4, 32) := by kernel_rfl
theorem box_news {w : World} {g : Nat} {S : Nat → Bool} (h : SBox w g S) : ∀ j u, [Value.int .u64 (wd S 0 : Nat), .int .u64 (wd S 1 : Nat), .int .u64 (wd S 2 : Nat), .int .u64 (wd S 3 : Nat)][j]? = some u → w.cell? ((⟨g, 0, none⟩ : Addr).add j) = some u := by
  intro j u hj
  have hlt : j < 4 := (List.getElem?_eq_some_iff.1 hj).1
  have e : (⟨g, 0, none⟩ : Addr).add j = ⟨g, j, none⟩ := by
    unfold Addr.add
    split
    · rename_i e; rw [e]
    · simp
  rw [e, h.cell j hlt]
  match j, hlt with
  | 0, _ => simpa using hj
  | 1, _ => simpa using hj
  | 2, _ => simpa using hj
  | 3, _ => simpa using hj
end Go.Proofs.YtmnjicpgdhnimaaDoor
