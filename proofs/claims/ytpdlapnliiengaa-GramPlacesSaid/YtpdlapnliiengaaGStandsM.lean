/-
  Where a text stands: by its grams, by its bytes.
-/
import Derived.Test.YtpdlapnliiengaaGRun
import Derived.Shelf.Bytes.SlSmallAll
import Derived.Lib.Strings
namespace Go.Proofs.Ytpdlapnliiengaa
open Go.RowKit Go.Shelf

/-- A gram's text. -/
def gts (g : Nat) : ByteArray := strOfNums ((gd g).map fun x : Nat => (x : Int))
theorem gtx_eq (g : Nat) : gtx g = .string (gts g) := rfl
theorem gts_data (g : Nat) : (gts g).data.toList = [UInt8.ofNat (g / 65536), UInt8.ofNat (g / 256 % 256), UInt8.ofNat (g % 256)] := rfl
theorem gts_inj {a b : Nat} (ha : Okg a) (hb : Okg b) (h : gts a = gts b) : a = b := by
  have e : (gts a).data.toList = (gts b).data.toList := by rw [h]
  rw [gts_data, gts_data] at e
  simp only [List.cons.injEq, and_true] at e
  obtain ⟨e1, e2, e3⟩ := e
  unfold Okg at ha hb
  have f1 := congrArg UInt8.toNat e1
  have f2 := congrArg UInt8.toNat e2
  have f3 := congrArg UInt8.toNat e3
  rw [UInt8.toNat_ofNat', UInt8.toNat_ofNat'] at f1 f2 f3
  have := Nat.div_div_eq_div_mul a 256 256
  have := Nat.div_div_eq_div_mul b 256 256
  omega
theorem gts_beq {a b : Nat} (ha : Okg a) (hb : Okg b) : ((gts a).toList == (gts b).toList) = decide (a = b) := by
  rw [Lib.toList_data, Lib.toList_data, Bool.eq_iff_iff, beq_iff_eq, decide_eq_true_eq]
  constructor
  · intro h
    exact gts_inj ha hb (ByteArray.ext (Array.toList_inj.1 h))
  · rintro rfl; rfl
theorem gN_eq {z y : Nat → Nat} (hz : ∀ i, z i < 256) (hy : ∀ i, y i < 256) (i j : Nat) : gN z i = gN y j ↔ z i = y j ∧ z (i + 1) = y (j + 1) ∧ z (i + 2) = y (j + 2) := by
  unfold gN
  have h1 := hz i
  have h2 := hz (i + 1)
  have h3 := hz (i + 2)
  have k1 := hy j
  have k2 := hy (j + 1)
  have k3 := hy (j + 2)
  omega
/-- Do the first k grams stand one behind the other from i on? -/
def soB (z y : Nat → Nat) (n i k : Nat) : Bool := decide (∀ j, j < k → i + j + 2 < n ∧ gN z (i + j) = gN y j)
theorem soB_succ (z y : Nat → Nat) (n i k : Nat) : soB z y n i (k + 1) = (soB z y n i k && decide (i + k + 2 < n ∧ gN z (i + k) = gN y k)) := by
  unfold soB
  rw [Bool.eq_iff_iff, Bool.and_eq_true, decide_eq_true_eq, decide_eq_true_eq, decide_eq_true_eq]
  constructor
  · intro h
    exact ⟨fun j hj => h j (by omega), h k (by omega)⟩
  · rintro ⟨h1, h2⟩ j hj
    rcases Nat.lt_or_ge j k with h | h
    · exact h1 j h
    · obtain rfl : j = k := by omega
      exact h2
theorem bytesOf_range (z : Nat → Nat) (n : Nat) : Lib.bytesOf ((List.range n).map fun j => ((z j : Nat) : Int)) = (List.range n).map fun j => UInt8.ofNat (z j) := by
  simp [Lib.bytesOf]
theorem pre_iff {z y : Nat → Nat} (hz : ∀ i, z i < 256) (hy : ∀ i, y i < 256) (n m : Nat) :
    Lib.hasPrefix (Lib.bytesOf ((List.range n).map fun j => ((z j : Nat) : Int))) (Lib.bytesOf ((List.range m).map fun j => ((y j : Nat) : Int))) = true ↔ m ≤ n ∧ ∀ j, j < m → z j = y j := by
  rw [bytesOf_range, bytesOf_range]
  unfold Lib.hasPrefix
  rw [List.isPrefixOf_iff_prefix, List.prefix_iff_eq_take]
  constructor
  · intro h
    have hl := congrArg List.length h
    simp only [List.length_map, List.length_range, List.length_take] at hl
    refine ⟨by omega, fun j hj => ?_⟩
    have hj2 := congrArg (fun l => l[j]?) h
    simp only [List.length_map, List.length_range] at hj2
    rw [List.getElem?_take_of_lt hj, List.getElem?_map, List.getElem?_map, List.getElem?_range hj, List.getElem?_range (by omega)] at hj2
    have f := congrArg UInt8.toNat (Option.some.inj hj2)
    rw [UInt8.toNat_ofNat', UInt8.toNat_ofNat'] at f
    have := hz j
    have := hy j
    omega
  · rintro ⟨h1, h2⟩
    apply List.ext_getElem?
    intro j
    simp only [List.length_map, List.length_range]
    by_cases hj : j < m
    · rw [List.getElem?_take_of_lt hj, List.getElem?_map, List.getElem?_map, List.getElem?_range hj, List.getElem?_range (by omega)]
      simp [h2 j hj]
    · rw [List.getElem?_eq_none (by simp; omega), List.getElem?_eq_none (by simp; omega)]
theorem so_prefix {z y : Nat → Nat} (hz : ∀ i, z i < 256) (hy : ∀ i, y i < 256) (n i s : Nat) (hs : 3 ≤ s) (hi : i ≤ n) :
    soB z y n i (s - 2) = Lib.hasPrefix (Lib.bytesOf ((List.range (n - i)).map fun j => ((z (i + j) : Nat) : Int))) (Lib.bytesOf ((List.range s).map fun j => ((y j : Nat) : Int))) := by
  rw [Bool.eq_iff_iff, pre_iff (z := fun j => z (i + j)) (fun j => hz _) hy]
  unfold soB
  rw [decide_eq_true_eq]
  constructor
  · intro h
    have h0 := h (s - 3) (by omega)
    refine ⟨by omega, fun j hj => ?_⟩
    rcases Nat.lt_or_ge j (s - 2) with hlt | hge
    · exact ((gN_eq hz hy _ _).1 (h j hlt).2).1
    · obtain ⟨_, h2, h3⟩ := (gN_eq hz hy _ _).1 h0.2
      rcases (by omega : j = s - 3 + 1 ∨ j = s - 3 + 2) with rfl | rfl
      · rw [← h2, Nat.add_assoc]
      · rw [← h3, Nat.add_assoc]
  · rintro ⟨h1, h2⟩ j hj
    refine ⟨by omega, (gN_eq hz hy _ _).2 ⟨h2 j (by omega), ?_, ?_⟩⟩
    · have := h2 (j + 1) (by omega)
      rwa [← Nat.add_assoc] at this
    · have := h2 (j + 2) (by omega)
      rwa [← Nat.add_assoc] at this
end Go.Proofs.Ytpdlapnliiengaa
