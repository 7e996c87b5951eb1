/-
  Sums of rows of one length are linear; small laws that carry facts over worlds; contracts of crc.Sum, crc.Update in the forms that CrcParts asks for.
-/
import Derived.Test.YtdcpgoijjnkjaaaRow
namespace Go.Proofs.Ytdcpgoijjnkjaaa
open Go.RowKit

theorem notN_xor (s : Nat) (hs : s < 4294967296) : 4294967295 ^^^ s = notN s := by
  have h1 := (BitVec.ofNat 32 s).toNat_not
  have h2 : (4294967295 : Nat) ^^^ s = (BitVec.allOnes 32 ^^^ BitVec.ofNat 32 s).toNat := by
    rw [BitVec.toNat_xor]; simp [Nat.mod_eq_of_lt hs]
  rw [h2, BitVec.allOnes_xor, h1]
  simp [notN, Nat.mod_eq_of_lt hs]
theorem xor_three (f a b c : Nat) : f ^^^ (a ^^^ b ^^^ c) = (f ^^^ a) ^^^ (f ^^^ b) ^^^ (f ^^^ c) := by
  apply Nat.eq_of_testBit_eq
  intro i
  simp only [Nat.testBit_xor]
  cases f.testBit i <;> cases a.testBit i <;> cases b.testBit i <;> cases c.testBit i <;> rfl
/-- Sums of rows of one length are linear. -/
theorem sum_linear (z y : Nat → Nat) (n : Nat) : sumN (fun i => z i ^^^ y i) n = sumN z n ^^^ sumN y n ^^^ sumN (fun _ => 0) n := by
  unfold sumN goN
  have hf : notN 0 = notN 0 ^^^ notN 0 ^^^ notN 0 := by rw [Nat.xor_self, Nat.zero_xor]
  have e : updN (notN 0) (fun i => z i ^^^ y i) n = updN (notN 0) z n ^^^ updN (notN 0) y n ^^^ updN (notN 0) (fun _ => 0) n := by
    rw [← updN_xor, ← updN_xor, ← hf]
    congr 1
    funext i
    rw [Nat.xor_zero]
  have l1 := updN_lt (notN 0) z (notN_lt _) n
  have l2 := updN_lt (notN 0) y (notN_lt _) n
  have l3 := updN_lt (notN 0) (fun _ => 0) (notN_lt _) n
  have l4 := updN_lt (notN 0) (fun i => z i ^^^ y i) (notN_lt _) n
  rw [← notN_xor _ l4, ← notN_xor _ l1, ← notN_xor _ l2, ← notN_xor _ l3, e, xor_three]
theorem sum_linear_bits (z y : Nat → Nat) (n : Nat) :
    bits BinOp.xor IntKind.u32 ((sumN z n : Nat) : Int) ((sumN y n : Nat) : Int) = ((sumN z n ^^^ sumN y n : Nat) : Int) ∧
    bits BinOp.xor IntKind.u32 ((sumN z n ^^^ sumN y n : Nat) : Int) ((sumN (fun _ => 0) n : Nat) : Int) = ((sumN (fun i => z i ^^^ y i) n : Nat) : Int) := by
  have h1 := u32_xor_nat _ _ (sumN_lt z n) (sumN_lt y n)
  have h2 := u32_xor_nat _ _ (Nat.xor_lt_two_pow (n := 32) (sumN_lt z n) (sumN_lt y n)) (sumN_lt (fun _ => 0) n)
  exact ⟨h1, by rw [h2, ← sum_linear]⟩

/-! ### What is carried over worlds -/
theorem cell_thru {w w' : World} {p : Addr} {v : Value} (h : w.cell? p = some v) (hb : Below w.heap.size w w') : w'.cell? p = some v := (hb.cell (block_lt_of_cell h)).trans h
theorem cell_drew {w : World} {p : Addr} {v : Value} (h : w.cell? p = some v) : w.drew.cell? p = some v := h
theorem cell_at1 {w : World} {g : Nat} {v : Value} {t : TypeId} (hg : g = w.heap.size) : (w.alloc (.cells #[v] t)).cell? ⟨g, 0, none⟩ = some v := by
  subst hg; exact (cell_new_l w v t).1
theorem cell_at20 {w : World} {g : Nat} {v u : Value} {t : TypeId} (hg : g = w.heap.size) : (w.alloc (.cells #[v, u] t)).cell? ⟨g, 0, none⟩ = some v := by
  subst hg; rw [cell_of_row _ _ _ _ _ _ (heap_alloc_new _ _)]; rfl
theorem cell_at21 {w : World} {g : Nat} {v u : Value} {t : TypeId} (hg : g = w.heap.size) : (w.alloc (.cells #[v, u] t)).cell? ⟨g, 1, none⟩ = some u := by
  subst hg; rw [cell_of_row _ _ _ _ _ _ (heap_alloc_new _ _)]; rfl
theorem below_thru {w W W' : World} (h : Below w.heap.size w W) (hb : Below W.heap.size W W') : Below w.heap.size w W' := h.trans (hb.mono h.size)
theorem below_step {w W : World} (h : Below w.heap.size w W) (o : Obj) : Below w.heap.size w (W.alloc o) := h.alloc h.size o

/-- The sum of two parts of a row. -/
theorem sum_split (g : Nat) (a a' : Option Addr) (k len cap cap' : Nat) (z : Nat → Nat) (w : World) (hk : k ≤ len) (hl : k ≤ cap) (hl' : len - k ≤ cap') (hm : cap ≤ 9223372036854775807) (hm' : cap' ≤ 9223372036854775807)
    (h0 : w.cell? ⟨g, 0, none⟩ = some (.slice a k cap)) (h1 : w.cell? ⟨g, 1, none⟩ = some (.slice a' (len - k) cap')) (hz : Byt w a k z) (hz' : Byt w a' (len - k) (fun i => z (k + i))) :
    Calls Try.prog 11 #[.slice (some ⟨g, 0, none⟩) 2 2] w fun e w' => e = .returned (.int .u32 (sumN z len : Nat)) ∧ Below w.heap.size w w' := by
  have h := sum_any (some ⟨g, 0, none⟩) 2 2 (fun j => if j = 0 then a else a') (fun j => if j = 0 then k else len - k) (fun j => if j = 0 then cap else cap') (fun j => if j = 0 then z else fun i => z (k + i)) w (by omega)
    (.inr ⟨g, 0, rfl, fun j hj => by
      match j, hj with
      | 0, _ => exact ⟨h0, hl, hm, hz⟩
      | 1, _ => exact ⟨h1, hl', hm', hz'⟩⟩)
  have e : sumAll (fun j => if j = 0 then k else len - k) (fun j => if j = 0 then z else fun i => z (k + i)) 2 = sumN z len := by
    show notN (updN (updN (notN 0) z k) (fun i => z (k + i)) (len - k)) = notN (updN (notN 0) z len)
    rw [← updN_add, show k + (len - k) = len from by omega]
  rw [e] at h
  exact h
/-- A sum gone on by the rest of a row. -/
theorem update_rest (a' : Option Addr) (k len cap' : Nat) (z : Nat → Nat) (w : World) (hk : k ≤ len) (hl' : len - k ≤ cap') (hm' : cap' ≤ 9223372036854775807) (hz' : Byt w a' (len - k) (fun i => z (k + i))) :
    Calls Try.prog 9 #[.int .u32 (sumN z k : Nat), .slice a' (len - k) cap'] w fun e w' => e = .returned (.int .u32 (sumN z len : Nat)) ∧ Below w.heap.size w w' := by
  have h := update_any (sumN z k) a' (len - k) cap' (fun i => z (k + i)) w (sumN_lt _ _) hl' hm' hz'
  have e : goN (sumN z k) (fun i => z (k + i)) (len - k) = sumN z len := by
    unfold sumN
    rw [goN_goN, show k + (len - k) = len from by omega]
  rw [e] at h
  exact h
end Go.Proofs.Ytdcpgoijjnkjaaa
