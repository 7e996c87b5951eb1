/-
  A file with a burst that turns something is none.
-/
import Derived.Test.YtppdbinppibjhaaGreatDoorFMath
namespace Go.Proofs.YtppdbinppibjhaaGreatDoor

theorem turnN_none (b : Nat → Nat) (m a : Nat) : ∀ k, m % 2 ^ k = 0 → ∀ j, turnN b m a k j = b j
  | 0, _, _ => rfl
  | k + 1, h, j => by
    rw [mod_bit] at h
    have h1 : m % 2 ^ k = 0 := by omega
    have h2 : 2 ^ k * (m / 2 ^ k % 2) = 0 := by omega
    have h3 : m / 2 ^ k % 2 = 0 := by
      rcases Nat.mul_eq_zero.1 h2 with h | h
      · have := Nat.two_pow_pos k; omega
      · exact h
    rw [turnN_succ, if_neg (by rw [testBit_iff]; omega)]
    exact turnN_none b m a k h1 j
theorem fix_bytes (n i : Nat) (hi : i < 4) : (fixB n).getD i 0 = n / 256 ^ i % 256 := by
  match i, hi with
  | 0, _ => simp [fixB]
  | 1, _ => simp [fixB]
  | 2, _ => simp [fixB]
  | 3, _ => simp [fixB]
theorem whole_sum {L : List Nat} (hL : ∀ b ∈ L, b < 256) (h : wholeB L = true) : ∀ i, i < 4 → L.getD (L.length - 4 + i) 0 = sumN (fun i => L.getD i 0) (L.length - 4) / 256 ^ i % 256 := by
  intro i hi
  obtain ⟨h8, hm, h1, h2⟩ := wholeB_of h
  have e1 : fixB (getFix (some (L.drop (L.length - 4)))).1 = L.drop (L.length - 4) := fix_getFix _ (by simp; omega) (fun b hb => hL b (List.mem_of_mem_drop hb))
  have e2 : L.getD (L.length - 4 + i) 0 = (L.drop (L.length - 4)).getD i 0 := by simp [List.getD_eq_getElem?_getD, List.getElem?_drop]
  have e3 : crcL (L.take (L.length - 4)) = sumN (fun i => L.getD i 0) (L.length - 4) := by
    unfold crcL
    have : (L.take (L.length - 4)).length = L.length - 4 := by simp
    rw [this]
    refine sumN_congr _ _ _ (fun j hj => ?_)
    rw [List.getD_eq_getElem?_getD, List.getD_eq_getElem?_getD, List.getElem?_take_of_lt hj]
  rw [e2, ← e1, fix_bytes _ i hi, h2, e3]
theorem tx_same (L : List Nat) : tx (fun i => L.getD i 0) L.length = L := by
  apply List.ext_getElem?
  intro i
  by_cases h : i < L.length
  · simp [tx, h]
  · rw [List.getElem?_eq_none (by rw [tx_length]; omega), List.getElem?_eq_none (by omega)]
/-- A burst that turns something hurts. -/
theorem getFile_burst {L : List Nat} (hL : ∀ b ∈ L, b < 256) (h : wholeB L = true) (bit : Int) (m : Nat) (hne : burstL L bit m ≠ L) : getFile (burstL L bit m) = none := by
  have hlen := burstL_len L bit m
  have hz : ∀ j, L.getD j 0 < 256 := fun j => by
    rw [List.getD_eq_getElem?_getD]
    by_cases hj : j < L.length
    · rw [List.getElem?_eq_getElem hj]; exact hL _ (List.getElem_mem hj)
    · rw [List.getElem?_eq_none (by omega)]; simp
  have h8 := (wholeB_of h).1
  unfold getFile
  rw [if_neg]
  intro hw
  have hs0 := whole_sum hL h
  by_cases hb : bit < 0
  · exact hne (by unfold burstL; rw [if_pos hb])
  · obtain ⟨z', hz'⟩ : ∃ z', turnN (fun i => L.getD i 0) m bit.toNat (min 32 (8 * L.length - bit.toNat)) = z' := ⟨_, rfl⟩
    have hx : burstL L bit m = tx z' L.length := by unfold burstL; rw [if_neg hb, hz']
    have hzl : ∀ j, z' j < 256 := fun j => by rw [← hz']; exact turnN_lt _ _ _ hz _ j
    have hs1 := whole_sum (L := burstL L bit m) (fun b hb => by
      rw [hx] at hb
      simp only [tx, List.mem_map] at hb
      obtain ⟨i, _, rfl⟩ := hb
      exact hzl i) hw
    rw [hlen, hx] at hs1
    obtain ⟨n, hn⟩ : ∃ n, L.length = n + 4 := ⟨L.length - 4, by omega⟩
    have hs2 : ∀ i, i < 4 → z' (n + i) = sumN z' n / 256 ^ i % 256 := fun i hi => by
      have := hs1 i hi
      rw [hn, Nat.add_sub_cancel, tx_get _ _ _ (by omega)] at this
      rw [this]
      congr 2
      exact sumN_congr _ _ _ (fun j hj => tx_get _ _ _ (by omega))
    rw [hn, Nat.add_sub_cancel] at hs0
    by_cases hm : m % 2 ^ (min 32 (8 * L.length - bit.toNat)) = 0
    · refine hne ?_
      rw [hx, ← hz', show turnN (fun i => L.getD i 0) m bit.toNat (min 32 (8 * L.length - bit.toNat)) = (fun i => L.getD i 0) from funext (turnN_none _ _ _ _ hm)]
      exact tx_same L
    · by_cases hr : bit.toNat ≤ 8 * L.length
      · refine burst_safe (fun i => L.getD i 0) m bit.toNat (min 32 (8 * L.length - bit.toNat)) n (Nat.min_le_left _ _) ?_ (by omega) hs0 ?_
        · have := Nat.min_le_right 32 (8 * L.length - bit.toNat); omega
        · rw [hz']; exact hs2
      · have e : min 32 (8 * L.length - bit.toNat) = 0 := by omega
        rw [e] at hm
        simp [Nat.mod_one] at hm
end Go.Proofs.YtppdbinppibjhaaGreatDoor
