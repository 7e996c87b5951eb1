/-
  What right things' bytes are, and what is got of them.
-/
import Derived.Test.YtpnphijfdcimlaaPuts
namespace Go.Proofs.Ytpnphijfdcimlaa
open Go.RowKit

theorem Things.ok {w : World} {a : Option Addr} {n : Nat} {T : Nat → Thg} (h : Things w a n T) (i : Nat) (hi : i < n) : (T i).Ok w := by
  obtain ⟨_, _, _, _, hok⟩ := h.cells i hi
  exact hok
/-- A right thing's bytes. -/
def encT (T : Thg) : List Nat :=
  if pickN T.K 4 = 0 then encN T.N.toNat else if pickN T.K 4 = 1 then fixB (u32N T.N) else if pickN T.K 4 = 2 then encN T.B.length ++ T.B else encN T.lR ++ gp T.R 0 T.lR
theorem putThg_right (xs : List Nat) (T : Thg) (h : Right T) (hB : T.B.length ≤ 1099511627776) (hR : T.lR ≤ 1099511627776) : putThg (some xs) T = some (xs ++ encT T) := by
  unfold putThg encT
  obtain ⟨h0, h1, h2⟩ := h
  have hm : (maxNum : Int) = 1099511627776 := rfl
  split
  · rw [putNum_ok _ _ h0 (by omega)]; rfl
  · split
    · rfl
    · split
      · unfold putText
        rw [putNum_ok _ _ (by omega) (by omega), putRaw_snoc]
        rfl
      · unfold putRising
        rw [putNum_ok _ _ (by omega) (by omega)]
        show putRow (some (xs ++ encN ((T.lR : Nat) : Int).toNat)) T.R T.lR = _
        rw [putRow_rises _ _ _ h2, List.append_assoc]; rfl
/-- The bytes of m things from the i-th on. -/
def encAll (T : Nat → Thg) : Nat → Nat → List Nat
  | _, 0 => []
  | i, m + 1 => encT (T i) ++ encAll T (i + 1) m
theorem encAll_snoc (T : Nat → Thg) : ∀ m i, encAll T i (m + 1) = encAll T i m ++ encT (T (i + m))
  | 0, i => by simp [encAll]
  | m + 1, i => by
    have h := encAll_snoc T m (i + 1)
    show encT _ ++ encAll T (i + 1) (m + 1) = (encT _ ++ encAll T (i + 1) m) ++ _
    rw [h, List.append_assoc, show i + 1 + m = i + (m + 1) from by omega]
theorem encAll_split (T : Nat → Thg) (i : Nat) : ∀ q, encAll T 0 (i + q) = encAll T 0 i ++ encAll T i q
  | 0 => by simp [encAll]
  | q + 1 => by
    rw [← Nat.add_assoc, encAll_snoc, encAll_split T i q, encAll_snoc, Nat.zero_add, List.append_assoc]
/-- A right thing's bytes are no more than it takes. -/
theorem encT_len (T : Thg) (h : Right T) (hB : T.B.length ≤ 1099511627776) (hR : T.lR ≤ 1099511627776) : (encT T).length ≤ 6 + T.B.length + 6 * T.lR := by
  have h1 := putThg_sz (some []) T
  rw [putThg_right [] T h hB hR] at h1
  simpa [szO] using h1
theorem encT_lt (T : Thg) (h : Right T) (hB : T.B.length ≤ 1099511627776) (hR : T.lR ≤ 1099511627776) (hb : ∀ x ∈ T.B, x < 256) : ∀ x ∈ encT T, x < 256 := by
  have h1 := putThg_by (some []) T (by intro b hb; cases hb) hb
  rw [putThg_right [] T h hB hR] at h1
  simpa [byO] using h1
theorem encAll_len (T : Nat → Thg) (n : Nat) (h : ∀ k, k < n → Right (T k) ∧ (T k).B.length ≤ 1099511627776 ∧ (T k).lR ≤ 1099511627776) : (encAll T 0 n).length ≤ 6 * n + 6 * bulk T n := by
  induction n with
  | zero => simp [encAll]
  | succ n ih =>
    have h1 := ih (fun k hk => h k (by omega))
    obtain ⟨a, b, c⟩ := h n (by omega)
    have h2 := encT_len (T n) a b c
    have e : bulk T (n + 1) = bulk T n + ((T n).B.length + (T n).lR) := rfl
    rw [encAll_snoc, List.length_append, Nat.zero_add, e]
    omega
theorem encAll_lt (T : Nat → Thg) (n : Nat) (h : ∀ k, k < n → Right (T k) ∧ (T k).B.length ≤ 1099511627776 ∧ (T k).lR ≤ 1099511627776 ∧ ∀ x ∈ (T k).B, x < 256) : ∀ x ∈ encAll T 0 n, x < 256 := by
  induction n with
  | zero => simp [encAll]
  | succ n ih =>
    rw [encAll_snoc, Nat.zero_add]
    intro x hx
    obtain ⟨a, b, c, d⟩ := h n (by omega)
    rcases List.mem_append.1 hx with hx | hx
    · exact ih (fun k hk => h k (by omega)) x hx
    · exact encT_lt (T n) a b c d x hx
/-- What is got. -/
theorem get0 (T : Thg) (rest : List Nat) (h : Right T) (hk : pickN T.K 4 = 0) : getNum T.N (some (encT T ++ rest)) = (T.N.toNat, some rest) := by
  unfold encT
  rw [if_pos hk]
  obtain ⟨h0, h1, h2⟩ := h
  exact getNum_put _ _ _ (by omega) (by unfold maxNum; omega)
theorem get1 (T : Thg) (rest : List Nat) (hk : pickN T.K 4 = 1) : getFix (some (encT T ++ rest)) = (u32N T.N, some rest) := by
  unfold encT
  rw [if_neg (by omega), if_pos hk]
  exact getFix_put _ _ (u32N_lt _)
theorem get2 (T : Thg) (rest : List Nat) (hB : T.B.length ≤ 1099511627776) (hk : pickN T.K 4 = 2) : getText T.B.length (some (encT T ++ rest)) = (T.B, some rest) := by
  unfold encT
  rw [if_neg (by omega), if_neg (by omega), if_pos hk, List.append_assoc]
  exact getText_put _ _ hB
theorem get3 (T : Thg) (rest : List Nat) (h : Right T) (hR : T.lR ≤ 1099511627776) (hk : pickN T.K 4 = 3) : getRising T.lR 1099511627776 (some (encT T ++ rest)) = ((List.range T.lR).map T.R, some rest) := by
  unfold encT
  rw [if_neg (by omega), if_neg (by omega), if_neg (by omega), List.append_assoc]
  exact getRising_put _ _ _ hR h.2.2
/-- A row of numbers that is owned. -/
theorem owns_ints {w : World} {B n : Nat} {v : Value} {L : List Int} (h : w.ownsRow B 3 1 v n (li L)) : n = L.length ∧ ∃ a cap, v = .slice a n cap ∧ n ≤ cap ∧ cap ≤ 9223372036854775807 ∧ Ints w a n (fun i => L.getD i 0) := by
  have hn : n = L.length := by have := h.1; rw [li_length] at this; omega
  refine ⟨hn, ?_⟩
  obtain ⟨_, ⟨hv, h0⟩ | ⟨g, cap, cur, hv, hB, hg, hnc, hcm, hcs, hx⟩⟩ := h
  · subst h0
    exact ⟨none, 0, hv, by omega, by omega, .inl rfl⟩
  · unfold maxLen at hcm
    refine ⟨_, cap, hv, hnc, hcm, .inr ⟨g, 0, rfl, fun i hi => ?_⟩⟩
    rw [Nat.zero_add, cell_of_row _ _ _ _ _ _ hg]
    have h1 : (li L)[i]? = some (.int .i64 (L.getD i 0)) := by simp [li, show i < L.length by omega]
    rw [← hx, List.getElem?_take_of_lt (by omega)] at h1
    simpa using h1
end Go.Proofs.Ytpnphijfdcimlaa
