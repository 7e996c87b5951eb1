/-
  The reference's Sum of parts.
-/
import Derived.Test.YtdcpgoijjnkjaaaTellsR
namespace Go.Proofs.Ytdcpgoijjnkjaaa
open Go.RowKit

def totN (l : Nat → Nat) : Nat → Nat
  | 0 => 0
  | n + 1 => totN l n + l n
/-- Rows, one behind the other. -/
def catN (l : Nat → Nat) (z : Nat → Nat → Nat) : Nat → Nat → Nat
  | 0 => fun _ => 0
  | n + 1 => fun i => if i < totN l n then catN l z n i else z n (i - totN l n)
theorem catN_lt (l : Nat → Nat) (z : Nat → Nat → Nat) (hz : ∀ j i, z j i < 256) : ∀ n i, catN l z n i < 256
  | 0, _ => by show 0 < 256; omega
  | n + 1, i => by
    show (if i < totN l n then catN l z n i else z n (i - totN l n)) < 256
    split
    · exact catN_lt l z hz n i
    · exact hz _ _
theorem catN_upd (s : Nat) (l : Nat → Nat) (z : Nat → Nat → Nat) : ∀ n, updN s (catN l z n) (totN l n) = allN s l z n
  | 0 => rfl
  | n + 1 => by
    show updN s (catN l z (n + 1)) (totN l n + l n) = updN (allN s l z n) (z n) (l n)
    rw [updN_add, ← catN_upd s l z n]
    have e1 : updN s (catN l z (n + 1)) (totN l n) = updN s (catN l z n) (totN l n) := updN_congr _ _ _ _ (fun i hi => by
      show (if i < totN l n then catN l z n i else z n (i - totN l n)) = _
      rw [if_pos hi])
    rw [e1]
    apply updN_congr
    intro i _
    show (if totN l n + i < totN l n then catN l z n (totN l n + i) else z n (totN l n + i - totN l n)) = _
    rw [if_neg (by omega), Nat.add_sub_cancel_left]
theorem cellsOf_add (f : Nat → Nat) (a b : Nat) : cellsOf f (a + b) = cellsOf f a ++ cellsOf (fun i => f (a + i)) b := by
  simp [cellsOf, List.range_add]
theorem cellsOf_congr (f g : Nat → Nat) (n : Nat) (h : ∀ i, i < n → f i = g i) : cellsOf f n = cellsOf g n := by
  unfold cellsOf
  apply List.map_congr_left
  intro i hi
  rw [h i (List.mem_range.1 hi)]
theorem catN_cells (l : Nat → Nat) (z : Nat → Nat → Nat) (n : Nat) : cellsOf (catN l z n) (totN l n) ++ cellsOf (z n) (l n) = cellsOf (catN l z (n + 1)) (totN l (n + 1)) := by
  show _ = cellsOf (catN l z (n + 1)) (totN l n + l n)
  rw [cellsOf_add]
  congr 1
  · apply cellsOf_congr
    intro i hi
    show _ = (if i < totN l n then catN l z n i else z n (i - totN l n))
    rw [if_pos hi]
  · apply cellsOf_congr
    intro i _
    show _ = (if totN l n + i < totN l n then catN l z n (totN l n + i) else z n (totN l n + i - totN l n))
    rw [if_neg (by omega), Nat.add_sub_cancel_left]
theorem totN_mono (l : Nat → Nat) {m n : Nat} (h : m ≤ n) : totN l m ≤ totN l n := by
  induction h with
  | refl => exact Nat.le_refl _
  | step _ ih => exact Nat.le_trans ih (Nat.le_add_right _ _)

set_option maxHeartbeats 1000000 in
theorem refSum_any (a : Option Addr) (n cap : Nat) (p : Nat → Option Addr) (l c : Nat → Nat) (z : Nat → Nat → Nat) (w : World) (hn : n ≤ 20000) (ht : totN l n ≤ 20000) (hz : ∀ j i, z j i < 256) (hP : InRows w a n p l c z) :
    Calls Try.prog 12 #[.slice a n cap] w fun e w' => e = .returned (.int .u32 (sumAll l z n : Nat)) ∧ Below w.heap.size w w' := by
  obtain ⟨i0, hi, hq0, hq1, hq2⟩ := info_parts info_u8
  go_enter Try.func12, Try.ntmps12
  go_wp2
  go_loopg [3, 4] n (fun g s3 s4 wr => ∃ k : Nat, k + g = n ∧ s4 = .int .i64 k ∧ wr.ownsRow w.heap.size 5 1 s3 (totN l k) (cellsOf (catN l z k) (totN l k)) ∧ Below w.heap.size w wr)
  case atStart => exact ⟨0, by omega, rfl, World.ownsRow_nil _ _ _ _, Below.refl _ _⟩
  case round =>
    obtain ⟨k, hkg, rfl, hrow, hbr⟩ := hrel
    obtain ⟨A, C, rfl, hAC, hCm, _, hbyt⟩ := owns_byt hrow (catN_lt l z hz k)
    cases gk with
    | zero =>
      have hkz : ¬ ((k : Int) < (n : Int)) := by omega
      obtain rfl : k = n := by omega
      have hsum : goN 0 (catN l z k) (totN l k) = sumAll l z k := by
        unfold goN sumAll
        rw [catN_upd]
      have hup := refUpdate_any 0 A (totN l k) C (catN l z k) wr (by omega) (by omega) hbyt
      rw [hsum] at hup
      go_wp2_with fail
      refine hup.mono ?_
      rintro e w1 ⟨rfl, rfl⟩
      go_wp2
      go_ret
      exact ⟨rfl, hbr⟩
    | succ g =>
      have hkz : (k : Int) < (n : Int) := by omega
      have htk : totN l (k + 1) ≤ 20000 := Nat.le_trans (totN_mono l (by omega)) ht
      have htk' : totN l k + l k ≤ 20000 := htk
      obtain ⟨b, off, rfl, hcell, hlc, hnone, hbz⟩ : ∃ b off, a = some ⟨b, off, none⟩ ∧ w.cell? ⟨b, off + k, none⟩ = some (.slice (p k) (l k) (c k)) ∧ l k ≤ c k ∧ (p k = none → c k = 0) ∧ Byt w (p k) (l k) (z k) := by
        rcases hP with h | ⟨b, off, h, hc⟩
        · omega
        · exact ⟨b, off, h, (hc k (by omega)).1, (hc k (by omega)).2.1, (hc k (by omega)).2.2.2.1, (hc k (by omega)).2.2.2.2⟩
      have hc2 := cell_thru hcell hbr
      have hbz2 := hbz.below hbr
      have hcat := catN_cells l z k
      clear hcell
      cases hp : p k with
      | none =>
        have hck := hnone hp
        have hlk : l k = 0 := by omega
        rw [hp, hck, hlk] at hc2
        have htt : totN l (k + 1) = totN l k := by show totN l k + l k = _; omega
        rw [htt, hlk] at hcat
        have hcat' : cellsOf (catN l z (k + 1)) (totN l k) = cellsOf (catN l z k) (totN l k) := by
          rw [← hcat]; simp [cellsOf]
        clear hcat hp hck hlk hnone
        go_wp2_with (at_builtin; go_must (refine wpList_append_own_none rfl (.tmp 11) (.tmp 15) 24 rfl w.heap.size 5 i0 1 Try.underlying24 hi _ _ _ rfl hrow rfl ?_))
        go_roundg g
        case measure => omega
        case rel => exact ⟨k + 1, by omega, by go_num, by rw [htt, hcat']; exact hrow, hbr⟩
      | some ad =>
        rw [hp] at hc2 hbz2
        have hsrc : ∀ j u, (cellsOf (z k) (l k))[j]? = some u → wr.cell? (ad.add j) = some u := by
          rcases hbz2.2 with h | ⟨b', off', h, hcc⟩
          · intro j u hj
            rw [h] at hj
            simp [cellsOf] at hj
          · cases h
            exact cellsOf_news hcc
        have hlen := cellsOf_length (z k) (l k)
        have hone := cellsOf_one (z k) (l k)
        clear hp hnone
        go_wp2_with (at_builtin; go_must (refine wpList_append_own _ rfl (.tmp 11) (.tmp 15) 24 rfl w.heap.size 5 i0 (.int .u8 0) 1 1 Try.underlying24 hi hq0 hq1 hq2 rfl (by decide) _ _ _ rfl hrow ad (l k) (c k) (cellsOf (z k) (l k)) rfl (by omega) hsrc hone (by unfold maxLen; omega) (by omega) hbr.size ?_); intro v' w2 hown' hgrow _)
        rw [hcat] at hown'
        have hbw2 : Below w.heap.size w w2 := hbr.grown hgrow hbr.size (fun r e => (hrow.lt r e).1)
        clear hgrow hsrc hone hlen hcat
        go_roundg g
        case measure => omega
        case rel => exact ⟨k + 1, by omega, by go_num, hown', hbw2⟩
end Go.Proofs.Ytdcpgoijjnkjaaa
