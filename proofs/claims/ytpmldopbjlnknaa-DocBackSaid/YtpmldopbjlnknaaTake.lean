/-
  crc.take, crc.Sum, crc.Update: parts of bytes taken, bit by bit first, by a table then.
-/
import Derived.Test.YtpmldopbjlnknaaMem
import Derived.Deep.LoopGhost
import Derived.WalkMore
namespace Go.Proofs.Ytpmldopbjlnknaa
open Go.RowKit

/-- A slice of n slices at a: the j-th lies at p j, is l j long, and holds the bytes z j. -/
def Parts (w : World) (a : Option Addr) (n : Nat) (p : Nat → Option Addr) (l c : Nat → Nat) (z : Nat → Nat → Nat) : Prop :=
  n = 0 ∨ ∃ b off, a = some ⟨b, off, none⟩ ∧ ∀ j, j < n → w.cell? ⟨b, off + j, none⟩ = some (.slice (p j) (l j) (c j)) ∧ l j ≤ c j ∧ c j ≤ 9223372036854775807 ∧ Byt w (p j) (l j) (z j)
theorem Parts.below {w w' : World} {a : Option Addr} {n : Nat} {p : Nat → Option Addr} {l c : Nat → Nat} {z : Nat → Nat → Nat} (h : Parts w a n p l c z) (hb : Below w.heap.size w w') : Parts w' a n p l c z := by
  rcases h with h | ⟨b, off, rfl, hc⟩
  · exact .inl h
  · exact .inr ⟨b, off, rfl, fun j hj => ⟨(hb.cell (p := ⟨b, off + j, none⟩) (block_lt_of_cell (hc j hj).1)).trans (hc j hj).1, (hc j hj).2.1, (hc j hj).2.2.1, (hc j hj).2.2.2.below hb⟩⟩
/-- The parts taken, one behind the other. -/
def allN (s : Nat) (l : Nat → Nat) (z : Nat → Nat → Nat) : Nat → Nat
  | 0 => s
  | n + 1 => updN (allN s l z n) (z n) (l n)
theorem allN_lt (s : Nat) (l : Nat → Nat) (z : Nat → Nat → Nat) (h : s < 4294967296) : ∀ n, allN s l z n < 4294967296
  | 0 => h
  | n + 1 => updN_lt _ _ (allN_lt s l z h n) _

/-- What is known of the table's pointer: it is nil, or leads to a table that was made behind B. -/
def TabAt (B : Nat) (w : World) (t : Value) : Prop :=
  t = .pointer none ∨ ∃ b, t = .pointer (some ⟨b, 0, none⟩) ∧ B ≤ b ∧ w.heap[b]? = some (.cells (tabArr 256) 134 (0, 0))
theorem TabAt.below {B : Nat} {w w' : World} {t : Value} (h : TabAt B w t) (hb : Below w.heap.size w w') : TabAt B w' t := by
  rcases h with h | ⟨b, rfl, h1, h2⟩
  · exact .inl h
  · exact .inr ⟨b, rfl, h1, (hb.block b (block_lt h2)).trans h2⟩

theorem orTable_any (B : Nat) (t : Value) (w : World) (hB : B ≤ w.heap.size) (h : TabAt B w t) :
    Calls Try.prog 79 #[t] w fun e w' => ∃ b, e = .returned (.pointer (some ⟨b, 0, none⟩)) ∧ B ≤ b ∧ w'.heap[b]? = some (.cells (tabArr 256) 134 (0, 0)) ∧ Below w.heap.size w w' := by
  rcases h with rfl | ⟨b, rfl, h1, h2⟩
  · exact (orTable_nil w).mono fun e w' ⟨b, he, hb, h, hw⟩ => ⟨b, he, Nat.le_trans hB hb, h, hw⟩
  · exact (orTable_some b w).mono fun e w' ⟨he, hw⟩ => ⟨b, he, h1, by rw [← hw]; exact h2, by rw [← hw]; exact Below.refl _ _⟩

set_option maxRecDepth 100000 in
set_option maxHeartbeats 1000000 in
theorem take_any (s : Nat) (a : Option Addr) (n cap : Nat) (p : Nat → Option Addr) (l c : Nat → Nat) (z : Nat → Nat → Nat) (w : World) (hs : s < 4294967296) (hn : n ≤ 9223372036854775807) (hP : Parts w a n p l c z) :
    Calls Try.prog 57 #[.int .u32 s, .slice a n cap] w fun e w' => e = .returned (.int .u32 (allN s l z n : Nat)) ∧ Below w.heap.size w w' := by
  go_enter Try.func57, Try.ntmps57
  go_wp2
  go_step3
  go_wp2
  go_step3
  go_wp2
  go_loopg [0, 5, 6, 13] n (fun g s0 s5 s6 s13 wx => ∃ (j L : Nat), j + g = n ∧ s13 = .int .i64 j ∧ s0 = .int .u32 (allN s l z j : Nat) ∧ L ≤ 256 ∧ s6 = .int .i64 L ∧ TabAt w.heap.size wx s5 ∧ Below w.heap.size w wx)
  case atStart => exact ⟨0, 256, by omega, rfl, rfl, by omega, rfl, .inl rfl, Below.refl _ _⟩
  case round =>
    obtain ⟨j, L, hjg, rfl, rfl, hL, rfl, hT, hB⟩ := hrel
    cases gk with
    | zero =>
      have hjz : ¬ ((j : Int) < (n : Int)) := by omega
      obtain rfl : j = n := by omega
      go_wp2
      try rw [Exit.noGoto_ret]
      go_ret
      exact ⟨rfl, hB⟩
    | succ g =>
      have hjz : (j : Int) < (n : Int) := by omega
      obtain ⟨b, off, rfl, hc⟩ : ∃ b off, a = some ⟨b, off, none⟩ ∧ ∀ j, j < n → w.cell? ⟨b, off + j, none⟩ = some (.slice (p j) (l j) (c j)) ∧ l j ≤ c j ∧ c j ≤ 9223372036854775807 ∧ Byt w (p j) (l j) (z j) := by
        rcases hP with h | h
        · omega
        · exact h
      obtain ⟨hcell, hlc, hcm, hb8⟩ := hc j (by omega)
      have hcell' := (hB.cell (p := ⟨b, off + j, none⟩) (block_lt_of_cell hcell)).trans hcell
      have HE : Hid (allN s l z (j + 1) = updN (allN s l z j) (z j) (l j)) := rfl
      have hA := allN_lt s l z hs j
      clear hc hcell hP
      generalize allN s l z j = A at hA HE ⊢
      generalize p j = pj at hcell' hb8
      generalize l j = lj at hcell' hb8 hlc HE
      generalize c j = cj at hcell' hcm hlc
      generalize z j = zj at hb8 HE
      go_wp2
      obtain ⟨wo, rfl⟩ : ∃ wo : World, wo = wr := ⟨_, rfl⟩
      go_loopg [0, 5, 6, 19] lj (fun g2 s0 s5 s6 s19 wy => ∃ (i L : Nat), i + g2 = lj ∧ s19 = .int .i64 i ∧ s0 = .int .u32 (updN A zj i : Nat) ∧ L ≤ 256 ∧ s6 = .int .i64 L ∧ TabAt w.heap.size wy s5 ∧ Below w.heap.size w wy)
      case atStart => exact ⟨0, L, by omega, rfl, rfl, hL, rfl, hT, hB⟩
      case round =>
        clear hL hT hB hcell' hjz
        obtain ⟨i, L, hig, rfl, rfl, hL, rfl, hT, hB⟩ := hrel
        cases gk with
        | zero =>
          have hiz : ¬ ((i : Int) < (lj : Int)) := by omega
          obtain rfl : i = lj := by omega
          go_wp2
          go_roundg g
          case measure => omega
          case rel => exact ⟨j + 1, L, by omega, by go_num, by rw [HE.out], hL, rfl, hT, hB⟩
        | succ g2 =>
          have hiz : (i : Int) < (lj : Int) := by omega
          have hx := updN_lt A zj hA i
          obtain ⟨hz1, hz2⟩ := hb8
          obtain ⟨b2, off2, rfl, hc2⟩ : ∃ b off, pj = some ⟨b, off, none⟩ ∧ ∀ i, i < lj → w.cell? ⟨b, off + i, none⟩ = some (.int .u8 (zj i : Nat)) := by
            rcases hz2 with h | h
            · omega
            · exact h
          have hcell := (hB.cell (p := ⟨b2, off2 + i, none⟩) (block_lt_of_cell (hc2 i (by omega)))).trans (hc2 i (by omega))
          have hzi := hz1 i
          by_cases hL0 : L = 0
          · -- the table
            subst hL0
            have hD := Byt.drop hz1 hc2 i
            have HE2 : Hid (updN (updN A zj i) (fun k => zj (i + k)) (lj - i) = updN A zj lj) := by
              have h := updN_add A zj i (lj - i)
              rw [← h]
              congr 1; omega
            clear hc2 hz1
            have hor := orTable_any w.heap.size _ wr hB.size hT
            clear hT
            go_wp2_with fail
            refine hor.mono ?_
            rintro e w1 ⟨tb, rfl, htb, hTb, hb1⟩
            have hB1 := hB.trans (hb1.mono hB.size)
            have hD1 := hD.below hB1
            have hrow := takeRow_any tb (updN A zj i) _ (lj - i) (cj - i) _ w1 hx (by omega) hTb hD1
            go_wp2_with fail
            refine hrow.mono ?_
            rintro e w2 ⟨rfl, rfl⟩
            go_wp2
            go_roundg g
            case measure => omega
            case rel => exact ⟨j + 1, 0, by omega, by go_num, by rw [HE.out, HE2.out], by omega, rfl, .inr ⟨tb, rfl, htb, hTb⟩, hB1⟩
          · clear hc2 hz1
            have hLz : ((L : Int) == 0) = false := by simp; omega
            go_wp2_with fail
            refine (takeByte_any _ _ wr hx hzi).mono ?_
            rintro e w1 ⟨rfl, hb1⟩
            go_wp2
            go_roundg g2
            case measure => omega
            case rel => exact ⟨i + 1, L - 1, by omega, by go_num, rfl, by omega, by go_num, hT.below hb1, hB.trans (hb1.mono hB.size)⟩
end Go.Proofs.Ytpmldopbjlnknaa
