/-
  CrcTells's walk.
-/
import Derived.Test.YtdcpgoijjnkjaaaTellsS
namespace Go.Proofs.Ytdcpgoijjnkjaaa
open Go.RowKit

/-- A sum gone on by rows, one behind the other. -/
def goAll (s : Nat) (l : Nat → Nat) (z : Nat → Nat → Nat) : Nat → Nat
  | 0 => s
  | n + 1 => goN (goAll s l z n) (z n) (l n)
theorem goAll_lt (s : Nat) (l : Nat → Nat) (z : Nat → Nat → Nat) (h : s < 4294967296) : ∀ n, goAll s l z n < 4294967296
  | 0 => h
  | _ + 1 => goN_lt _ _ _
theorem Byt.congr {w : World} {a : Option Addr} {len : Nat} {z y : Nat → Nat} (h : Byt w a len z) (hy : ∀ i, y i < 256) (e : ∀ i, i < len → z i = y i) : Byt w a len y := by
  obtain ⟨hz, h | ⟨b, off, h, hc⟩⟩ := h
  · exact ⟨hy, .inl h⟩
  · exact ⟨hy, .inr ⟨b, off, h, fun i hi => by rw [← e i hi]; exact hc i hi⟩⟩
theorem Lents.row {w : World} {B n : Nat} {v : Value} {q l : Nat → Nat} {z : Nat → Nat → Nat} (h : Lents w B v n q l z) (hz : ∀ j i, z j i < 256) {j : Nat} (hj : j < n) : Byt w (some ⟨q j, 0, none⟩) (l j) (z j) :=
  ((h.2 j hj).2.byt.take (by omega)).congr (hz j) (fun i hi => by unfold lent; rw [if_pos hi])
theorem Lents.form {w : World} {B n : Nat} {v : Value} {q l : Nat → Nat} {z : Nat → Nat → Nat} (h : Lents w B v n q l z) (hz : ∀ j i, z j i < 256) (hl : ∀ j, j < n → l j ≤ 20000) :
    ∃ A C, v = .slice A n C ∧ n ≤ C ∧ C ≤ 9223372036854775807 ∧ (n = 0 ∨ ∃ b, A = some ⟨b, 0, none⟩) ∧ Parts w A n (fun j => some ⟨q j, 0, none⟩) l (fun j => l j + 12) z := by
  have hr := h.1
  obtain ⟨_, ⟨hv, h0⟩ | ⟨g, cap, cur, hv, hB, hg, hnc, hcm, hcs, hx⟩⟩ := hr
  · exact ⟨none, 0, by rw [hv, h0], by omega, by omega, .inl h0, .inl h0⟩
  · have hm := hcm
    unfold maxLen at hm
    refine ⟨_, cap, hv, hnc, hm, .inr ⟨g, rfl⟩, .inr ⟨g, 0, rfl, fun j hj => ⟨?_, (by show l j ≤ l j + 12; omega), (by have := hl j hj; show l j + 12 ≤ _; omega), h.row hz hj⟩⟩⟩
    have hr := h.1
    rw [hv] at hr
    rw [Nat.zero_add, hr.cellAt j (by omega)]
    exact rowsOf_get q l n j hj
set_option maxHeartbeats 400000 in
theorem keptRows_none (A a : Option Addr) (C cap : Nat) (w : World) :
    Calls Try.prog 15 #[.slice A 0 C, .slice a 0 cap] w fun e w' => e = .returned (.bool true) ∧ Below w.heap.size w w' := by
  go_enter Try.func15, Try.ntmps15
  go_wp2
  go_loop [5] (fun i => i = .int .i64 0) (fun _ => 0)
  case atStart => rfl
  case round =>
    subst hrel
    go_wp2
    go_ret
    exact ⟨rfl, Below.refl _ _⟩

set_option maxRecDepth 100000 in
set_option maxHeartbeats 2000000 in
theorem tells_walk (a : Option Addr) (n cap : Nat) (p : Nat → Option Addr) (l c : Nat → Nat) (z : Nat → Nat → Nat) (s : Nat) (bit : Bool) (w : World) (hs : s < 4294967296) (hn : n ≤ 140737488351232) (hl : ∀ j, j < n → l j ≤ 140737488351232) (hz : ∀ j i, z j i < 256) (hP : InRows w a n p l c z) :
    Calls Try.prog 3 #[.slice a n cap, .int .u32 s, .bool bit] w fun e w' => e = .returned (.bool true) ∧ Below w.heap.size w w' := by
  go_enter Try.func3, Try.ntmps3
  go_wp2
  go_loop [7, 8] (fun s7 s8 => ∃ k : Nat, k ≤ n ∧ s8 = .int .i64 k ∧ s7 = .int .i64 ((n : Int) + (totN l k : Nat)) ∧ (k = 0 ∨ n + totN l k ≤ 140737488351232 + 20000)) (fun _ s8 => n - (intOf s8).toNat)
  case atStart => exact ⟨0, by omega, rfl, by simp [totN], .inl rfl⟩
  case round =>
    obtain ⟨k, hk, rfl, rfl, hkt⟩ := hrel
    have hkb : n + totN l k ≤ 140737488351232 + 20000 := by
      rcases hkt with h | h
      · subst h; show n + 0 ≤ _; omega
      · exact h
    clear hkt
    by_cases hmore : k < n ∧ n + totN l k ≤ 20000
    · obtain ⟨hk1, hk2⟩ := hmore
      obtain ⟨b, off, rfl, hcell⟩ : ∃ b off, a = some ⟨b, off, none⟩ ∧ w.cell? ⟨b, off + k, none⟩ = some (.slice (p k) (l k) (c k)) := by
        rcases hP with h | ⟨b, off, h, hc⟩
        · omega
        · exact ⟨b, off, h, (hc k hk1).1⟩
      have hlk := hl k hk1
      have hk1' : (k : Int) < (n : Int) := by omega
      have hk2' : (n : Int) + (totN l k : Nat) ≤ 20000 := by omega
      have ht : totN l (k + 1) = totN l k + l k := rfl
      have HT : Hid (totN l (k + 1) = totN l k + l k) := rfl
      clear hP hl ht
      generalize totN l k = T at hkb hk2 hk2' HT ⊢
      generalize p k = pk at hcell
      generalize c k = ck at hcell
      generalize hlk' : l k = lk at hcell hlk HT
      clear hlk'
      go_wp2
      go_round
      case rel => exact ⟨k + 1, by omega, by go_num, by rw [HT.out]; go_num, .inr (by rw [HT.out]; omega)⟩
      case measure => simp [intOf]; omega
    · by_cases hbig : 20000 < n + totN l k
      · have hbig' : (20000 : Int) < (n : Int) + (totN l k : Nat) := by omega
        have hmore' : ¬ ((k : Int) < (n : Int) ∧ (n : Int) + (totN l k : Nat) ≤ 20000) := by omega
        clear hP hl
        generalize totN l k = T at *
        by_cases hkn : k < n
        all_goals
          go_wp2_with fail
          refine (awake_any w).mono ?_
          rintro e w1 ⟨rfl, hb1⟩
          go_wp2
          go_ret
          exact ⟨rfl, hb1⟩
      · obtain rfl : k = n := by omega
        have hn2 : k ≤ 20000 := by omega
        have ht2 : totN l k ≤ 20000 := by omega
        have hl2 : ∀ j, j < k → l j ≤ 20000 := fun j hj => by
          have h1 := totN_mono l (show j + 1 ≤ k by omega)
          have h2 : totN l (j + 1) = totN l j + l j := rfl
          omega
        have hsm : (k : Int) + (totN l k : Nat) ≤ 20000 := by omega
        have hlr := lentRows_any a k cap p l c z w hn2 hl2 hP
        have hrs := fun W (hW : Below w.heap.size w W) => refSum_any a k cap p l c z W hn2 ht2 hz (hP.below hW)
        have HT : Hid (totN l k ≤ 20000) := ht2
        clear hmore hbig hl ht2 hkb
        generalize totN l k = T at hsm
        go_wp2_with fail
        refine hlr.mono ?_
        rintro e w1 ⟨v, rfl, ⟨q, hL⟩, hb1⟩
        obtain ⟨A, C, rfl, hAC, hCm, hA, hPa⟩ := hL.form hz hl2
        clear hlr
        go_wp2_with fail
        go_loopg [10, 11, 12] k (fun g s10 s11 s12 wx => ∃ i : Nat, i + g = k ∧ s12 = .int .i64 i ∧ s10 = .int .u32 (goAll s l z i : Nat) ∧ s11 = .int .u32 (goAll s l z i : Nat) ∧ Below w1.heap.size w1 wx)
        case atStart => exact ⟨0, by omega, rfl, rfl, rfl, Below.refl _ _⟩
        case round =>
          obtain ⟨i, hig, rfl, rfl, rfl, hbr⟩ := hrel
          have hgl := goAll_lt s l z hs i
          cases gk with
          | zero =>
            have hiz : ¬ ((i : Int) < (k : Int)) := by omega
            obtain rfl : i = k := by omega
            have hk : ∀ W, Below w1.heap.size w1 W → Calls Try.prog 15 #[.slice A i C, .slice a i cap] W fun e w' => e = .returned (.bool true) ∧ Below W.heap.size W w' := by
              intro W hW
              rcases hA with h0 | ⟨b1, hA⟩
              · subst h0
                exact keptRows_none A a C cap W
              · subst hA
                exact keptRows_any w.heap.size b1 C a i cap p q l c z W hn2 hl2 (hL.below hW) ((hP.below hb1).below hW)
            have hsum := sum_any A i C _ l _ z wr (by omega) (hPa.below hbr)
            generalize goAll s l z i = G at hgl ⊢
            clear hL hPa hP
            go_wp2_with fail
            refine hsum.mono ?_
            rintro e w2 ⟨rfl, hb2⟩
            have hB2 := below_thru hbr hb2
            have hrs2 := hrs w2 (below_thru hb1 hB2)
            clear hrs hsum
            go_wp2_with fail
            refine hrs2.mono ?_
            rintro e w3 ⟨rfl, hb3⟩
            have hB3 := below_thru hB2 hb3
            clear hrs2
            go_wp2_with fail
            refine (crcBit_any s bit w3 hs).mono ?_
            rintro e w4 ⟨rfl, rfl⟩
            go_wp2_with fail
            refine (refBit_any s bit w3 hs).mono ?_
            rintro e w4 ⟨rfl, rfl⟩
            have hk3 := hk w3 hB3
            clear hk
            go_wp2_with fail
            refine hk3.mono ?_
            rintro e w5 ⟨rfl, hb5⟩
            have hB5 := below_thru hB3 hb5
            clear hk3
            go_wp2_with fail
            refine (awake_any w5).mono ?_
            rintro e w6 ⟨rfl, hb6⟩
            go_wp2
            go_ret
            exact ⟨rfl, below_thru hb1 (below_thru hB5 hb6)⟩
          | succ g =>
            have hiz : (i : Int) < (k : Int) := by omega
            have hi0 : (0 : Int) ≤ (i : Int) := by omega
            obtain ⟨b1, o1, rfl, hcell1, hlc1, hcm1, hby1⟩ : ∃ b off, A = some ⟨b, off, none⟩ ∧ w1.cell? ⟨b, off + i, none⟩ = some (.slice (some ⟨q i, 0, none⟩) (l i) (l i + 12)) ∧ l i ≤ l i + 12 ∧ l i + 12 ≤ 9223372036854775807 ∧ Byt w1 (some ⟨q i, 0, none⟩) (l i) (z i) := by
              rcases hPa with h | ⟨b, off, h, hc⟩
              · omega
              · exact ⟨b, off, h, hc i (by omega)⟩
            obtain ⟨b2, o2, rfl, hcell2, hlc2, hcm2, hby2⟩ : ∃ b off, a = some ⟨b, off, none⟩ ∧ w.cell? ⟨b, off + i, none⟩ = some (.slice (p i) (l i) (c i)) ∧ l i ≤ c i ∧ c i ≤ 9223372036854775807 ∧ Byt w (p i) (l i) (z i) := by
              rcases hP with h | ⟨b, off, h, hc⟩
              · omega
              · exact ⟨b, off, h, (hc i (by omega)).1, (hc i (by omega)).2.1, (hc i (by omega)).2.2.1, (hc i (by omega)).2.2.2.2⟩
            have hc1 := cell_thru hcell1 hbr
            have hc2 := cell_thru (cell_thru hcell2 hb1) hbr
            have hup := update_any (goAll s l z i) _ (l i) (l i + 12) (z i) wr hgl hlc1 hcm1 (hby1.below hbr)
            have hru := fun W (hW : Below wr.heap.size wr W) => refUpdate_any (goAll s l z i) (p i) (l i) (c i) (z i) W hgl (by omega) (((hby2.below hb1).below hbr).below hW)
            have HG : Hid (goAll s l z (i + 1) = goN (goAll s l z i) (z i) (l i)) := rfl
            clear hcell1 hcell2
            go_wp2_with fail
            refine hup.mono ?_
            rintro e w2 ⟨rfl, hb2⟩
            have hc3 := cell_thru hc2 hb2
            go_wp2_with fail
            refine (hru w2 hb2).mono ?_
            rintro e w3 ⟨rfl, rfl⟩
            go_wp2_with fail
            go_roundg g
            case measure => omega
            case rel => exact ⟨i + 1, by omega, by go_num, by rw [HG.out], by rw [HG.out], below_thru hbr hb2⟩
end Go.Proofs.Ytdcpgoijjnkjaaa
