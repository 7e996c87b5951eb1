/-
  The program's writer puts fixed numbers, texts, rising rows.
-/
import Derived.Test.YtppdbinppibjhaaDoorWrNum
namespace Go.Proofs.YtppdbinppibjhaaDoor
open Go.RowKit

theorem cell_new4 (w : World) (a b c d : Value) (t : TypeId) (i : Nat) : (w.alloc (.cells #[a, b, c, d] t)).cell? ⟨w.heap.size, i, none⟩ = #[a, b, c, d][i]? := by
  rw [cell_of_row _ _ _ _ _ _ (heap_alloc_new _ _)]
theorem fix_bl (w : World) (n : Nat) : BL (w.alloc (.cells #[.int .u8 ((n % 256 : Nat) : Int), .int .u8 ((n / 256 % 256 : Nat) : Int), .int .u8 ((n / 65536 % 256 : Nat) : Int), .int .u8 ((n / 16777216 % 256 : Nat) : Int)] 5)) (some ⟨w.heap.size, 0, none⟩) (fixB n) := by
  refine BL.mk (fixB_lt n) (.inr ⟨_, 0, rfl, fun i hi => ?_⟩)
  rw [Nat.zero_add, cell_new4]
  have : i < 4 := hi
  match i, this with
  | 0, _ => rfl
  | 1, _ => rfl
  | 2, _ => rfl
  | 3, _ => rfl

set_option maxRecDepth 100000 in
set_option maxHeartbeats 400000 in
theorem fixed_wp (pv : Value) (F : Nat → Prop) (S : Option (List Nat)) (n : Nat) (w : World) (hn : n < 4294967296) (h : WP w pv F S) (hF : ∀ k, F k → k < w.heap.size) (hsz : szO S + 4 ≤ 140737488355328) :
    Calls Tryd.prog 18 #[pv, .int .u32 n] w fun e w' => e = .returned (.tuple #[]) ∧ WP w' pv (Fnew F w w') (putRaw S (fixB n)) ∧ Kept F w w' := by
  obtain ⟨pa, hpv⟩ := h.form
  have hnew := fix_bl w n
  have e1 : ((n % 256 : Nat) : Int) = (n : Int) % 256 := by omega
  have e2 : ((n / 256 % 256 : Nat) : Int) = (n : Int) / 256 % 256 := by omega
  have e3 : ((n / 65536 % 256 : Nat) : Int) = (n : Int) / 65536 % 256 := by omega
  have e4 : ((n / 16777216 % 256 : Nat) : Int) = (n : Int) / 16777216 := by omega
  rw [e1, e2, e3, e4] at hnew
  clear e1 e2 e3 e4
  obtain ⟨W0, hW0⟩ : ∃ W0, w.alloc (.cells #[.int .u8 ((n : Int) % 256), .int .u8 ((n : Int) / 256 % 256), .int .u8 ((n : Int) / 65536 % 256), .int .u8 ((n : Int) / 16777216)] 5) = W0 := ⟨_, rfl⟩
  have hs0 : W0.heap.size = w.heap.size + 1 := by rw [← hW0]; simp
  have hab : Kept (fun _ => False) w W0 := by rw [← hW0]; exact Kept.of_below (below_alloc w _)
  rw [hW0] at hnew
  have hp := put_wp pv F S (some ⟨w.heap.size, 0, none⟩) 4 4 (fixB n) W0 (h.kept hab (fun _ _ h => h)) (fun k hk => by have := hF k hk; omega) rfl (fun e => by cases e) (by omega) (fun g off s e _ hg => by cases e; have := hF _ hg; omega) hsz hnew
  clear hnew
  have HS := hide hs0
  clear hs0
  subst hpv
  go_enter Tryd.func18, Tryd.ntmps18
  go_wp2_with fail
  refine hp.mono ?_
  rintro e w1 ⟨rfl, h1, h2⟩
  go_wp2_with fail
  go_end0
  refine ⟨rfl, h1.mono (fun k hk => ?_), (hab.mono (fun _ _ h => h.elim)).trans h2 (fun _ _ h => h)⟩
  rcases hk with hk | hk
  · exact .inl hk
  · exact .inr ⟨by have := HS.out; omega, hk.2⟩

/-- Texts in a row. -/
def Txts (w : World) (a : Option Addr) (n : Nat) (p : Nat → Option Addr) (l c : Nat → Nat) (L : Nat → List Nat) : Prop :=
  n = 0 ∨ ∃ b off, a = some ⟨b, off, none⟩ ∧ ∀ j, j < n → w.cell? ⟨b, off + j, none⟩ = some (.slice (p j) (l j) (c j)) ∧ l j ≤ c j ∧ c j ≤ 9223372036854775807 ∧ (p j = none → c j = 0) ∧ (L j).length = l j ∧ BL w (p j) (L j)
def putTexts (S : Option (List Nat)) (L : Nat → List Nat) : Nat → Option (List Nat)
  | 0 => S
  | k + 1 => putText (putTexts S L k) (L k)
def sumL (l : Nat → Nat) : Nat → Nat
  | 0 => 0
  | k + 1 => sumL l k + (6 + l k)
theorem sumL_mono (l : Nat → Nat) : ∀ {i j : Nat}, i ≤ j → sumL l i ≤ sumL l j := by
  intro i j h
  induction j with
  | zero => have : i = 0 := by omega
            subst this; exact Nat.le_refl _
  | succ j ih =>
    by_cases e : i = j + 1
    · subst e; exact Nat.le_refl _
    · have := ih (by omega)
      show sumL l i ≤ sumL l j + _
      omega
theorem putTexts_sz (S : Option (List Nat)) (L : Nat → List Nat) : ∀ n, szO (putTexts S L n) ≤ szO S + sumL (fun j => (L j).length) n
  | 0 => by simp [putTexts, sumL]
  | n + 1 => by
    have := putTexts_sz S L n
    have := putText_sz (putTexts S L n) (L n)
    show szO (putText (putTexts S L n) (L n)) ≤ szO S + (sumL _ n + (6 + (L n).length))
    omega


theorem putRow_bad (S : Option (List Nat)) (f : Nat → Int) (k n : Nat) (h : putRow S f k = none) (hn : k ≤ n) : putRow S f n = none := by
  induction n with
  | zero => have : k = 0 := by omega
            subst this; exact h
  | succ n ih =>
    by_cases e : k = n + 1
    · subst e; exact h
    · show putGap (putRow S f n) (ahead f n) (f n) = none
      rw [ih (by omega)]
      unfold putGap; split <;> rfl

set_option maxRecDepth 100000 in
set_option maxHeartbeats 1000000 in
theorem rising_wp (pv : Value) (F : Nat → Prop) (S : Option (List Nat)) (a : Option Addr) (n cap : Nat) (f : Nat → Int) (w : World) (h : WP w pv F S) (hF : ∀ k, F k → k < w.heap.size)
    (had : ∀ g off s, a = some ⟨g, off, s⟩ → 0 < n → ¬ F g) (hn : n ≤ 9223372036854775807) (hsz : szO S + 6 + 6 * n ≤ 140737488355328) (hf : ∀ i, (Lit.int .i64 (f i)).wf = true) (hb : Ints w a n f) :
    Calls Tryd.prog 19 #[pv, .slice a n cap] w fun e w' => e = .returned (.tuple #[]) ∧ WP w' pv (Fnew F w w') (putRising S f n) ∧ Kept F w w' := by
  obtain ⟨pa, hpv⟩ := h.form
  subst hpv
  have hnum0 := number_one (.pointer pa) F S (n : Nat) w h hF (by omega) _ rfl
  go_enter Tryd.func19, Tryd.ntmps19
  go_step3
  go_wp2_with fail
  refine hnum0.mono ?_
  rintro e w1 ⟨rfl, hW1, hK1⟩
  clear hnum0
  go_wp2_with fail
  go_step3
  go_wp2_with fail
  go_loopg [4, 14] n (fun q s4 s14 wr => ∃ k : Nat, k + q = n ∧ s14 = .int .i64 k ∧ s4 = .int .i64 (ahead f k) ∧ -1 ≤ ahead f k ∧ WP wr (.pointer pa) (Fnew F w wr) (putRow (putNum S (n : Nat)) f k) ∧ Kept F w wr)
  case atStart => exact ⟨0, by omega, rfl, rfl, by simp [ahead], hW1, hK1⟩
  case round =>
    obtain ⟨k, hkq, rfl, rfl, hah, hW, hK⟩ := hrel
    clear hW1 hK1 h
    cases gk with
    | zero =>
      obtain rfl : k = n := by omega
      clear hah
      go_wp2_with fail
      rw [Exit.noGoto_normal]
      go_end0
      exact ⟨rfl, hW, hK⟩
    | succ q =>
      have hkz : (k : Int) < (n : Int) := by omega
      have hk0 : (0 : Int) ≤ (k : Int) := by omega
      obtain ⟨b, off, rfl, hc⟩ := hb.cell (by omega)
      have hcell := hK.cell (hc k (by omega)) (had b off none rfl (by omega))
      have hwf := bounds_i64 (hf k)
      have hFl : ∀ j, Fnew F w wr j → j < wr.heap.size := fun j hj => hj.lt hF hK.size
      have HS : Hid (putRow (putNum S (n : Nat)) f (k + 1) = putGap (putRow (putNum S (n : Nat)) f k) (ahead f k) (f k)) := rfl
      have HA : Hid (ahead f (k + 1) = f k) := rfl
      have hsk := putRow_sz (putNum S (n : Nat)) f k
      have hsk0 := putNum_sz S (n : Nat)
      have hfail := fail_wp (.pointer pa) (Fnew F w wr) _ wr hW
      have hbad := putRow_bad (putNum S (n : Nat)) f (k + 1) n
      clear hc hb
      generalize f k = x at *
      generalize ahead f k = A at *
      have hdone : putGap (putRow (putNum S (n : Nat)) f k) A x = none → ∀ w2, WP w2 (.pointer pa) (Fnew F w wr) none → Kept (Fnew F w wr) wr w2 → WP w2 (.pointer pa) (Fnew F w w2) (putRising S f n) ∧ Kept F w w2 := fun e w2 a1 a2 => by
        refine ⟨?_, hK.step a2⟩
        rw [show putRising S f n = none from hbad (by rw [HS.out, e]) (by omega)]
        exact a1.mono (fun j hj => hj.elim .inl (fun hj => .inr ⟨hj.1, by have := a2.size; omega⟩))
      clear hbad
      by_cases h1 : x ≤ A
      · have hd := hdone (by unfold putGap; rw [if_pos (.inl h1)])
        clear hdone hsk hsk0
        go_wp2_with fail
        refine hfail.mono ?_
        rintro e w2 ⟨rfl, hW2, hK2⟩
        go_wp2_with fail
        rw [Exit.noGoto_normal]
        go_end0
        exact ⟨rfl, hd w2 hW2 hK2⟩
      · by_cases h2 : 1099511627776 < x
        · have hd := hdone (by unfold putGap maxNum; rw [if_pos (.inr (by simpa using h2))])
          clear hdone hsk hsk0
          go_wp2_with fail
          refine hfail.mono ?_
          rintro e w2 ⟨rfl, hW2, hK2⟩
          go_wp2_with fail
          rw [Exit.noGoto_normal]
          go_end0
          exact ⟨rfl, hd w2 hW2 hK2⟩
        · have hg : putGap (putRow (putNum S (n : Nat)) f k) A x = putNum (putRow (putNum S (n : Nat)) f k) (x - A - 1) := by
            unfold putGap maxNum; rw [if_neg (by simp; omega)]
          rw [hg] at HS
          have hnum := number_one (.pointer pa) (Fnew F w wr) (putRow (putNum S (n : Nat)) f k) (x - A - 1) wr hW hFl (by omega) _ rfl
          clear hdone hsk hsk0 hg hfail
          go_wp2_with fail
          refine hnum.mono ?_
          rintro e w2 ⟨rfl, hW2, hK2⟩
          go_wp2_with fail
          go_roundg q
          case measure => omega
          case rel => exact ⟨k + 1, by omega, by go_num, by rw [HA.out], by rw [HA.out]; omega, by rw [HS.out]; exact hW2.mono (fun j hj => hj.sub hK2.size hK.size), hK.step hK2⟩
end Go.Proofs.YtppdbinppibjhaaDoor

/-
  The reference's writer.
-/
namespace Go.Proofs.YtppdbinppibjhaaDoor
open Go.RowKit

theorem cells2 {w : World} {p : Nat} {a b : Value} {t : TypeId} (h : w.heap[p]? = some (.cells #[a, b] t (0, 0))) :
    w.cell? ⟨p, 0, none⟩ = some a ∧ w.cell? ⟨p, 1, none⟩ = some b ∧ w.frozen? ⟨p, 0, none⟩ = false ∧ w.frozen? ⟨p, 1, none⟩ = false :=
  ⟨by rw [cell_of_row _ _ _ _ _ _ h]; rfl, by rw [cell_of_row _ _ _ _ _ _ h]; rfl, frozen_of_row _ _ _ _ _ h, frozen_of_row _ _ _ _ _ h⟩

end Go.Proofs.YtppdbinppibjhaaDoor

/-
  The reference's writer: fixed numbers, texts, rising rows, the bytes.
-/
namespace Go.Proofs.YtppdbinppibjhaaDoor
open Go.RowKit




/-- The two rows' ways to say that a number does not go on. -/
theorem gap_bad (f : Nat → Int) (k : Nat) (hah : -1 ≤ ahead f k) : (f k ≤ ahead f k ∨ (maxNum : Int) < f k) ↔ (f k < 0 ∨ (1099511627776 : Int) < f k ∨ (0 < k ∧ f k ≤ f (k - 1))) := by
  unfold maxNum
  cases k with
  | zero => simp only [ahead] at *; simp; omega
  | succ k => simp only [ahead] at *; simp; omega

end Go.Proofs.YtppdbinppibjhaaDoor
