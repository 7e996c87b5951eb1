/-
  The program's writer puts fixed numbers, texts, rising rows.
-/
import Derived.Test.YtpmldopbjlnknaaWrNum
namespace Go.Proofs.Ytpmldopbjlnknaa
open Go.RowKit

theorem cell_new4 (w : World) (a b c d : Value) (t : TypeId) (i : Nat) : (w.alloc (.cells #[a, b, c, d] t)).cell? ⟨w.heap.size, i, none⟩ = #[a, b, c, d][i]? := by
  rw [cell_of_row _ _ _ _ _ _ (heap_alloc_new _ _)]
theorem fix_bl (w : World) (n : Nat) : BL (w.alloc (.cells #[.int .u8 ((n % 256 : Nat) : Int), .int .u8 ((n / 256 % 256 : Nat) : Int), .int .u8 ((n / 65536 % 256 : Nat) : Int), .int .u8 ((n / 16777216 % 256 : Nat) : Int)] 5)) (some ⟨w.heap.size, 0, none⟩) (fixB n) := by
  refine BL.mk (fixB_lt n) (.inr ⟨_, 0, rfl, fun i hi => ?_⟩)
  rw [Nat.zero_add, cell_new4]
  have : i < 4 := hi
  match i, this with
  | 0, _ => rfl
  | 1, _ => rfl
  | 2, _ => rfl
  | 3, _ => rfl

set_option maxRecDepth 100000 in
set_option maxHeartbeats 400000 in
theorem fixed_wp (pv : Value) (F : Nat → Prop) (S : Option (List Nat)) (n : Nat) (w : World) (hn : n < 4294967296) (h : WP w pv F S) (hF : ∀ k, F k → k < w.heap.size) (hsz : szO S + 4 ≤ 140737488355328) :
    Calls Try.prog 48 #[pv, .int .u32 n] w fun e w' => e = .returned (.tuple #[]) ∧ WP w' pv (Fnew F w w') (putRaw S (fixB n)) ∧ Kept F w w' := by
  obtain ⟨pa, hpv⟩ := h.form
  have hnew := fix_bl w n
  have e1 : ((n % 256 : Nat) : Int) = (n : Int) % 256 := by omega
  have e2 : ((n / 256 % 256 : Nat) : Int) = (n : Int) / 256 % 256 := by omega
  have e3 : ((n / 65536 % 256 : Nat) : Int) = (n : Int) / 65536 % 256 := by omega
  have e4 : ((n / 16777216 % 256 : Nat) : Int) = (n : Int) / 16777216 := by omega
  rw [e1, e2, e3, e4] at hnew
  clear e1 e2 e3 e4
  obtain ⟨W0, hW0⟩ : ∃ W0, w.alloc (.cells #[.int .u8 ((n : Int) % 256), .int .u8 ((n : Int) / 256 % 256), .int .u8 ((n : Int) / 65536 % 256), .int .u8 ((n : Int) / 16777216)] 5) = W0 := ⟨_, rfl⟩
  have hs0 : W0.heap.size = w.heap.size + 1 := by rw [← hW0]; simp
  have hab : Kept (fun _ => False) w W0 := by rw [← hW0]; exact Kept.of_below (below_alloc w _)
  rw [hW0] at hnew
  have hp := put_wp pv F S (some ⟨w.heap.size, 0, none⟩) 4 4 (fixB n) W0 (h.kept hab (fun _ _ h => h)) (fun k hk => by have := hF k hk; omega) rfl (fun e => by cases e) (by omega) (fun g off s e _ hg => by cases e; have := hF _ hg; omega) hsz hnew
  clear hnew
  have HS := hide hs0
  clear hs0
  subst hpv
  go_enter Try.func48, Try.ntmps48
  go_wp2_with fail
  refine hp.mono ?_
  rintro e w1 ⟨rfl, h1, h2⟩
  go_wp2_with fail
  go_end0
  refine ⟨rfl, h1.mono (fun k hk => ?_), (hab.mono (fun _ _ h => h.elim)).trans h2 (fun _ _ h => h)⟩
  rcases hk with hk | hk
  · exact .inl hk
  · exact .inr ⟨by have := HS.out; omega, hk.2⟩

/-- Texts in a row. -/
def Txts (w : World) (a : Option Addr) (n : Nat) (p : Nat → Option Addr) (l c : Nat → Nat) (L : Nat → List Nat) : Prop :=
  n = 0 ∨ ∃ b off, a = some ⟨b, off, none⟩ ∧ ∀ j, j < n → w.cell? ⟨b, off + j, none⟩ = some (.slice (p j) (l j) (c j)) ∧ l j ≤ c j ∧ c j ≤ 9223372036854775807 ∧ (p j = none → c j = 0) ∧ (L j).length = l j ∧ BL w (p j) (L j)
def putTexts (S : Option (List Nat)) (L : Nat → List Nat) : Nat → Option (List Nat)
  | 0 => S
  | k + 1 => putText (putTexts S L k) (L k)
def sumL (l : Nat → Nat) : Nat → Nat
  | 0 => 0
  | k + 1 => sumL l k + (6 + l k)
theorem sumL_mono (l : Nat → Nat) : ∀ {i j : Nat}, i ≤ j → sumL l i ≤ sumL l j := by
  intro i j h
  induction j with
  | zero => have : i = 0 := by omega
            subst this; exact Nat.le_refl _
  | succ j ih =>
    by_cases e : i = j + 1
    · subst e; exact Nat.le_refl _
    · have := ih (by omega)
      show sumL l i ≤ sumL l j + _
      omega
theorem putTexts_sz (S : Option (List Nat)) (L : Nat → List Nat) : ∀ n, szO (putTexts S L n) ≤ szO S + sumL (fun j => (L j).length) n
  | 0 => by simp [putTexts, sumL]
  | n + 1 => by
    have := putTexts_sz S L n
    have := putText_sz (putTexts S L n) (L n)
    show szO (putText (putTexts S L n) (L n)) ≤ szO S + (sumL _ n + (6 + (L n).length))
    omega

set_option maxRecDepth 100000 in
set_option maxHeartbeats 1000000 in
theorem text_wp (pv : Value) (F : Nat → Prop) (S : Option (List Nat)) (a : Option Addr) (n cap : Nat) (p : Nat → Option Addr) (l c : Nat → Nat) (L : Nat → List Nat) (w : World) (h : WP w pv F S) (hF : ∀ k, F k → k < w.heap.size)
    (had : ∀ g off s, a = some ⟨g, off, s⟩ → 0 < n → ¬ F g) (hpd : ∀ j, j < n → ∀ g off s, p j = some ⟨g, off, s⟩ → 0 < (L j).length → ¬ F g ∧ g < w.heap.size)
    (hn : n ≤ 9223372036854775807) (hsz : szO S + sumL (fun j => (L j).length) n ≤ 140737488355328) (hT : Txts w a n p l c L) :
    Calls Try.prog 47 #[pv, .slice a n cap] w fun e w' => e = .returned (.tuple #[]) ∧ WP w' pv (Fnew F w w') (putTexts S L n) ∧ Kept F w w' := by
  obtain ⟨pa, hpv⟩ := h.form
  subst hpv
  go_enter Try.func47, Try.ntmps47
  go_wp2
  go_loopg [8] n (fun q s8 wr => ∃ k : Nat, k + q = n ∧ s8 = .int .i64 k ∧ WP wr (.pointer pa) (Fnew F w wr) (putTexts S L k) ∧ Kept F w wr)
  case atStart => exact ⟨0, by omega, rfl, h.mono (fun k hk => .inl hk), Kept.refl _ _⟩
  case round =>
    obtain ⟨k, hkq, rfl, hW, hK⟩ := hrel
    cases gk with
    | zero =>
      obtain rfl : k = n := by omega
      go_wp2
      go_end0
      exact ⟨rfl, hW, hK⟩
    | succ q =>
      have hkz : (k : Int) < (n : Int) := by omega
      have hk0 : (0 : Int) ≤ (k : Int) := by omega
      have hsk := putTexts_sz S L k
      have hms := sumL_mono (fun j => (L j).length) (show k + 1 ≤ n by omega)
      have hlk : sumL (fun j => (L j).length) (k + 1) = sumL (fun j => (L j).length) k + (6 + (L k).length) := rfl
      obtain ⟨b, off, rfl, hc⟩ : ∃ b off, a = some ⟨b, off, none⟩ ∧ ∀ j, j < n → w.cell? ⟨b, off + j, none⟩ = some (.slice (p j) (l j) (c j)) ∧ l j ≤ c j ∧ c j ≤ 9223372036854775807 ∧ (p j = none → c j = 0) ∧ (L j).length = l j ∧ BL w (p j) (L j) := by
        rcases hT with h | h
        · omega
        · exact h
      obtain ⟨hcell, hlc, hcm, hpn, hLl, hbl⟩ := hc k (by omega)
      have hcell1 := hK.cell hcell (had b off none rfl (by omega))
      have hFl : ∀ j, Fnew F w wr j → j < wr.heap.size := fun j hj => hj.lt hF hK.size
      have hbl1 := hbl.kept0 hK (fun g o s e h0 => (hpd k (by omega) g o s e h0).1)
      have hnum := number_one (.pointer pa) (Fnew F w wr) (putTexts S L k) (l k : Nat) wr hW hFl (by omega) _ rfl
      have hput := fun (w2 : World) (h1 : WP w2 (.pointer pa) (Fnew (Fnew F w wr) wr w2) (putNum (putTexts S L k) (l k : Nat))) (h2 : Kept (Fnew F w wr) wr w2) =>
        put_wp (.pointer pa) (Fnew (Fnew F w wr) wr w2) _ (p k) (l k) (c k) (L k) w2 h1 (fun j hj => hj.lt hFl h2.size) hLl hpn hlc (fun g o s e h0 hg => by
          have hx := hpd k (by omega) g o s e (by omega)
          rcases hg with (hg | hg) | hg
          · exact hx.1 hg
          · omega
          · have := hK.size; omega) (by have := putNum_sz (putTexts S L k) (l k : Nat); omega) (hbl1.kept0 h2 (fun g o s e h0 hg => by
          have hx := hpd k (by omega) g o s e h0
          rcases hg with hg | hg
          · exact hx.1 hg
          · omega))
      have hlk9 : l k ≤ 9223372036854775807 := by omega
      have HS : Hid (putTexts S L (k + 1) = putRaw (putNum (putTexts S L k) (l k : Nat)) (L k)) := by rw [← hLl]; rfl
      clear hc hT hcell hms hlk hsk hbl hbl1 hpn hLl hlc
      generalize p k = pk at *
      generalize l k = lk at *
      generalize c k = ck at *
      go_wp2_with fail
      refine hnum.mono ?_
      rintro e w2 ⟨rfl, h1, h2⟩
      go_wp2_with fail
      refine (hput w2 h1 h2).mono ?_
      rintro e w3 ⟨rfl, h3, h4⟩
      go_wp2_with fail
      go_roundg q
      case measure => omega
      case rel =>
        have hF3 : ∀ j, Fnew (Fnew (Fnew F w wr) wr w2) w2 w3 j → Fnew F w w3 j := fun j hj => Fnew.sub (Nat.le_trans h2.size h4.size) hK.size (Fnew.sub h4.size h2.size hj)
        exact ⟨k + 1, by omega, by go_num, by rw [HS.out]; exact h3.mono hF3, (hK.step h2).step (h4.mono (fun j _ hj => hj.sub h2.size hK.size))⟩

theorem putRow_bad (S : Option (List Nat)) (f : Nat → Int) (k n : Nat) (h : putRow S f k = none) (hn : k ≤ n) : putRow S f n = none := by
  induction n with
  | zero => have : k = 0 := by omega
            subst this; exact h
  | succ n ih =>
    by_cases e : k = n + 1
    · subst e; exact h
    · show putGap (putRow S f n) (ahead f n) (f n) = none
      rw [ih (by omega)]
      unfold putGap; split <;> rfl

end Go.Proofs.Ytpmldopbjlnknaa

/-
  The reference's writer.
-/
namespace Go.Proofs.Ytpmldopbjlnknaa
open Go.RowKit

theorem cells2 {w : World} {p : Nat} {a b : Value} {t : TypeId} (h : w.heap[p]? = some (.cells #[a, b] t (0, 0))) :
    w.cell? ⟨p, 0, none⟩ = some a ∧ w.cell? ⟨p, 1, none⟩ = some b ∧ w.frozen? ⟨p, 0, none⟩ = false ∧ w.frozen? ⟨p, 1, none⟩ = false :=
  ⟨by rw [cell_of_row _ _ _ _ _ _ h]; rfl, by rw [cell_of_row _ _ _ _ _ _ h]; rfl, frozen_of_row _ _ _ _ _ h, frozen_of_row _ _ _ _ _ h⟩

end Go.Proofs.Ytpmldopbjlnknaa

/-
  The reference's writer: fixed numbers, texts, rising rows, the bytes.
-/
namespace Go.Proofs.Ytpmldopbjlnknaa
open Go.RowKit




/-- The two rows' ways to say that a number does not go on. -/
theorem gap_bad (f : Nat → Int) (k : Nat) (hah : -1 ≤ ahead f k) : (f k ≤ ahead f k ∨ (maxNum : Int) < f k) ↔ (f k < 0 ∨ (1099511627776 : Int) < f k ∨ (0 < k ∧ f k ≤ f (k - 1))) := by
  unfold maxNum
  cases k with
  | zero => simp only [ahead] at *; simp; omega
  | succ k => simp only [ahead] at *; simp; omega

end Go.Proofs.Ytpmldopbjlnknaa
