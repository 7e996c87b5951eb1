/-
  The program's writer puts fixed numbers, texts, rising rows.
-/
import Derived.Test.YtlmjplpledilhaaWrNum
namespace Go.Proofs.Ytlmjplpledilhaa
open Go.RowKit

theorem cell_new4 (w : World) (a b c d : Value) (t : TypeId) (i : Nat) : (w.alloc (.cells #[a, b, c, d] t)).cell? ⟨w.heap.size, i, none⟩ = #[a, b, c, d][i]? := by
  rw [cell_of_row _ _ _ _ _ _ (heap_alloc_new _ _)]
theorem fix_bl (w : World) (n : Nat) : BL (w.alloc (.cells #[.int .u8 ((n % 256 : Nat) : Int), .int .u8 ((n / 256 % 256 : Nat) : Int), .int .u8 ((n / 65536 % 256 : Nat) : Int), .int .u8 ((n / 16777216 % 256 : Nat) : Int)] 5)) (some ⟨w.heap.size, 0, none⟩) (fixB n) := by
  refine BL.mk (fixB_lt n) (.inr ⟨_, 0, rfl, fun i hi => ?_⟩)
  rw [Nat.zero_add, cell_new4]
  have : i < 4 := hi
  match i, this with
  | 0, _ => rfl
  | 1, _ => rfl
  | 2, _ => rfl
  | 3, _ => rfl

set_option maxRecDepth 100000 in
set_option maxHeartbeats 400000 in
theorem fixed_wp (pv : Value) (F : Nat → Prop) (S : Option (List Nat)) (n : Nat) (w : World) (hn : n < 4294967296) (h : WP w pv F S) (hF : ∀ k, F k → k < w.heap.size) (hsz : szO S + 4 ≤ 140737488355328) :
    Calls Try.prog 23 #[pv, .int .u32 n] w fun e w' => e = .returned (.tuple #[]) ∧ WP w' pv (Fnew F w w') (putRaw S (fixB n)) ∧ Kept F w w' := by
  obtain ⟨pa, hpv⟩ := h.form
  have hnew := fix_bl w n
  have e1 : ((n % 256 : Nat) : Int) = (n : Int) % 256 := by omega
  have e2 : ((n / 256 % 256 : Nat) : Int) = (n : Int) / 256 % 256 := by omega
  have e3 : ((n / 65536 % 256 : Nat) : Int) = (n : Int) / 65536 % 256 := by omega
  have e4 : ((n / 16777216 % 256 : Nat) : Int) = (n : Int) / 16777216 := by omega
  rw [e1, e2, e3, e4] at hnew
  clear e1 e2 e3 e4
  obtain ⟨W0, hW0⟩ : ∃ W0, w.alloc (.cells #[.int .u8 ((n : Int) % 256), .int .u8 ((n : Int) / 256 % 256), .int .u8 ((n : Int) / 65536 % 256), .int .u8 ((n : Int) / 16777216)] 5) = W0 := ⟨_, rfl⟩
  have hs0 : W0.heap.size = w.heap.size + 1 := by rw [← hW0]; simp
  have hab : Kept (fun _ => False) w W0 := by rw [← hW0]; exact Kept.of_below (below_alloc w _)
  rw [hW0] at hnew
  have hp := put_wp pv F S (some ⟨w.heap.size, 0, none⟩) 4 4 (fixB n) W0 (h.kept hab (fun _ _ h => h)) (fun k hk => by have := hF k hk; omega) rfl (fun e => by cases e) (by omega) (fun g off s e _ hg => by cases e; have := hF _ hg; omega) hsz hnew
  clear hnew
  have HS := hide hs0
  clear hs0
  subst hpv
  go_enter Try.func23, Try.ntmps23
  go_wp2_with fail
  refine hp.mono ?_
  rintro e w1 ⟨rfl, h1, h2⟩
  go_wp2_with fail
  go_end0
  refine ⟨rfl, h1.mono (fun k hk => ?_), (hab.mono (fun _ _ h => h.elim)).trans h2 (fun _ _ h => h)⟩
  rcases hk with hk | hk
  · exact .inl hk
  · exact .inr ⟨by have := HS.out; omega, hk.2⟩

/-- Texts in a row. -/
def Txts (w : World) (a : Option Addr) (n : Nat) (p : Nat → Option Addr) (l c : Nat → Nat) (L : Nat → List Nat) : Prop :=
  n = 0 ∨ ∃ b off, a = some ⟨b, off, none⟩ ∧ ∀ j, j < n → w.cell? ⟨b, off + j, none⟩ = some (.slice (p j) (l j) (c j)) ∧ l j ≤ c j ∧ c j ≤ 9223372036854775807 ∧ (p j = none → c j = 0) ∧ (L j).length = l j ∧ BL w (p j) (L j)
def putTexts (S : Option (List Nat)) (L : Nat → List Nat) : Nat → Option (List Nat)
  | 0 => S
  | k + 1 => putText (putTexts S L k) (L k)
def sumL (l : Nat → Nat) : Nat → Nat
  | 0 => 0
  | k + 1 => sumL l k + (6 + l k)
theorem sumL_mono (l : Nat → Nat) : ∀ {i j : Nat}, i ≤ j → sumL l i ≤ sumL l j := by
  intro i j h
  induction j with
  | zero => have : i = 0 := by omega
            subst this; exact Nat.le_refl _
  | succ j ih =>
    by_cases e : i = j + 1
    · subst e; exact Nat.le_refl _
    · have := ih (by omega)
      show sumL l i ≤ sumL l j + _
      omega
theorem putTexts_sz (S : Option (List Nat)) (L : Nat → List Nat) : ∀ n, szO (putTexts S L n) ≤ szO S + sumL (fun j => (L j).length) n
  | 0 => by simp [putTexts, sumL]
  | n + 1 => by
    have := putTexts_sz S L n
    have := putText_sz (putTexts S L n) (L n)
    show szO (putText (putTexts S L n) (L n)) ≤ szO S + (sumL _ n + (6 + (L n).length))
    omega


theorem putRow_bad (S : Option (List Nat)) (f : Nat → Int) (k n : Nat) (h : putRow S f k = none) (hn : k ≤ n) : putRow S f n = none := by
  induction n with
  | zero => have : k = 0 := by omega
            subst this; exact h
  | succ n ih =>
    by_cases e : k = n + 1
    · subst e; exact h
    · show putGap (putRow S f n) (ahead f n) (f n) = none
      rw [ih (by omega)]
      unfold putGap; split <;> rfl

end Go.Proofs.Ytlmjplpledilhaa
