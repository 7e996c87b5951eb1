/-
  The program's writer puts fixed numbers, texts, rising rows.
-/
import Derived.Test.YtpmldopbjlnknaaGreatWrAll
set_option maxHeartbeats 1000000
set_option maxRecDepth 100000
set_option linter.unusedVariables false
set_option linter.unusedSimpArgs false
namespace Go.Proofs.YtpmldopbjlnknaaGreat
open Go.RowKit
theorem cell_new4 (w : World) (a b c d : Value) (t : TypeId) (i : Nat) : (w.alloc (.cells #[a, b, c, d] t)).cell? ⟨w.heap.size, i, none⟩ = #[a, b, c, d][i]? := by
 rw [cell_of_row _ _ _ _ _ _ (heap_alloc_new _ _)]
theorem fix_bl (w : World) (n : Nat) : BL (w.alloc (.cells #[.int .u8 ((n % 256 : Nat) : Int), .int .u8 ((n / 256 % 256 : Nat) : Int), .int .u8 ((n / 65536 % 256 : Nat) : Int), .int .u8 ((n / 16777216 % 256 : Nat) : Int)] 5)) (some ⟨w.heap.size, 0, none⟩) (fixB n) := by
 refine BL.mk (fixB_lt n) (.inr ⟨_, 0, rfl, fun i hi => ?_⟩)
 rw [Nat.zero_add, cell_new4]
 have : i < 4 := hi
 match i, this with
 | 0, _ | 1, _ | 2, _ | 3, _ => rfl
theorem fixed_wp (pv : Value) (F : Nat → Prop) (S : Option (List Nat)) (n : Nat) (w : World) (hn : n < 4294967296) (h : WP w pv F S) (hF : ∀ k, F k → k < w.heap.size) (hsz : szO S + 4 ≤ 140737488355328) :
  Calls Tryz.prog 26 #[pv, .int .u32 n] w fun e w' => e = .returned (.tuple #[]) ∧ WP w' pv (Fnew F w w') (putRaw S (fixB n)) ∧ Kept F w w' := by
 obtain ⟨pa, hpv⟩ := h.form
 have hnew := fix_bl w n
 have e1 : ((n % 256 : Nat) : Int) = (n : Int) % 256 := by omega
 have e2 : ((n / 256 % 256 : Nat) : Int) = (n : Int) / 256 % 256 := by omega
 have e3 : ((n / 65536 % 256 : Nat) : Int) = (n : Int) / 65536 % 256 := by omega
 have e4 : ((n / 16777216 % 256 : Nat) : Int) = (n : Int) / 16777216 := by omega
 rw [e1, e2, e3, e4] at hnew
 clear e1 e2 e3 e4
 obtain ⟨W0, hW0⟩ : ∃ W0, w.alloc (.cells #[.int .u8 ((n : Int) % 256), .int .u8 ((n : Int) / 256 % 256), .int .u8 ((n : Int) / 65536 % 256), .int .u8 ((n : Int) / 16777216)] 5) = W0 := ⟨_, rfl⟩
 have hs0 : W0.heap.size = w.heap.size + 1 := by rw [← hW0]; simp
 have hab : Kept (fun _ => False) w W0 := by rw [← hW0]; exact Kept.of_below (below_alloc w _)
 rw [hW0] at hnew
 have hp := put_wp pv F S (some ⟨w.heap.size, 0, none⟩) 4 4 (fixB n) W0 (h.kept hab (fun _ _ h => h)) (fun k hk => by have := hF k hk; omega) rfl (fun e => by cases e) (by omega) (fun g off s e _ hg => by cases e; have := hF _ hg; omega) hsz hnew
 clear hnew
 have HS := hide hs0
 clear hs0
 subst hpv
 go_enter Tryz.func26, Tryz.ntmps26
 go_wp2_with fail
 refine hp.mono ?_
 rintro e w1 ⟨rfl, h1, h2⟩
 go_wp2_with fail
 go_end0
 refine ⟨rfl, h1.mono (fun k hk => ?_), (hab.mono (fun _ _ h => h.elim)).trans h2 (fun _ _ h => h)⟩
 rcases hk with hk | hk
 ·exact .inl hk
 ·exact .inr ⟨by have := HS.out; omega, hk.2⟩
def Txts (w : World) (a : Option Addr) (n : Nat) (p : Nat → Option Addr) (l c : Nat → Nat) (L : Nat → List Nat) : Prop :=
 n = 0 ∨ ∃ b off, a = some ⟨b, off, none⟩ ∧ ∀ j, j < n → w.cell? ⟨b, off + j, none⟩ = some (.slice (p j) (l j) (c j)) ∧ l j ≤ c j ∧ c j ≤ 9223372036854775807 ∧ (p j = none → c j = 0) ∧ (L j).length = l j ∧ BL w (p j) (L j)
def putTexts (S : Option (List Nat)) (L : Nat → List Nat) : Nat → Option (List Nat)
 | 0 => S
 | k + 1 => putText (putTexts S L k) (L k)
def sumL (l : Nat → Nat) : Nat → Nat
 | 0 => 0
 | k + 1 => sumL l k + (6 + l k)
theorem sumL_mono (l : Nat → Nat) : ∀ {i j : Nat}, i ≤ j → sumL l i ≤ sumL l j := by
 intro i j h
 induction j with
 | zero => have : i = 0 := by omega
           subst this; exact Nat.le_refl _
 | succ j ih =>
   by_cases e : i = j + 1
   ·subst e; exact Nat.le_refl _
   ·have := ih (by omega)
    show sumL l i ≤ sumL l j + _
    omega
theorem putTexts_sz (S : Option (List Nat)) (L : Nat → List Nat) : ∀ n, szO (putTexts S L n) ≤ szO S + sumL (fun j => (L j).length) n
 | 0 => by simp [putTexts, sumL]
 | n + 1 => by
   have := putTexts_sz S L n
   have := putText_sz (putTexts S L n) (L n)
   show szO (putText (putTexts S L n) (L n)) ≤ szO S + (sumL _ n + (6 + (L n).length))
   omega
theorem text_wp (pv : Value) (F : Nat → Prop) (S : Option (List Nat)) (a : Option Addr) (n cap : Nat) (p : Nat → Option Addr) (l c : Nat → Nat) (L : Nat → List Nat) (w : World) (h : WP w pv F S) (hF : ∀ k, F k → k < w.heap.size)
  (had : ∀ g off s, a = some ⟨g, off, s⟩ → 0 < n → ¬ F g) (hpd : ∀ j, j < n → ∀ g off s, p j = some ⟨g, off, s⟩ → 0 < (L j).length → ¬ F g ∧ g < w.heap.size)
  (hn : n ≤ 9223372036854775807) (hsz : szO S + sumL (fun j => (L j).length) n ≤ 140737488355328) (hT : Txts w a n p l c L) :
  Calls Tryz.prog 25 #[pv, .slice a n cap] w fun e w' => e = .returned (.tuple #[]) ∧ WP w' pv (Fnew F w w') (putTexts S L n) ∧ Kept F w w' := by
 obtain ⟨pa, hpv⟩ := h.form
 subst hpv
 go_enter Tryz.func25, Tryz.ntmps25
 go_wp2
 go_loopg [8] n (fun q s8 wr => ∃ k : Nat, k + q = n ∧ s8 = .int .i64 k ∧ WP wr (.pointer pa) (Fnew F w wr) (putTexts S L k) ∧ Kept F w wr)
 case atStart => exact ⟨0, by omega, rfl, h.mono (fun k hk => .inl hk), Kept.refl _ _⟩
 case round =>
  obtain ⟨k, hkq, rfl, hW, hK⟩ := hrel
  cases gk with
  | zero =>
    obtain rfl : k = n := by omega
    go_wp2
    go_end0
    exact ⟨rfl, hW, hK⟩
  | succ q =>
    have hkz : (k : Int) < (n : Int) := by omega
    have hk0 : (0 : Int) ≤ (k : Int) := by omega
    have hsk := putTexts_sz S L k
    have hms := sumL_mono (fun j => (L j).length) (show k + 1 ≤ n by omega)
    have hlk : sumL (fun j => (L j).length) (k + 1) = sumL (fun j => (L j).length) k + (6 + (L k).length) := rfl
    obtain ⟨b, off, rfl, hc⟩ : ∃ b off, a = some ⟨b, off, none⟩ ∧ ∀ j, j < n → w.cell? ⟨b, off + j, none⟩ = some (.slice (p j) (l j) (c j)) ∧ l j ≤ c j ∧ c j ≤ 9223372036854775807 ∧ (p j = none → c j = 0) ∧ (L j).length = l j ∧ BL w (p j) (L j) := by
     rcases hT with h | h
     ·omega
     ·exact h
    obtain ⟨hcell, hlc, hcm, hpn, hLl, hbl⟩ := hc k (by omega)
    have hcell1 := hK.cell hcell (had b off none rfl (by omega))
    have hFl : ∀ j, Fnew F w wr j → j < wr.heap.size := fun j hj => hj.lt hF hK.size
    have hbl1 := hbl.kept0 hK (fun g o s e h0 => (hpd k (by omega) g o s e h0).1)
    have hnum := number_one (.pointer pa) (Fnew F w wr) (putTexts S L k) (l k : Nat) wr hW hFl (by omega) _ rfl
    have hput := fun (w2 : World) (h1 : WP w2 (.pointer pa) (Fnew (Fnew F w wr) wr w2) (putNum (putTexts S L k) (l k : Nat))) (h2 : Kept (Fnew F w wr) wr w2) =>
     put_wp (.pointer pa) (Fnew (Fnew F w wr) wr w2) _ (p k) (l k) (c k) (L k) w2 h1 (fun j hj => hj.lt hFl h2.size) hLl hpn hlc (fun g o s e h0 hg => by
      have hx := hpd k (by omega) g o s e (by omega)
      rcases hg with (hg | hg) | hg
      ·exact hx.1 hg
      ·omega
      ·have := hK.size; omega) (by have := putNum_sz (putTexts S L k) (l k : Nat); omega) (hbl1.kept0 h2 (fun g o s e h0 hg => by
      have hx := hpd k (by omega) g o s e h0
      rcases hg with hg | hg
      ·exact hx.1 hg
      ·omega))
    have hlk9 : l k ≤ 9223372036854775807 := by omega
    have HS : Hid (putTexts S L (k + 1) = putRaw (putNum (putTexts S L k) (l k : Nat)) (L k)) := by rw [← hLl]; rfl
    clear hc hT hcell hms hlk hsk hbl hbl1 hpn hLl hlc
    generalize p k = pk at *
    generalize l k = lk at *
    generalize c k = ck at *
    go_wp2_with fail
    refine hnum.mono ?_
    rintro e w2 ⟨rfl, h1, h2⟩
    go_wp2_with fail
    refine (hput w2 h1 h2).mono ?_
    rintro e w3 ⟨rfl, h3, h4⟩
    go_wp2_with fail
    go_roundg q
    case measure => omega
    case rel =>
     have hF3 : ∀ j, Fnew (Fnew (Fnew F w wr) wr w2) w2 w3 j → Fnew F w w3 j := fun j hj => Fnew.sub (Nat.le_trans h2.size h4.size) hK.size (Fnew.sub h4.size h2.size hj)
     exact ⟨k + 1, by omega, by go_num, by rw [HS.out]; exact h3.mono hF3, (hK.step h2).step (h4.mono (fun j _ hj => hj.sub h2.size hK.size))⟩
open Go.RowKit
def RW (w : World) (p : Nat) (F : Nat → Prop) (S : Option (List Nat)) (N : Nat) : Prop :=
 F p ∧ ∃ A C ys, w.heap[p]? = some (.cells #[.slice A ys.length C, .bool S.isNone] 59 (0, 0)) ∧ w.ownsRow 0 5 1 (.slice A ys.length C) ys.length (lc ys) ∧ (∀ b ∈ ys, b < 256) ∧
   (∀ g, (Value.slice A ys.length C).ownBlock = some g → F g) ∧ ys.length ≤ N ∧ ∀ xs, S = some xs → ys = xs
theorem RW.mono {w : World} {p N M : Nat} {F G : Nat → Prop} {S : Option (List Nat)} (h : RW w p F S N) (hFG : ∀ k, F k → G k) (hN : N ≤ M) : RW w p G S M := by
 obtain ⟨hp, A, C, ys, h0, h1, h2, h3, h4, h5⟩ := h
 exact ⟨hFG _ hp, A, C, ys, h0, h1, h2, fun g hg => hFG _ (h3 g hg), by omega, h5⟩
theorem RW.kept {w w' : World} {p N : Nat} {F G : Nat → Prop} {S : Option (List Nat)} (h : RW w p F S N) (hk : Kept G w w') (hd : ∀ k, F k → ¬ G k) : RW w' p F S N := by
 obtain ⟨hp, A, C, ys, h0, h1, h2, h3, h4, h5⟩ := h
 exact ⟨hp, A, C, ys, hk.heap h0 (hd _ hp), owns_kept h1 hk (fun g hg => hd _ (h3 g hg)), h2, h3, h4, h5⟩
theorem cells2 {w : World} {p : Nat} {a b : Value} {t : TypeId} (h : w.heap[p]? = some (.cells #[a, b] t (0, 0))) :
  w.cell? ⟨p, 0, none⟩ = some a ∧ w.cell? ⟨p, 1, none⟩ = some b ∧ w.frozen? ⟨p, 0, none⟩ = false ∧ w.frozen? ⟨p, 1, none⟩ = false :=
 ⟨by rw [cell_of_row _ _ _ _ _ _ h]; rfl, by rw [cell_of_row _ _ _ _ _ _ h]; rfl, frozen_of_row _ _ _ _ _ h, frozen_of_row _ _ _ _ _ h⟩
theorem RW.fail {w : World} {p N : Nat} {F : Nat → Prop} {S : Option (List Nat)} (h : RW w p F S N) : RW (w.setCell ⟨p, 1, none⟩ (.bool true)) p F none N ∧ Kept F w (w.setCell ⟨p, 1, none⟩ (.bool true)) := by
 obtain ⟨hp, A, C, ys, h0, h1, h2, h3, h4, h5⟩ := h
 refine ⟨⟨hp, A, C, ys, heap_setCell_same _ p 1 _ _ _ h0, ?_, h2, h3, h4, fun xs e => by cases e⟩, (Kept.refl F w).setCell (.inl hp) _⟩
 refine owns_kept h1 ((Kept.refl (fun k => k = p) w).setCell (.inl rfl) _) (fun g hg e => ?_)
 obtain ⟨_, _, cur, hc⟩ := owns_cells h1 g hg
 subst e
 rw [h0] at hc; cases hc
theorem RW.app {w w1 w2 : World} {p N m C C1 : Nat} {F : Nat → Prop} {S : Option (List Nat)} {A A1 : Option Addr} {ys L : List Nat} {bad : Bool} (hF : ∀ k, F k → k < w.heap.size) (hp : F p) (hbad : bad = S.isNone) (h0 : w.heap[p]? = some (.cells #[.slice A ys.length C, .bool bad] 59 (0, 0)))
  (h1 : w.ownsRow 0 5 1 (.slice A ys.length C) ys.length (lc ys)) (h2 : ∀ b ∈ ys, b < 256) (h3 : ∀ g, (Value.slice A ys.length C).ownBlock = some g → F g) (h4 : ys.length ≤ N) (h5 : ∀ xs, S = some xs → ys = xs)
  (hK : Kept (fun _ => False) w w1) (hL : L.length = m) (hb : ∀ b ∈ L, b < 256) (ho : w2.ownsRow 0 5 1 (.slice A1 (ys.length + m) C1) (ys.length + m) (lc ys ++ lc L)) (hg : Grew w1 w2 (.slice A ys.length C) (.slice A1 (ys.length + m) C1)) :
  RW (w2.setCell ⟨p, 0, none⟩ (.slice A1 (ys.length + m) C1)) p (Fnew F w (w2.setCell ⟨p, 0, none⟩ (.slice A1 (ys.length + m) C1))) (putRaw S L) (N + m) ∧ Kept F w (w2.setCell ⟨p, 0, none⟩ (.slice A1 (ys.length + m) C1)) := by
 have hne : ∀ g, (Value.slice A ys.length C).ownBlock = some g → g ≠ p := fun g hgg e => by
  obtain ⟨_, _, cur, hc⟩ := owns_cells h1 g hgg
  subst e
  rw [h0] at hc; cases hc
 have hx := hg.kept (F := fun k => F k ∧ k ≠ p) (fun g hgg => ⟨h3 g hgg, hne g hgg⟩)
 have hf := hg.foot (F := fun k => F k ∧ k ≠ p) (fun g hgg => ⟨h3 g hgg, hne g hgg⟩)
 have e : (ys ++ L).length = ys.length + m := by rw [List.length_append, hL]
 have hpl := hF p hp
 have hs1 := hK.size
 have hs2 := hx.size
 have hss : (w2.setCell ⟨p, 0, none⟩ (.slice A1 (ys.length + m) C1)).heap.size = w2.heap.size := by simp [World.setCell]
 refine ⟨⟨.inl hp, A1, C1, ys ++ L, ?_, ?_, ?_, ?_, by rw [e]; omega, ?_⟩, ?_⟩
 ·rw [e]
  have hh := hx.heap (hK.heap h0 (fun h => h)) (fun h => h.2 rfl)
  have hn : (putRaw S L).isNone = bad := by rw [hbad]; cases S <;> rfl
  rw [hn]
  exact heap_setCell_same _ p 0 _ _ _ hh
 ·rw [e, lc_append]
  refine owns_kept ho ((Kept.refl (fun k => k = p) w2).setCell (.inl rfl) _) (fun g hgg h => ?_)
  rcases hf g hgg with h' | h'
  ·exact h'.2 h
  ·omega
 ·intro b hbm
  rcases List.mem_append.1 hbm with h | h
  ·exact h2 b h
  ·exact hb b h
 ·rw [e]
  intro g hgg
  rcases hf g hgg with h' | h'
  ·exact .inl h'.1
  ·exact .inr ⟨by omega, by omega⟩
 ·intro xs hxs
  cases S with
  | none => cases hxs
  | some zs =>
    rw [h5 zs rfl]
    simpa [putRaw] using hxs
 ·exact ((hK.mono (fun _ _ h => h.elim)).trans hx (fun k _ hk => hk.1)).setCell (.inl hp) _
theorem refNumber_any (p : Nat) (F : Nat → Prop) (S : Option (List Nat)) (N : Nat) (x : Int) (w : World) (h : RW w p F S N) (hF : ∀ k, F k → k < w.heap.size) (hx : (Lit.int .i64 x).wf = true) (hN : N + 6 ≤ 140737488355328) :
  Calls Tryz.prog 28 #[.pointer (some ⟨p, 0, none⟩), .int .i64 x] w fun e w' => e = .returned (.tuple #[]) ∧ RW w' p (Fnew F w w') (putNum S x) (N + 6) ∧ Kept F w w' := by
 have hb := bounds_i64 hx
 by_cases hneg : x < 0
 ·rw [putNum_bad _ _ (.inl hneg)]
  have hf := h.fail
  obtain ⟨hp, A, C, ys, h0, _⟩ := h
  obtain ⟨c0, c1, f0, f1⟩ := cells2 h0
  clear h0
  go_enter Tryz.func28, Tryz.ntmps28
  go_wp2_with fail
  refine bodyPost_ret (results_none rfl _ _ _) rfl ?_
  exact ⟨rfl, hf.1.mono (fun k hk => .inl hk) (by omega), hf.2⟩
 by_cases hbig : (maxNum : Int) < x
 ·rw [putNum_bad _ _ (.inr hbig)]
  have hf := h.fail
  obtain ⟨hp, A, C, ys, h0, _⟩ := h
  obtain ⟨c0, c1, f0, f1⟩ := cells2 h0
  have hbig' : (1099511627776 : Int) < x := by unfold maxNum at hbig; simpa using hbig
  clear h0 hbig
  go_enter Tryz.func28, Tryz.ntmps28
  go_wp2_with fail
  refine bodyPost_ret (results_none rfl _ _ _) rfl ?_
  exact ⟨rfl, hf.1.mono (fun k hk => .inl hk) (by omega), hf.2⟩
 obtain ⟨m, rfl⟩ : ∃ m : Nat, x = (m : Int) := ⟨x.toNat, by omega⟩
 have hm : m ≤ maxNum := by omega
 rw [putNum_ok _ _ (by omega) (by omega), show ((m : Int)).toNat = m from by omega]
 have hl6 := encN_len6 hm
 have hm' : (m : Int) ≤ 1099511627776 := by unfold maxNum at hm; omega
 have hm0 : (0 : Int) ≤ (m : Int) := by omega
 clear hbig hneg hb hx
 obtain ⟨i0, hi, hq0, hq1, hq2⟩ := info_parts info_u8
 go_enter Tryz.func28, Tryz.ntmps28
 go_wp2_with fail
 go_loopw [1] (fun s1 wr => ∃ (q : Nat) (pre : List Nat), s1 = .int .i64 q ∧ q ≤ m ∧ pre ++ encN q = encN m ∧ RW wr p (Fnew F w wr) (putRaw S pre) (N + pre.length) ∧ Kept F w wr) (fun s1 _ => (intOf s1).toNat)
 case atStart => exact ⟨m, [], rfl, Nat.le_refl _, rfl, by rw [putRaw_nil]; exact h.mono (fun k hk => .inl hk) (by simp), Kept.refl _ _⟩
 case round =>
  obtain ⟨q, pre, rfl, hqm, he, hW, hK⟩ := hrel
  clear h
  have hFl : ∀ j, Fnew F w wr j → j < wr.heap.size := fun j hj => hj.lt hF hK.size
  have hpl : pre.length ≤ 5 := by
   have h1 := congrArg List.length he
   have h2 : 0 < (encN q).length := by
    by_cases h : q < 128
    ·rw [encN_lo h]; simp
    ·rw [encN_hi (by omega)]; simp
   simp at h1
   omega
  obtain ⟨hp, A, C, ys, h0, h1, h2, h3, h4, h5⟩ := hW
  obtain ⟨c0, c1, f0, f1⟩ := cells2 h0
  have hpw := hFl p hp
  by_cases hlt : 128 ≤ q
  ·have hxb : q % 128 + 128 < 256 := by omega
   have hv : ((q % 128 + 128 : Nat) : Int) = (q : Int) % 128 + 128 := by omega
   have happ := fun w2 A1 C1 => RW.app (L := [q % 128 + 128]) (m := 1) (w1 := wr.alloc (.cells #[.int .u8 ((q : Int) % 128 + 128)] 5)) (w2 := w2) (A1 := A1) (C1 := C1) hFl hp rfl h0 h1 h2 h3 h4 h5 (Kept.of_below (below_alloc _ _)) rfl (by simpa using hxb)
   have hcell := cell_alloc_l (W := wr) (.cells #[.int .u8 ((q : Int) % 128 + 128)] 5) c0
   have hfro := frozen_alloc_l (W := wr) (.cells #[.int .u8 ((q : Int) % 128 + 128)] 5) c0 f0
   have hown := owns_thru h1 (below_alloc wr (.cells #[.int .u8 ((q : Int) % 128 + 128)] 5))
   have hn1 := cell_one_new wr (.int .u8 ((q : Int) % 128 + 128)) 5
   rw [encN_hi hlt] at he
   have HE : Hid ((pre ++ [q % 128 + 128]) ++ encN (q / 128) = encN m) := by rw [List.append_assoc]; exact he
   have hne : ∀ g, (Value.slice A ys.length C).ownBlock = some g → g ≠ p := fun g hgg e => by
    obtain ⟨_, _, cur, hc⟩ := owns_cells h1 g hgg
    subst e
    rw [h0] at hc; cases hc
   have hlc : lc [q % 128 + 128] = [.int .u8 ((q : Int) % 128 + 128)] := by simp [lc]
   rw [hlc] at happ
   clear h0 h1 h2 h3 h5 he hl6 hv hlc
   generalize hnl : ys.length = nl at *
   clear hnl
   go_wp2_with (at_builtin; go_must (refine wpList_append_foot _ rfl (.tmp 19) (.tmp 24) 26 rfl 5 i0 (.int .u8 0) 1 Tryz.underlying26 hi hq0 hq1 hq2 rfl 0 _ nl (lc ys) rfl hown (some ⟨wr.heap.size, 0, none⟩) 1 1 [.int .u8 ((q : Int) % 128 + 128)] rfl rfl (fun e => by cases e) (fun ad e => by cases e; exact hn1) (by simp [Value.oneCell']) (by unfold maxLen; omega) (by omega) (by omega) ?_); intro A1 C1 w1 hown1 hg1; have hc1 := (hg1.kept (F := fun k => k ≠ p) hne).cell hcell (fun h => h rfl); have hf1 := (hg1.kept (F := fun k => k ≠ p) hne).unfrozen hcell (fun h => h rfl) hfro)
   obtain ⟨hR, hKK⟩ := happ w1 A1 C1 hown1 hg1
   go_roundw
   case rel => exact ⟨q / 128, pre ++ [q % 128 + 128], by go_num, by omega, HE.out, by rw [← putRaw_snoc]; exact hR.mono (fun j hj => hj.sub hKK.size hK.size) (by simp; omega), hK.step hKK⟩
   case measure => simp [intOf]; omega
  ·have hxb : q < 256 := by omega
   have happ := fun w2 A1 C1 => RW.app (L := [q]) (m := 1) (w1 := wr.alloc (.cells #[.int .u8 (q : Nat)] 5)) (w2 := w2) (A1 := A1) (C1 := C1) hFl hp rfl h0 h1 h2 h3 h4 h5 (Kept.of_below (below_alloc _ _)) rfl (by simpa using hxb)
   have hcell := cell_alloc_l (W := wr) (.cells #[.int .u8 (q : Nat)] 5) c0
   have hfro := frozen_alloc_l (W := wr) (.cells #[.int .u8 (q : Nat)] 5) c0 f0
   have hown := owns_thru h1 (below_alloc wr (.cells #[.int .u8 (q : Nat)] 5))
   have hn1 := cell_one_new wr (.int .u8 (q : Nat)) 5
   rw [encN_lo (by omega)] at he
   have HE : Hid (pre ++ [q] = encN m) := he
   have hne : ∀ g, (Value.slice A ys.length C).ownBlock = some g → g ≠ p := fun g hgg e => by
    obtain ⟨_, _, cur, hc⟩ := owns_cells h1 g hgg
    subst e
    rw [h0] at hc; cases hc
   have hlc : lc [q] = [.int .u8 (q : Nat)] := by simp [lc]
   rw [hlc] at happ
   clear h0 h1 h2 h3 h5 he hl6 hlc
   generalize hnl : ys.length = nl at *
   clear hnl
   go_wp2_with (at_builtin; go_must (refine wpList_append_foot _ rfl (.tmp 34) (.tmp 37) 26 rfl 5 i0 (.int .u8 0) 1 Tryz.underlying26 hi hq0 hq1 hq2 rfl 0 _ nl (lc ys) rfl hown (some ⟨wr.heap.size, 0, none⟩) 1 1 [.int .u8 (q : Nat)] rfl rfl (fun e => by cases e) (fun ad e => by cases e; exact hn1) (by simp [Value.oneCell']) (by unfold maxLen; omega) (by omega) (by omega) ?_); intro A1 C1 w1 hown1 hg1; have hc1 := (hg1.kept (F := fun k => k ≠ p) hne).cell hcell (fun h => h rfl); have hf1 := (hg1.kept (F := fun k => k ≠ p) hne).unfrozen hcell (fun h => h rfl) hfro)
   obtain ⟨hR, hKK⟩ := happ w1 A1 C1 hown1 hg1
   rw [putRaw_snoc, HE.out] at hR
   go_end0
   exact ⟨rfl, hR.mono (fun j hj => hj.sub hKK.size hK.size) (by omega), hK.step hKK⟩
open Go.RowKit
theorem RW.ne {w : World} {p n C : Nat} {A : Option Addr} {x : Value} {xs : List Value} (h0 : w.heap[p]? = some (.cells #[.slice A n C, x] 59 (0, 0))) (h1 : w.ownsRow 0 5 1 (.slice A n C) n xs) :
  ∀ g, (Value.slice A n C).ownBlock = some g → g ≠ p := fun g hgg e => by
 obtain ⟨_, _, cur, hc⟩ := owns_cells h1 g hgg
 subst e
 rw [h0] at hc; cases hc
theorem refFixed_any (p : Nat) (F : Nat → Prop) (S : Option (List Nat)) (N n : Nat) (w : World) (h : RW w p F S N) (hF : ∀ k, F k → k < w.heap.size) (hn : n < 4294967296) (hN : N + 6 ≤ 140737488355328) :
  Calls Tryz.prog 30 #[.pointer (some ⟨p, 0, none⟩), .int .u32 n] w fun e w' => e = .returned (.tuple #[]) ∧ RW w' p (Fnew F w w') (putRaw S (fixB n)) (N + 4) ∧ Kept F w w' := by
 obtain ⟨i0, hi, hq0, hq1, hq2⟩ := info_parts info_u8
 have hnew := fix_bl w n
 have e1 : ((n % 256 : Nat) : Int) = (n : Int) % 256 := by omega
 have e2 : ((n / 256 % 256 : Nat) : Int) = (n : Int) / 256 % 256 := by omega
 have e3 : ((n / 65536 % 256 : Nat) : Int) = (n : Int) / 65536 % 256 := by omega
 have e4 : ((n / 16777216 % 256 : Nat) : Int) = (n : Int) / 16777216 := by omega
 rw [e1, e2, e3, e4] at hnew
 clear e1 e2 e3 e4
 obtain ⟨W0, hW0⟩ : ∃ W0, w.alloc (.cells #[.int .u8 ((n : Int) % 256), .int .u8 ((n : Int) / 256 % 256), .int .u8 ((n : Int) / 65536 % 256), .int .u8 ((n : Int) / 16777216)] 5) = W0 := ⟨_, rfl⟩
 have hbel : Below w.heap.size w W0 := by rw [← hW0]; exact below_alloc w _
 have hab : Kept (fun _ => False) w W0 := Kept.of_below hbel
 rw [hW0] at hnew
 obtain ⟨hp, A, C, ys, h0, h1, h2, h3, h4, h5⟩ := h
 obtain ⟨c0, c1, f0, f1⟩ := cells2 h0
 have happ := fun w2 A1 C1 => RW.app (L := fixB n) (m := 4) (w1 := W0) (w2 := w2) (A1 := A1) (C1 := C1) hF hp rfl h0 h1 h2 h3 h4 h5 hab rfl (fixB_lt n)
 have hcell := hab.cell c0 (fun h => h)
 have hfro := hab.unfrozen c0 (fun h => h) f0
 have hown := owns_thru h1 hbel
 have hne := RW.ne h0 h1
 have hn1 := hnew.news
 have hl1 := lc_one (fixB n)
 have hl2 : (lc (fixB n)).length = 4 := rfl
 generalize lc (fixB n) = news at *
 clear h0 h1 h2 h3 h5 hbel hnew hab
 generalize hnl : ys.length = nl at *
 clear hnl
 go_enter Tryz.func30, Tryz.ntmps30
 go_wp2_with (at_builtin; go_must (refine wpList_append_foot _ rfl (.tmp 8) (.tmp 20) 26 rfl 5 i0 (.int .u8 0) 1 Tryz.underlying26 hi hq0 hq1 hq2 rfl 0 _ nl (lc ys) rfl hown (some ⟨w.heap.size, 0, none⟩) 4 4 news rfl hl2 (fun e => by cases e) hn1 hl1 (by unfold maxLen; omega) (by omega) (by omega) ?_); intro A1 C1 w1 hown1 hg1; have hc1 := (hg1.kept (F := fun k => k ≠ p) hne).cell hcell (fun h => h rfl); have hf1 := (hg1.kept (F := fun k => k ≠ p) hne).unfrozen hcell (fun h => h rfl) hfro)
 go_end0
 obtain ⟨hR, hKK⟩ := happ w1 A1 C1 hown1 hg1
 exact ⟨rfl, hR, hKK⟩
theorem refText_any (p : Nat) (F : Nat → Prop) (S : Option (List Nat)) (N : Nat) (a : Option Addr) (len cap : Nat) (L : List Nat) (w : World) (h : RW w p F S N) (hF : ∀ k, F k → k < w.heap.size) (hL : L.length = len) (hlc : len ≤ cap) (hn : a = none → cap = 0) (had : ∀ g off s, a = some ⟨g, off, s⟩ → 0 < len → ¬ F g ∧ g < w.heap.size) (hN : N + 6 + len ≤ 140737488355328) (hb : BL w a L) :
  Calls Tryz.prog 29 #[.pointer (some ⟨p, 0, none⟩), .slice a len cap] w fun e w' => e = .returned (.tuple #[]) ∧ RW w' p (Fnew F w w') (putText S L) (N + 6 + len) ∧ Kept F w w' := by
 obtain ⟨i0, hi, hq0, hq1, hq2⟩ := info_parts info_u8
 have hnum := refNumber_any p F S N (len : Nat) w h hF (wf64 (by omega) (by omega)) (by omega)
 go_enter Tryz.func29, Tryz.ntmps29
 go_wp2_with fail
 refine hnum.mono ?_
 rintro e w1 ⟨rfl, hW, hK⟩
 have hF1 : ∀ j, Fnew F w w1 j → j < w1.heap.size := fun j hj => hj.lt hF hK.size
 have hb1 := hb.kept0 hK (fun g o s e h0 => (had g o s e (by omega)).1)
 obtain ⟨hp, A, C, ys, h0, h1, h2, h3, h4, h5⟩ := hW
 obtain ⟨c0, c1, f0, f1⟩ := cells2 h0
 have happ := fun w2 A1 C1 => RW.app (L := L) (m := len) (w1 := w1) (w2 := w2) (A1 := A1) (C1 := C1) hF1 hp rfl h0 h1 h2 h3 h4 h5 (Kept.refl _ _) hL hb.lt
 have hne := RW.ne h0 h1
 have hn1 := hb1.news
 have hl1 := lc_one L
 have hl2 : (lc L).length = len := by rw [lc_length, hL]
 have HS : Hid (putText S L = putRaw (putNum S (len : Nat)) L) := by rw [← hL]; rfl
 have hnone : a = none → len = 0 ∧ cap = 0 := fun h => by have := hn h; omega
 generalize lc L = news at *
 clear h0 h2 h3 h5 hb hb1 hL hn hnum h
 generalize hnl : ys.length = nl at *
 clear hnl
 go_wp2_with (at_builtin; go_must (refine wpList_append_foot _ rfl (.tmp 12) (.tmp 13) 26 rfl 5 i0 (.int .u8 0) 1 Tryz.underlying26 hi hq0 hq1 hq2 rfl 0 _ nl (lc ys) rfl h1 a len cap news rfl hl2 hnone hn1 hl1 (by unfold maxLen; omega) (by omega) (by omega) ?_); intro A1 C1 w2 hown1 hg1; have hc1 := (hg1.kept (F := fun k => k ≠ p) hne).cell c0 (fun h => h rfl); have hf1 := (hg1.kept (F := fun k => k ≠ p) hne).unfrozen c0 (fun h => h rfl) f0)
 go_end0
 obtain ⟨hR, hKK⟩ := happ w2 A1 C1 hown1 hg1
 refine ⟨rfl, by rw [HS.out]; exact hR.mono (fun j hj => hj.sub hKK.size hK.size) (by omega), hK.step hKK⟩
end Go.Proofs.YtpmldopbjlnknaaGreat
