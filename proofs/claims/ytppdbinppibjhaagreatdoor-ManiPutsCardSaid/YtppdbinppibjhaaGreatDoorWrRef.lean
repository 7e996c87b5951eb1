/-
  The program's writer puts fixed numbers, texts, rising rows.
-/
import Derived.Test.YtppdbinppibjhaaGreatDoorWrAll
set_option maxHeartbeats 2000000
set_option maxRecDepth 100000
set_option linter.unusedVariables false
set_option linter.unusedSimpArgs false
namespace Go.Proofs.YtppdbinppibjhaaGreatDoor
open Go.RowKit
theorem cell_new4 (w : World) (a b c d : Value) (t : TypeId) (i : Nat) : (w.alloc (.cells #[a, b, c, d] t)).cell? ⟨w.heap.size, i, none⟩ = #[a, b, c, d][i]? := by
 rw [cell_of_row _ _ _ _ _ _ (heap_alloc_new _ _)]
theorem fix_bl (w : World) (n : Nat) : BL (w.alloc (.cells #[.int .u8 ((n % 256 : Nat) : Int), .int .u8 ((n / 256 % 256 : Nat) : Int), .int .u8 ((n / 65536 % 256 : Nat) : Int), .int .u8 ((n / 16777216 % 256 : Nat) : Int)] 5)) (some ⟨w.heap.size, 0, none⟩) (fixB n) := by
 refine BL.mk (fixB_lt n) (.inr ⟨_, 0, rfl, fun i hi => ?_⟩)
 rw [Nat.zero_add, cell_new4]
 have : i < 4 := hi
 match i, this with
 | 0, _ | 1, _ | 2, _ | 3, _ => rfl
theorem fixed_wp (pv : Value) (F : Nat → Prop) (S : Option (List Nat)) (n : Nat) (w : World) (hn : n < 4294967296) (h : WP w pv F S) (hF : ∀ k, F k → k < w.heap.size) (hsz : szO S + 4 ≤ 140737488355328) :
  Calls Tryz.prog 42 #[pv, .int .u32 n] w fun e w' => e = .returned (.tuple #[]) ∧ WP w' pv (Fnew F w w') (putRaw S (fixB n)) ∧ Kept F w w' := by
 obtain ⟨pa, hpv⟩ := h.form
 have hnew := fix_bl w n
 have e1 : ((n % 256 : Nat) : Int) = (n : Int) % 256 := by omega
 have e2 : ((n / 256 % 256 : Nat) : Int) = (n : Int) / 256 % 256 := by omega
 have e3 : ((n / 65536 % 256 : Nat) : Int) = (n : Int) / 65536 % 256 := by omega
 have e4 : ((n / 16777216 % 256 : Nat) : Int) = (n : Int) / 16777216 := by omega
 rw [e1, e2, e3, e4] at hnew
 clear e1 e2 e3 e4
 obtain ⟨W0, hW0⟩ : ∃ W0, w.alloc (.cells #[.int .u8 ((n : Int) % 256), .int .u8 ((n : Int) / 256 % 256), .int .u8 ((n : Int) / 65536 % 256), .int .u8 ((n : Int) / 16777216)] 5) = W0 := ⟨_, rfl⟩
 have hs0 : W0.heap.size = w.heap.size + 1 := by rw [← hW0]; simp
 have hab : Kept (fun _ => False) w W0 := by rw [← hW0]; exact Kept.of_below (below_alloc w _)
 rw [hW0] at hnew
 have hp := put_wp pv F S (some ⟨w.heap.size, 0, none⟩) 4 4 (fixB n) W0 (h.kept hab (fun _ _ h => h)) (fun k hk => by have := hF k hk; omega) rfl (fun e => by cases e) (by omega) (fun g off s e _ hg => by cases e; have := hF _ hg; omega) hsz hnew
 clear hnew
 have HS := hide hs0
 clear hs0
 subst hpv
 go_enter Tryz.func42, Tryz.ntmps42
 go_wp2_with fail
 refine hp.mono ?_
 rintro e w1 ⟨rfl, h1, h2⟩
 go_wp2_with fail
 go_end0
 refine ⟨rfl, h1.mono (fun k hk => ?_), (hab.mono (fun _ _ h => h.elim)).trans h2 (fun _ _ h => h)⟩
 rcases hk with hk | hk
 ·exact .inl hk
 ·exact .inr ⟨by have := HS.out; omega, hk.2⟩
theorem putRow_bad (S : Option (List Nat)) (f : Nat → Int) (k n : Nat) (h : putRow S f k = none) (hn : k ≤ n) : putRow S f n = none := by
 induction n with
 | zero => have : k = 0 := by omega
           subst this; exact h
 | succ n ih =>
   by_cases e : k = n + 1
   ·subst e; exact h
   ·show putGap (putRow S f n) (ahead f n) (f n) = none
    rw [ih (by omega)]
    unfold putGap; split <;> rfl
theorem rising_wp (pv : Value) (F : Nat → Prop) (S : Option (List Nat)) (a : Option Addr) (n cap : Nat) (f : Nat → Int) (w : World) (h : WP w pv F S) (hF : ∀ k, F k → k < w.heap.size)
  (had : ∀ g off s, a = some ⟨g, off, s⟩ → 0 < n → ¬ F g) (hn : n ≤ 9223372036854775807) (hsz : szO S + 6 + 6 * n ≤ 140737488355328) (hf : ∀ i, (Lit.int .i64 (f i)).wf = true) (hb : Ints w a n f) :
  Calls Tryz.prog 43 #[pv, .slice a n cap] w fun e w' => e = .returned (.tuple #[]) ∧ WP w' pv (Fnew F w w') (putRising S f n) ∧ Kept F w w' := by
 obtain ⟨pa, hpv⟩ := h.form
 subst hpv
 have hnum0 := number_one (.pointer pa) F S (n : Nat) w h hF (by omega) _ rfl
 go_enter Tryz.func43, Tryz.ntmps43
 go_step3
 go_wp2_with fail
 refine hnum0.mono ?_
 rintro e w1 ⟨rfl, hW1, hK1⟩
 clear hnum0
 go_wp2_with fail
 go_step3
 go_wp2_with fail
 go_loopg [4, 14] n (fun q s4 s14 wr => ∃ k : Nat, k + q = n ∧ s14 = .int .i64 k ∧ s4 = .int .i64 (ahead f k) ∧ -1 ≤ ahead f k ∧ WP wr (.pointer pa) (Fnew F w wr) (putRow (putNum S (n : Nat)) f k) ∧ Kept F w wr)
 case atStart => exact ⟨0, by omega, rfl, rfl, by simp [ahead], hW1, hK1⟩
 case round =>
  obtain ⟨k, hkq, rfl, rfl, hah, hW, hK⟩ := hrel
  clear hW1 hK1 h
  cases gk with
  | zero =>
    obtain rfl : k = n := by omega
    clear hah
    go_wp2_with fail
    rw [Exit.noGoto_normal]
    go_end0
    exact ⟨rfl, hW, hK⟩
  | succ q =>
    have hkz : (k : Int) < (n : Int) := by omega
    have hk0 : (0 : Int) ≤ (k : Int) := by omega
    obtain ⟨b, off, rfl, hc⟩ := hb.cell (by omega)
    have hcell := hK.cell (hc k (by omega)) (had b off none rfl (by omega))
    have hwf := bounds_i64 (hf k)
    have hFl : ∀ j, Fnew F w wr j → j < wr.heap.size := fun j hj => hj.lt hF hK.size
    have HS : Hid (putRow (putNum S (n : Nat)) f (k + 1) = putGap (putRow (putNum S (n : Nat)) f k) (ahead f k) (f k)) := rfl
    have HA : Hid (ahead f (k + 1) = f k) := rfl
    have hsk := putRow_sz (putNum S (n : Nat)) f k
    have hsk0 := putNum_sz S (n : Nat)
    have hfail := fail_wp (.pointer pa) (Fnew F w wr) _ wr hW
    have hbad := putRow_bad (putNum S (n : Nat)) f (k + 1) n
    clear hc hb
    generalize f k = x at *
    generalize ahead f k = A at *
    have hdone : putGap (putRow (putNum S (n : Nat)) f k) A x = none → ∀ w2, WP w2 (.pointer pa) (Fnew F w wr) none → Kept (Fnew F w wr) wr w2 → WP w2 (.pointer pa) (Fnew F w w2) (putRising S f n) ∧ Kept F w w2 := fun e w2 a1 a2 => by
     refine ⟨?_, hK.step a2⟩
     rw [show putRising S f n = none from hbad (by rw [HS.out, e]) (by omega)]
     exact a1.mono (fun j hj => hj.elim .inl (fun hj => .inr ⟨hj.1, by have := a2.size; omega⟩))
    clear hbad
    by_cases h1 : x ≤ A
    ·have hd := hdone (by unfold putGap; rw [if_pos (.inl h1)])
     clear hdone hsk hsk0
     go_wp2_with fail
     refine hfail.mono ?_
     rintro e w2 ⟨rfl, hW2, hK2⟩
     go_wp2_with fail
     rw [Exit.noGoto_normal]
     go_end0
     exact ⟨rfl, hd w2 hW2 hK2⟩
    ·by_cases h2 : 1099511627776 < x
     ·have hd := hdone (by unfold putGap maxNum; rw [if_pos (.inr (by simpa using h2))])
      clear hdone hsk hsk0
      go_wp2_with fail
      refine hfail.mono ?_
      rintro e w2 ⟨rfl, hW2, hK2⟩
      go_wp2_with fail
      rw [Exit.noGoto_normal]
      go_end0
      exact ⟨rfl, hd w2 hW2 hK2⟩
     ·have hg : putGap (putRow (putNum S (n : Nat)) f k) A x = putNum (putRow (putNum S (n : Nat)) f k) (x - A - 1) := by
       unfold putGap maxNum; rw [if_neg (by simp; omega)]
      rw [hg] at HS
      have hnum := number_one (.pointer pa) (Fnew F w wr) (putRow (putNum S (n : Nat)) f k) (x - A - 1) wr hW hFl (by omega) _ rfl
      clear hdone hsk hsk0 hg hfail
      go_wp2_with fail
      refine hnum.mono ?_
      rintro e w2 ⟨rfl, hW2, hK2⟩
      go_wp2_with fail
      go_roundg q
      case measure => omega
      case rel => exact ⟨k + 1, by omega, by go_num, by rw [HA.out], by rw [HA.out]; omega, by rw [HS.out]; exact hW2.mono (fun j hj => hj.sub hK2.size hK.size), hK.step hK2⟩
open Go.RowKit
def RW (w : World) (p : Nat) (F : Nat → Prop) (S : Option (List Nat)) (N : Nat) : Prop :=
 F p ∧ ∃ A C ys, w.heap[p]? = some (.cells #[.slice A ys.length C, .bool S.isNone] 57 (0, 0)) ∧ w.ownsRow 0 5 1 (.slice A ys.length C) ys.length (lc ys) ∧ (∀ b ∈ ys, b < 256) ∧
   (∀ g, (Value.slice A ys.length C).ownBlock = some g → F g) ∧ ys.length ≤ N ∧ ∀ xs, S = some xs → ys = xs
theorem RW.mono {w : World} {p N M : Nat} {F G : Nat → Prop} {S : Option (List Nat)} (h : RW w p F S N) (hFG : ∀ k, F k → G k) (hN : N ≤ M) : RW w p G S M := by
 obtain ⟨hp, A, C, ys, h0, h1, h2, h3, h4, h5⟩ := h
 exact ⟨hFG _ hp, A, C, ys, h0, h1, h2, fun g hg => hFG _ (h3 g hg), by omega, h5⟩
theorem RW.kept {w w' : World} {p N : Nat} {F G : Nat → Prop} {S : Option (List Nat)} (h : RW w p F S N) (hk : Kept G w w') (hd : ∀ k, F k → ¬ G k) : RW w' p F S N := by
 obtain ⟨hp, A, C, ys, h0, h1, h2, h3, h4, h5⟩ := h
 exact ⟨hp, A, C, ys, hk.heap h0 (hd _ hp), owns_kept h1 hk (fun g hg => hd _ (h3 g hg)), h2, h3, h4, h5⟩
theorem cells2 {w : World} {p : Nat} {a b : Value} {t : TypeId} (h : w.heap[p]? = some (.cells #[a, b] t (0, 0))) :
  w.cell? ⟨p, 0, none⟩ = some a ∧ w.cell? ⟨p, 1, none⟩ = some b ∧ w.frozen? ⟨p, 0, none⟩ = false ∧ w.frozen? ⟨p, 1, none⟩ = false :=
 ⟨by rw [cell_of_row _ _ _ _ _ _ h]; rfl, by rw [cell_of_row _ _ _ _ _ _ h]; rfl, frozen_of_row _ _ _ _ _ h, frozen_of_row _ _ _ _ _ h⟩
theorem RW.fail {w : World} {p N : Nat} {F : Nat → Prop} {S : Option (List Nat)} (h : RW w p F S N) : RW (w.setCell ⟨p, 1, none⟩ (.bool true)) p F none N ∧ Kept F w (w.setCell ⟨p, 1, none⟩ (.bool true)) := by
 obtain ⟨hp, A, C, ys, h0, h1, h2, h3, h4, h5⟩ := h
 refine ⟨⟨hp, A, C, ys, heap_setCell_same _ p 1 _ _ _ h0, ?_, h2, h3, h4, fun xs e => by cases e⟩, (Kept.refl F w).setCell (.inl hp) _⟩
 refine owns_kept h1 ((Kept.refl (fun k => k = p) w).setCell (.inl rfl) _) (fun g hg e => ?_)
 obtain ⟨_, _, cur, hc⟩ := owns_cells h1 g hg
 subst e
 rw [h0] at hc; cases hc
theorem RW.app {w w1 w2 : World} {p N m C C1 : Nat} {F : Nat → Prop} {S : Option (List Nat)} {A A1 : Option Addr} {ys L : List Nat} {bad : Bool} (hF : ∀ k, F k → k < w.heap.size) (hp : F p) (hbad : bad = S.isNone) (h0 : w.heap[p]? = some (.cells #[.slice A ys.length C, .bool bad] 57 (0, 0)))
  (h1 : w.ownsRow 0 5 1 (.slice A ys.length C) ys.length (lc ys)) (h2 : ∀ b ∈ ys, b < 256) (h3 : ∀ g, (Value.slice A ys.length C).ownBlock = some g → F g) (h4 : ys.length ≤ N) (h5 : ∀ xs, S = some xs → ys = xs)
  (hK : Kept (fun _ => False) w w1) (hL : L.length = m) (hb : ∀ b ∈ L, b < 256) (ho : w2.ownsRow 0 5 1 (.slice A1 (ys.length + m) C1) (ys.length + m) (lc ys ++ lc L)) (hg : Grew w1 w2 (.slice A ys.length C) (.slice A1 (ys.length + m) C1)) :
  RW (w2.setCell ⟨p, 0, none⟩ (.slice A1 (ys.length + m) C1)) p (Fnew F w (w2.setCell ⟨p, 0, none⟩ (.slice A1 (ys.length + m) C1))) (putRaw S L) (N + m) ∧ Kept F w (w2.setCell ⟨p, 0, none⟩ (.slice A1 (ys.length + m) C1)) := by
 have hne : ∀ g, (Value.slice A ys.length C).ownBlock = some g → g ≠ p := fun g hgg e => by
  obtain ⟨_, _, cur, hc⟩ := owns_cells h1 g hgg
  subst e
  rw [h0] at hc; cases hc
 have hx := hg.kept (F := fun k => F k ∧ k ≠ p) (fun g hgg => ⟨h3 g hgg, hne g hgg⟩)
 have hf := hg.foot (F := fun k => F k ∧ k ≠ p) (fun g hgg => ⟨h3 g hgg, hne g hgg⟩)
 have e : (ys ++ L).length = ys.length + m := by rw [List.length_append, hL]
 have hpl := hF p hp
 have hs1 := hK.size
 have hs2 := hx.size
 have hss : (w2.setCell ⟨p, 0, none⟩ (.slice A1 (ys.length + m) C1)).heap.size = w2.heap.size := by simp [World.setCell]
 refine ⟨⟨.inl hp, A1, C1, ys ++ L, ?_, ?_, ?_, ?_, by rw [e]; omega, ?_⟩, ?_⟩
 ·rw [e]
  have hh := hx.heap (hK.heap h0 (fun h => h)) (fun h => h.2 rfl)
  have hn : (putRaw S L).isNone = bad := by rw [hbad]; cases S <;> rfl
  rw [hn]
  exact heap_setCell_same _ p 0 _ _ _ hh
 ·rw [e, lc_append]
  refine owns_kept ho ((Kept.refl (fun k => k = p) w2).setCell (.inl rfl) _) (fun g hgg h => ?_)
  rcases hf g hgg with h' | h'
  ·exact h'.2 h
  ·omega
 ·intro b hbm
  rcases List.mem_append.1 hbm with h | h
  ·exact h2 b h
  ·exact hb b h
 ·rw [e]
  intro g hgg
  rcases hf g hgg with h' | h'
  ·exact .inl h'.1
  ·exact .inr ⟨by omega, by omega⟩
 ·intro xs hxs
  cases S with
  | none => cases hxs
  | some zs =>
    rw [h5 zs rfl]
    simpa [putRaw] using hxs
 ·exact ((hK.mono (fun _ _ h => h.elim)).trans hx (fun k _ hk => hk.1)).setCell (.inl hp) _
theorem refNumber_any (p : Nat) (F : Nat → Prop) (S : Option (List Nat)) (N : Nat) (x : Int) (w : World) (h : RW w p F S N) (hF : ∀ k, F k → k < w.heap.size) (hx : (Lit.int .i64 x).wf = true) (hN : N + 6 ≤ 140737488355328) :
  Calls Tryz.prog 29 #[.pointer (some ⟨p, 0, none⟩), .int .i64 x] w fun e w' => e = .returned (.tuple #[]) ∧ RW w' p (Fnew F w w') (putNum S x) (N + 6) ∧ Kept F w w' := by
 have hb := bounds_i64 hx
 by_cases hneg : x < 0
 ·rw [putNum_bad _ _ (.inl hneg)]
  have hf := h.fail
  obtain ⟨hp, A, C, ys, h0, _⟩ := h
  obtain ⟨c0, c1, f0, f1⟩ := cells2 h0
  clear h0
  go_enter Tryz.func29, Tryz.ntmps29
  go_wp2_with fail
  refine bodyPost_ret (results_none rfl _ _ _) rfl ?_
  exact ⟨rfl, hf.1.mono (fun k hk => .inl hk) (by omega), hf.2⟩
 by_cases hbig : (maxNum : Int) < x
 ·rw [putNum_bad _ _ (.inr hbig)]
  have hf := h.fail
  obtain ⟨hp, A, C, ys, h0, _⟩ := h
  obtain ⟨c0, c1, f0, f1⟩ := cells2 h0
  have hbig' : (1099511627776 : Int) < x := by unfold maxNum at hbig; simpa using hbig
  clear h0 hbig
  go_enter Tryz.func29, Tryz.ntmps29
  go_wp2_with fail
  refine bodyPost_ret (results_none rfl _ _ _) rfl ?_
  exact ⟨rfl, hf.1.mono (fun k hk => .inl hk) (by omega), hf.2⟩
 obtain ⟨m, rfl⟩ : ∃ m : Nat, x = (m : Int) := ⟨x.toNat, by omega⟩
 have hm : m ≤ maxNum := by omega
 rw [putNum_ok _ _ (by omega) (by omega), show ((m : Int)).toNat = m from by omega]
 have hl6 := encN_len6 hm
 have hm' : (m : Int) ≤ 1099511627776 := by unfold maxNum at hm; omega
 have hm0 : (0 : Int) ≤ (m : Int) := by omega
 clear hbig hneg hb hx
 obtain ⟨i0, hi, hq0, hq1, hq2⟩ := info_parts info_u8
 go_enter Tryz.func29, Tryz.ntmps29
 go_wp2_with fail
 go_loopw [1] (fun s1 wr => ∃ (q : Nat) (pre : List Nat), s1 = .int .i64 q ∧ q ≤ m ∧ pre ++ encN q = encN m ∧ RW wr p (Fnew F w wr) (putRaw S pre) (N + pre.length) ∧ Kept F w wr) (fun s1 _ => (intOf s1).toNat)
 case atStart => exact ⟨m, [], rfl, Nat.le_refl _, rfl, by rw [putRaw_nil]; exact h.mono (fun k hk => .inl hk) (by simp), Kept.refl _ _⟩
 case round =>
  obtain ⟨q, pre, rfl, hqm, he, hW, hK⟩ := hrel
  clear h
  have hFl : ∀ j, Fnew F w wr j → j < wr.heap.size := fun j hj => hj.lt hF hK.size
  have hpl : pre.length ≤ 5 := by
   have h1 := congrArg List.length he
   have h2 : 0 < (encN q).length := by
    by_cases h : q < 128
    ·rw [encN_lo h]; simp
    ·rw [encN_hi (by omega)]; simp
   simp at h1
   omega
  obtain ⟨hp, A, C, ys, h0, h1, h2, h3, h4, h5⟩ := hW
  obtain ⟨c0, c1, f0, f1⟩ := cells2 h0
  have hpw := hFl p hp
  by_cases hlt : 128 ≤ q
  ·have hxb : q % 128 + 128 < 256 := by omega
   have hv : ((q % 128 + 128 : Nat) : Int) = (q : Int) % 128 + 128 := by omega
   have happ := fun w2 A1 C1 => RW.app (L := [q % 128 + 128]) (m := 1) (w1 := wr.alloc (.cells #[.int .u8 ((q : Int) % 128 + 128)] 5)) (w2 := w2) (A1 := A1) (C1 := C1) hFl hp rfl h0 h1 h2 h3 h4 h5 (Kept.of_below (below_alloc _ _)) rfl (by simpa using hxb)
   have hcell := cell_alloc_l (W := wr) (.cells #[.int .u8 ((q : Int) % 128 + 128)] 5) c0
   have hfro := frozen_alloc_l (W := wr) (.cells #[.int .u8 ((q : Int) % 128 + 128)] 5) c0 f0
   have hown := owns_thru h1 (below_alloc wr (.cells #[.int .u8 ((q : Int) % 128 + 128)] 5))
   have hn1 := cell_one_new wr (.int .u8 ((q : Int) % 128 + 128)) 5
   rw [encN_hi hlt] at he
   have HE : Hid ((pre ++ [q % 128 + 128]) ++ encN (q / 128) = encN m) := by rw [List.append_assoc]; exact he
   have hne : ∀ g, (Value.slice A ys.length C).ownBlock = some g → g ≠ p := fun g hgg e => by
    obtain ⟨_, _, cur, hc⟩ := owns_cells h1 g hgg
    subst e
    rw [h0] at hc; cases hc
   have hlc : lc [q % 128 + 128] = [.int .u8 ((q : Int) % 128 + 128)] := by simp [lc]
   rw [hlc] at happ
   clear h0 h1 h2 h3 h5 he hl6 hv hlc
   generalize hnl : ys.length = nl at *
   clear hnl
   go_wp2_with (at_builtin; go_must (refine wpList_append_foot _ rfl (.tmp 19) (.tmp 24) 28 rfl 5 i0 (.int .u8 0) 1 Tryz.underlying28 hi hq0 hq1 hq2 rfl 0 _ nl (lc ys) rfl hown (some ⟨wr.heap.size, 0, none⟩) 1 1 [.int .u8 ((q : Int) % 128 + 128)] rfl rfl (fun e => by cases e) (fun ad e => by cases e; exact hn1) (by simp [Value.oneCell']) (by unfold maxLen; omega) (by omega) (by omega) ?_); intro A1 C1 w1 hown1 hg1; have hc1 := (hg1.kept (F := fun k => k ≠ p) hne).cell hcell (fun h => h rfl); have hf1 := (hg1.kept (F := fun k => k ≠ p) hne).unfrozen hcell (fun h => h rfl) hfro)
   obtain ⟨hR, hKK⟩ := happ w1 A1 C1 hown1 hg1
   go_roundw
   case rel => exact ⟨q / 128, pre ++ [q % 128 + 128], by go_num, by omega, HE.out, by rw [← putRaw_snoc]; exact hR.mono (fun j hj => hj.sub hKK.size hK.size) (by simp; omega), hK.step hKK⟩
   case measure => simp [intOf]; omega
  ·have hxb : q < 256 := by omega
   have happ := fun w2 A1 C1 => RW.app (L := [q]) (m := 1) (w1 := wr.alloc (.cells #[.int .u8 (q : Nat)] 5)) (w2 := w2) (A1 := A1) (C1 := C1) hFl hp rfl h0 h1 h2 h3 h4 h5 (Kept.of_below (below_alloc _ _)) rfl (by simpa using hxb)
   have hcell := cell_alloc_l (W := wr) (.cells #[.int .u8 (q : Nat)] 5) c0
   have hfro := frozen_alloc_l (W := wr) (.cells #[.int .u8 (q : Nat)] 5) c0 f0
   have hown := owns_thru h1 (below_alloc wr (.cells #[.int .u8 (q : Nat)] 5))
   have hn1 := cell_one_new wr (.int .u8 (q : Nat)) 5
   rw [encN_lo (by omega)] at he
   have HE : Hid (pre ++ [q] = encN m) := he
   have hne : ∀ g, (Value.slice A ys.length C).ownBlock = some g → g ≠ p := fun g hgg e => by
    obtain ⟨_, _, cur, hc⟩ := owns_cells h1 g hgg
    subst e
    rw [h0] at hc; cases hc
   have hlc : lc [q] = [.int .u8 (q : Nat)] := by simp [lc]
   rw [hlc] at happ
   clear h0 h1 h2 h3 h5 he hl6 hlc
   generalize hnl : ys.length = nl at *
   clear hnl
   go_wp2_with (at_builtin; go_must (refine wpList_append_foot _ rfl (.tmp 34) (.tmp 37) 28 rfl 5 i0 (.int .u8 0) 1 Tryz.underlying28 hi hq0 hq1 hq2 rfl 0 _ nl (lc ys) rfl hown (some ⟨wr.heap.size, 0, none⟩) 1 1 [.int .u8 (q : Nat)] rfl rfl (fun e => by cases e) (fun ad e => by cases e; exact hn1) (by simp [Value.oneCell']) (by unfold maxLen; omega) (by omega) (by omega) ?_); intro A1 C1 w1 hown1 hg1; have hc1 := (hg1.kept (F := fun k => k ≠ p) hne).cell hcell (fun h => h rfl); have hf1 := (hg1.kept (F := fun k => k ≠ p) hne).unfrozen hcell (fun h => h rfl) hfro)
   obtain ⟨hR, hKK⟩ := happ w1 A1 C1 hown1 hg1
   rw [putRaw_snoc, HE.out] at hR
   go_end0
   exact ⟨rfl, hR.mono (fun j hj => hj.sub hKK.size hK.size) (by omega), hK.step hKK⟩
open Go.RowKit
theorem RW.ne {w : World} {p n C : Nat} {A : Option Addr} {x : Value} {xs : List Value} (h0 : w.heap[p]? = some (.cells #[.slice A n C, x] 57 (0, 0))) (h1 : w.ownsRow 0 5 1 (.slice A n C) n xs) :
  ∀ g, (Value.slice A n C).ownBlock = some g → g ≠ p := fun g hgg e => by
 obtain ⟨_, _, cur, hc⟩ := owns_cells h1 g hgg
 subst e
 rw [h0] at hc; cases hc
theorem refFixed_any (p : Nat) (F : Nat → Prop) (S : Option (List Nat)) (N n : Nat) (w : World) (h : RW w p F S N) (hF : ∀ k, F k → k < w.heap.size) (hn : n < 4294967296) (hN : N + 6 ≤ 140737488355328) :
  Calls Tryz.prog 30 #[.pointer (some ⟨p, 0, none⟩), .int .u32 n] w fun e w' => e = .returned (.tuple #[]) ∧ RW w' p (Fnew F w w') (putRaw S (fixB n)) (N + 4) ∧ Kept F w w' := by
 obtain ⟨i0, hi, hq0, hq1, hq2⟩ := info_parts info_u8
 have hnew := fix_bl w n
 have e1 : ((n % 256 : Nat) : Int) = (n : Int) % 256 := by omega
 have e2 : ((n / 256 % 256 : Nat) : Int) = (n : Int) / 256 % 256 := by omega
 have e3 : ((n / 65536 % 256 : Nat) : Int) = (n : Int) / 65536 % 256 := by omega
 have e4 : ((n / 16777216 % 256 : Nat) : Int) = (n : Int) / 16777216 := by omega
 rw [e1, e2, e3, e4] at hnew
 clear e1 e2 e3 e4
 obtain ⟨W0, hW0⟩ : ∃ W0, w.alloc (.cells #[.int .u8 ((n : Int) % 256), .int .u8 ((n : Int) / 256 % 256), .int .u8 ((n : Int) / 65536 % 256), .int .u8 ((n : Int) / 16777216)] 5) = W0 := ⟨_, rfl⟩
 have hbel : Below w.heap.size w W0 := by rw [← hW0]; exact below_alloc w _
 have hab : Kept (fun _ => False) w W0 := Kept.of_below hbel
 rw [hW0] at hnew
 obtain ⟨hp, A, C, ys, h0, h1, h2, h3, h4, h5⟩ := h
 obtain ⟨c0, c1, f0, f1⟩ := cells2 h0
 have happ := fun w2 A1 C1 => RW.app (L := fixB n) (m := 4) (w1 := W0) (w2 := w2) (A1 := A1) (C1 := C1) hF hp rfl h0 h1 h2 h3 h4 h5 hab rfl (fixB_lt n)
 have hcell := hab.cell c0 (fun h => h)
 have hfro := hab.unfrozen c0 (fun h => h) f0
 have hown := owns_thru h1 hbel
 have hne := RW.ne h0 h1
 have hn1 := hnew.news
 have hl1 := lc_one (fixB n)
 have hl2 : (lc (fixB n)).length = 4 := rfl
 generalize lc (fixB n) = news at *
 clear h0 h1 h2 h3 h5 hbel hnew hab
 generalize hnl : ys.length = nl at *
 clear hnl
 go_enter Tryz.func30, Tryz.ntmps30
 go_wp2_with (at_builtin; go_must (refine wpList_append_foot _ rfl (.tmp 8) (.tmp 20) 28 rfl 5 i0 (.int .u8 0) 1 Tryz.underlying28 hi hq0 hq1 hq2 rfl 0 _ nl (lc ys) rfl hown (some ⟨w.heap.size, 0, none⟩) 4 4 news rfl hl2 (fun e => by cases e) hn1 hl1 (by unfold maxLen; omega) (by omega) (by omega) ?_); intro A1 C1 w1 hown1 hg1; have hc1 := (hg1.kept (F := fun k => k ≠ p) hne).cell hcell (fun h => h rfl); have hf1 := (hg1.kept (F := fun k => k ≠ p) hne).unfrozen hcell (fun h => h rfl) hfro)
 go_end0
 obtain ⟨hR, hKK⟩ := happ w1 A1 C1 hown1 hg1
 exact ⟨rfl, hR, hKK⟩
theorem refText_any (p : Nat) (F : Nat → Prop) (S : Option (List Nat)) (N : Nat) (a : Option Addr) (len cap : Nat) (L : List Nat) (w : World) (h : RW w p F S N) (hF : ∀ k, F k → k < w.heap.size) (hL : L.length = len) (hlc : len ≤ cap) (hn : a = none → cap = 0) (had : ∀ g off s, a = some ⟨g, off, s⟩ → 0 < len → ¬ F g ∧ g < w.heap.size) (hN : N + 6 + len ≤ 140737488355328) (hb : BL w a L) :
  Calls Tryz.prog 52 #[.pointer (some ⟨p, 0, none⟩), .slice a len cap] w fun e w' => e = .returned (.tuple #[]) ∧ RW w' p (Fnew F w w') (putText S L) (N + 6 + len) ∧ Kept F w w' := by
 obtain ⟨i0, hi, hq0, hq1, hq2⟩ := info_parts info_u8
 have hnum := refNumber_any p F S N (len : Nat) w h hF (wf64 (by omega) (by omega)) (by omega)
 go_enter Tryz.func52, Tryz.ntmps52
 go_wp2_with fail
 refine hnum.mono ?_
 rintro e w1 ⟨rfl, hW, hK⟩
 have hF1 : ∀ j, Fnew F w w1 j → j < w1.heap.size := fun j hj => hj.lt hF hK.size
 have hb1 := hb.kept0 hK (fun g o s e h0 => (had g o s e (by omega)).1)
 obtain ⟨hp, A, C, ys, h0, h1, h2, h3, h4, h5⟩ := hW
 obtain ⟨c0, c1, f0, f1⟩ := cells2 h0
 have happ := fun w2 A1 C1 => RW.app (L := L) (m := len) (w1 := w1) (w2 := w2) (A1 := A1) (C1 := C1) hF1 hp rfl h0 h1 h2 h3 h4 h5 (Kept.refl _ _) hL hb.lt
 have hne := RW.ne h0 h1
 have hn1 := hb1.news
 have hl1 := lc_one L
 have hl2 : (lc L).length = len := by rw [lc_length, hL]
 have HS : Hid (putText S L = putRaw (putNum S (len : Nat)) L) := by rw [← hL]; rfl
 have hnone : a = none → len = 0 ∧ cap = 0 := fun h => by have := hn h; omega
 generalize lc L = news at *
 clear h0 h2 h3 h5 hb hb1 hL hn hnum h
 generalize hnl : ys.length = nl at *
 clear hnl
 go_wp2_with (at_builtin; go_must (refine wpList_append_foot _ rfl (.tmp 12) (.tmp 13) 28 rfl 5 i0 (.int .u8 0) 1 Tryz.underlying28 hi hq0 hq1 hq2 rfl 0 _ nl (lc ys) rfl h1 a len cap news rfl hl2 hnone hn1 hl1 (by unfold maxLen; omega) (by omega) (by omega) ?_); intro A1 C1 w2 hown1 hg1; have hc1 := (hg1.kept (F := fun k => k ≠ p) hne).cell c0 (fun h => h rfl); have hf1 := (hg1.kept (F := fun k => k ≠ p) hne).unfrozen c0 (fun h => h rfl) f0)
 go_end0
 obtain ⟨hR, hKK⟩ := happ w2 A1 C1 hown1 hg1
 refine ⟨rfl, by rw [HS.out]; exact hR.mono (fun j hj => hj.sub hKK.size hK.size) (by omega), hK.step hKK⟩
theorem refBytes_any (p : Nat) (F : Nat → Prop) (S : Option (List Nat)) (N : Nat) (w : World) (h : RW w p F S N) (hN : N ≤ 140737488355328) :
  Calls Tryz.prog 32 #[.pointer (some ⟨p, 0, none⟩)] w fun e w' => ∃ v, e = .returned v ∧ w'.ownsRow w.heap.size 5 1 v (szO S) (lc (hasO S)) ∧ Below w.heap.size w w' := by
 obtain ⟨i0, hi, hq0, hq1, hq2⟩ := info_parts info_u8
 obtain ⟨hp, A, C, ys, h0, h1, h2, h3, h4, h5⟩ := h
 obtain ⟨c0, c1, f0, f1⟩ := cells2 h0
 cases S with
 | none =>
   simp only [Option.isNone_none] at c1
   clear h0 h1 h2 h3 h4 h5
   go_enter Tryz.func32, Tryz.ntmps32
   go_wp2
   go_ret
   exact ⟨_, rfl, World.ownsRow_nil _ _ _ _, Below.refl _ _⟩
 | some xs =>
   have e := h5 xs rfl
   subst e
   simp only [Option.isNone_some] at c1
   obtain ⟨_, A', C', e, hAC, _, hAn, _, hbl, _⟩ := owns_bl h1 h2
   cases e
   have hown : (w.alloc (.cells #[] 5)).ownsRow w.heap.size 5 1 (.slice (some ⟨w.heap.size, 0, none⟩) 0 0) 0 [] := World.ownsRow_made w #[] 0 (Nat.le_refl _) (by unfold maxLen; omega) rfl
   have hb := below_alloc w (.cells #[] 5)
   have hcell := cell_alloc_l (W := w) (.cells #[] 5) c0
   have hnews := (hbl.below hb).news
   have hone := lc_one ys
   have hlen : (lc ys).length = ys.length := lc_length ys
   have hnone : A = none → ys.length = 0 ∧ C = 0 := fun h => by
    have := hAn h
    omega
   clear h0 h1 h2 h3 h5 hbl hAn
   have HL : Hid ((lc (hasO (some ys))) = lc ys ∧ szO (some ys) = ys.length) := ⟨rfl, rfl⟩
   generalize lc ys = news at *
   go_enter Tryz.func32, Tryz.ntmps32
   go_wp2_with (at_builtin; go_must (refine wpList_append_foot _ rfl (.tmp 7) (.tmp 11) 28 rfl 5 i0 (.int .u8 0) 1 Tryz.underlying28 hi hq0 hq1 hq2 rfl w.heap.size _ 0 [] rfl hown A ys.length C news rfl hlen hnone hnews hone (by unfold maxLen; omega) (by omega) (by simp) ?_); intro A1 C1 w1 hown1 hg1)
   go_ret
   simp only [Nat.zero_add, List.nil_append] at hown1 hg1
   exact ⟨_, rfl, by rw [HL.out.1, HL.out.2]; exact hown1, hb.trans ((hg1.kept (F := fun k => k = w.heap.size) (fun g hg => by cases hg; rfl)).below (fun k hk => by omega) (by simp))⟩
theorem gap_bad (f : Nat → Int) (k : Nat) (hah : -1 ≤ ahead f k) : (f k ≤ ahead f k ∨ (maxNum : Int) < f k) ↔ (f k < 0 ∨ (1099511627776 : Int) < f k ∨ (0 < k ∧ f k ≤ f (k - 1))) := by
 unfold maxNum
 cases k with
 | zero => simp only [ahead] at *; simp; omega
 | succ k => simp only [ahead] at *; simp; omega
theorem refRising_any (p : Nat) (F : Nat → Prop) (S : Option (List Nat)) (N : Nat) (a : Option Addr) (n cap : Nat) (f : Nat → Int) (w : World) (h : RW w p F S N) (hF : ∀ k, F k → k < w.heap.size) (had : ∀ g off s, a = some ⟨g, off, s⟩ → 0 < n → ¬ F g) (hf : ∀ i, (Lit.int .i64 (f i)).wf = true) (hN : N + 6 + 6 * n ≤ 140737488355328) (hb : Ints w a n f) :
  Calls Tryz.prog 31 #[.pointer (some ⟨p, 0, none⟩), .slice a n cap] w fun e w' => e = .returned (.tuple #[]) ∧ RW w' p (Fnew F w w') (putRising S f n) (N + 6 + 6 * n) ∧ Kept F w w' := by
 have hnum := refNumber_any p F S N (n : Nat) w h hF (wf64 (by omega) (by omega)) (by omega)
 go_enter Tryz.func31, Tryz.ntmps31
 go_wp2_with fail
 refine hnum.mono ?_
 rintro e w1 ⟨rfl, hW1, hK1⟩
 clear hnum h
 go_wp2_with fail
 go_loopg [4] n (fun q s4 wr => ∃ k : Nat, k + q = n ∧ s4 = .int .i64 k ∧ -1 ≤ ahead f k ∧ RW wr p (Fnew F w wr) (putRow (putNum S (n : Nat)) f k) (N + 6 + 6 * k) ∧ Kept F w wr)
 case atStart => exact ⟨0, by omega, rfl, by simp [ahead], hW1, hK1⟩
 case round =>
  obtain ⟨k, hkq, rfl, hah, hW, hK⟩ := hrel
  clear hW1 hK1
  cases gk with
  | zero =>
    obtain rfl : k = n := by omega
    clear hah
    go_wp2_with fail
    go_end0
    exact ⟨rfl, hW, hK⟩
  | succ q =>
    have hkz : (k : Int) < (n : Int) := by omega
    have hk0 : (0 : Int) ≤ (k : Int) := by omega
    obtain ⟨b, off, rfl, hc⟩ := hb.cell (by omega)
    have hcell := hK.cell (hc k (by omega)) (had b off none rfl (by omega))
    have hcell2 : 0 < k → wr.cell? ⟨b, off + (k - 1), none⟩ = some (.int .i64 (f (k - 1))) := fun h => hK.cell (hc (k - 1) (by omega)) (had b off none rfl (by omega))
    have hwf := bounds_i64 (hf k)
    have hwf2 := bounds_i64 (hf (k - 1))
    have hFl : ∀ j, Fnew F w wr j → j < wr.heap.size := fun j hj => hj.lt hF hK.size
    have HS : Hid (putRow (putNum S (n : Nat)) f (k + 1) = putGap (putRow (putNum S (n : Nat)) f k) (ahead f k) (f k)) := rfl
    have hgb := gap_bad f k hah
    have hA : 0 < k → ahead f k = f (k - 1) := fun h => by
     obtain ⟨j, rfl⟩ : ∃ j, k = j + 1 := ⟨k - 1, by omega⟩
     rfl
    have hA0 : k = 0 → ahead f k = -1 := fun h => by subst h; rfl
    have hbad := putRow_bad (putNum S (n : Nat)) f (k + 1) n
    by_cases hB : f k ≤ ahead f k ∨ (maxNum : Int) < f k
    ·have hd : ∀ m, RW ((wr.drewN m).setCell ⟨p, 1, none⟩ (.bool true)) p (Fnew F w ((wr.drewN m).setCell ⟨p, 1, none⟩ (.bool true))) (putRising S f n) (N + 6 + 6 * n) ∧ Kept F w ((wr.drewN m).setCell ⟨p, 1, none⟩ (.bool true)) := fun m => by
      have hWm : RW (wr.drewN m) p (Fnew F w (wr.drewN m)) (putRow (putNum S (n : Nat)) f k) (N + 6 + 6 * k) := hW
      have hh := hWm.fail
      rw [show putRising S f n = none from hbad (by rw [HS.out]; unfold putGap; rw [if_pos hB]) (by omega)]
      refine ⟨hh.1.mono (fun j hj => ?_) (by omega), (hK.drewN m).step hh.2⟩
      rcases hj with hj | hj
      ·exact .inl hj
      ·exact .inr ⟨hj.1, by simp [World.setCell]; simp at hj; omega⟩
     obtain ⟨hp, A, C, ys, h0, _⟩ := hW
     obtain ⟨c0, c1, f0, f1⟩ := cells2 h0
     rw [hgb] at hB
     have HB := hide hB
     have HD := hide hd
     have HC2 := hide hcell2
     clear hd hgb hbad hc h0 hA hA0 hah hB hcell2
     go_upto_region 5 with fail
     go_cut [28] (fun s wx => s = .bool true ∧ ∃ m, wx = wr.drewN m)
     case first =>
      by_cases a1 : f k < 0
      ·have e1 : decide (f k < 0) = true := decide_eq_true a1
       go_quiet (fail)
       all_goals
        go_wp2_with fail
        go_meet
        exact ⟨rfl, _, rfl⟩
      ·have a1' : 0 ≤ f k := by omega
       have e1 : decide (f k < 0) = false := decide_eq_false a1
       by_cases a2 : (1099511627776 : Int) < f k
       ·have e2 : decide ((1099511627776 : Int) < f k) = true := decide_eq_true a2
        go_quiet (fail)
        all_goals
         go_wp2_with fail
         go_meet
         exact ⟨rfl, _, rfl⟩
       ·have a3 : 0 < k ∧ f k ≤ f (k - 1) := by
         rcases HB.out with h | h | h
         ·exact absurd h a1
         ·exact absurd h a2
         ·exact h
        have hcell2 := HC2.out a3.1
        have a4 := a3.2
        have a2' : f k ≤ 1099511627776 := by omega
        obtain ⟨j, rfl⟩ : ∃ j, k = j + 1 := ⟨k - 1, by omega⟩
        simp only [Nat.add_sub_cancel] at hcell2 a4
        have hj0 : (0 : Int) < ((j + 1 : Nat) : Int) := by omega
        have hwr : IntKind.i64.wrap (((j + 1 : Nat) : Int) - 1) = (j : Int) := by rw [show ((j + 1 : Nat) : Int) - 1 = (j : Int) from by omega]; exact IntWalk.i64_in _ (by omega)
        have hj1 : (j : Int) < (n : Int) := by omega
        have hj2 : (0 : Int) ≤ (j : Int) := by omega
        have e2 : decide ((1099511627776 : Int) < f (j + 1)) = false := decide_eq_false a2
        have e3 : decide ((0 : Int) < (j : Int) + 1) = true := decide_eq_true (by omega)
        have e4 : decide (f (j + 1) ≤ f j) = true := decide_eq_true a4
        clear a3 a1 a2
        generalize f (j + 1) = x at *
        generalize f j = y at *
        go_quiet (fail)
        all_goals
         go_wp2_with fail
         go_meet
         exact ⟨rfl, _, rfl⟩
     case rest =>
      obtain ⟨rfl, m, rfl⟩ := hcut
      go_wp2_with fail
      refine bodyPost_ret (results_none rfl _ _ _) rfl ?_
      exact ⟨rfl, HD.out m⟩
    ·have hB0 := hB
     rw [hgb] at hB
     have hx0 : 0 ≤ f k := by omega
     have hx1 : f k ≤ 1099511627776 := by omega
     have hg : putGap (putRow (putNum S (n : Nat)) f k) (ahead f k) (f k) = putNum (putRow (putNum S (n : Nat)) f k) (f k - ahead f k - 1) := by
      unfold putGap; rw [if_neg hB0]
     rw [hg] at HS
     have hnum := fun (m : Nat) (X : Int) (hX : X = f k - ahead f k - 1) => refNumber_any p (Fnew F w (wr.drewN m)) (putRow (putNum S (n : Nat)) f k) (N + 6 + 6 * k) X (wr.drewN m) hW hFl (wf64 (by omega) (by omega)) (by omega)
     have hdone : ∀ (m : Nat) (X : Int) w2, X = f k - ahead f k - 1 → RW w2 p (Fnew (Fnew F w (wr.drewN m)) (wr.drewN m) w2) (putNum (putRow (putNum S (n : Nat)) f k) X) (N + 6 + 6 * k + 6) → Kept (Fnew F w (wr.drewN m)) (wr.drewN m) w2 →
       RW w2 p (Fnew F w w2) (putRow (putNum S (n : Nat)) f (k + 1)) (N + 6 + 6 * (k + 1)) ∧ Kept F w w2 := fun m X w2 e h1 h2 => by
      subst e
      refine ⟨?_, (hK.drewN m).step h2⟩
      rw [HS.out]
      exact h1.mono (fun j hj => hj.sub h2.size hK.size) (by omega)
     have hah2 : Hid (-1 ≤ ahead f (k + 1)) := by show -1 ≤ f k; omega
     clear hg hgb hbad hB0 hW hc
     have e1 : decide (f k < 0) = false := decide_eq_false (by omega)
     have e2 : decide ((1099511627776 : Int) < f k) = false := decide_eq_false (by omega)
     by_cases hk : k = 0
     ·subst hk
      have hX := hA0 rfl
      have hnum0 := fun m => hnum m (f 0) (by rw [hX]; omega)
      have hdone0 := fun m w2 => hdone m (f 0) w2 (by rw [hX]; omega)
      clear hA hA0 hX hcell2 hnum hdone hB hwf2
      simp only [Nat.add_zero] at hcell
      generalize f 0 = x at *
      go_upto_region 5 with fail
      go_cut [28] (fun s wx => s = .bool false ∧ ∃ m, wx = wr.drewN m)
      case first =>
       go_quiet (fail)
       all_goals
        go_wp2_with fail
        go_meet
        exact ⟨rfl, _, rfl⟩
      case rest =>
       obtain ⟨rfl, m, rfl⟩ := hcut
       go_wp2_with fail
       refine (hnum0 m).mono ?_
       rintro e w2 ⟨rfl, hW2, hK2⟩
       have hd := hdone0 m w2 hW2 hK2
       go_wp2_with fail
       go_roundg q
       case measure => omega
       case rel => exact ⟨0 + 1, by omega, by go_num, hah2.out, hd⟩
     ·obtain ⟨j, rfl⟩ : ∃ j, k = j + 1 := ⟨k - 1, by omega⟩
      have hX := hA (by omega)
      simp only [Nat.add_sub_cancel] at hcell2 hX hB hwf2
      have hc2 := hcell2 (by omega)
      have hB3 : f j < f (j + 1) := by
       rcases Int.lt_or_le (f j) (f (j + 1)) with h | h
       ·exact h
       ·exact absurd (.inr (.inr ⟨by omega, h⟩)) hB
      have hnum0 := fun m => hnum m (f (j + 1) - f j - 1) (by rw [hX])
      have hdone0 := fun m w2 => hdone m (f (j + 1) - f j - 1) w2 (by rw [hX])
      rw [hX] at hah
      have e3 : decide ((0 : Int) < (j : Int) + 1) = true := decide_eq_true (by omega)
      have e4 : decide (f (j + 1) ≤ f j) = false := decide_eq_false (by omega)
      have hwr : IntKind.i64.wrap (((j + 1 : Nat) : Int) - 1) = (j : Int) := by rw [show ((j + 1 : Nat) : Int) - 1 = (j : Int) from by omega]; exact IntWalk.i64_in _ (by omega)
      have hj1 : (j : Int) < (n : Int) := by omega
      have hj2 : (0 : Int) ≤ (j : Int) := by omega
      have hj3 : (0 : Int) ≤ (j : Int) + 1 := by omega
      have hj4 : ((j : Int) + 1 == 0) = false := by simp; omega
      clear hA hA0 hX hcell2 hnum hdone hB hk
      generalize f (j + 1) = x at *
      generalize f j = y at *
      go_upto_region 5 with fail
      go_cut [28] (fun s wx => s = .bool false ∧ ∃ m, wx = wr.drewN m)
      case first =>
       go_quiet (fail)
       all_goals
        go_wp2_with fail
        go_meet
        exact ⟨rfl, _, rfl⟩
      case rest =>
       obtain ⟨rfl, m, rfl⟩ := hcut
       clear e1 e2 e3 e4
       have hwr2 : IntKind.i64.wrap ((j : Int) + 1 - 1) = (j : Int) := by rw [show (j : Int) + 1 - 1 = (j : Int) from by omega]; exact IntWalk.i64_in _ (by omega)
       have hwr3 : IntKind.i64.wrap (j : Int) = (j : Int) := IntWalk.i64_in _ (by omega)
       go_upto_region 4 with fail
       have hw1 : IntKind.i64.wrap (x - y) = x - y := IntWalk.i64_in _ (by omega)
       have hw2 : IntKind.i64.wrap (x - y - 1) = x - y - 1 := IntWalk.i64_in _ (by omega)
       go_region_with (go_at_call 29; refine (hnum0 (m + 1)).mono ?_; rintro e w2 ⟨rfl, hW2, hK2⟩)
       all_goals
        have hd := hdone0 (m + 1) w2 hW2 hK2
        clear hw1 hw2
        go_wp2_with fail
        go_roundg q
        case measure => omega
        case rel => exact ⟨j + 1 + 1, by omega, by go_num, hah2.out, hd⟩
end Go.Proofs.YtppdbinppibjhaaGreatDoor
