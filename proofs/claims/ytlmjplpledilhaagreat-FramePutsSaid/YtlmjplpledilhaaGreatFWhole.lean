/-
  frame.whole: are a file's size and sum those that it tells?
-/
import Derived.Test.YtlmjplpledilhaaGreatFWholeR
namespace Go.Proofs.YtlmjplpledilhaaGreat
open Go.RowKit

theorem wholeB_short {L : List Nat} (h : L.length < 8) : wholeB L = false := by
  cases hw : wholeB L with
  | false => rfl
  | true => have := (wholeB_of hw).1; omega
theorem wholeB_size {L : List Nat} (h : (getFix (some (L.take 4))).1 ≠ L.length) : wholeB L = false := by
  cases hw : wholeB L with
  | false => rfl
  | true => exact absurd (wholeB_of hw).2.2.1 h
theorem wholeB_sum {L : List Nat} (h8 : 8 ≤ L.length) (hm : L.length ≤ 1000000) (h : (getFix (some (L.take 4))).1 = L.length) : wholeB L = decide ((getFix (some (L.drop (L.length - 4)))).1 = crcL (L.take (L.length - 4))) := by
  unfold wholeB
  congr 1
  apply propext
  unfold maxDisk
  exact ⟨fun h => h.2.2.2, fun h' => ⟨h8, by omega, h, h'⟩⟩

set_option maxRecDepth 100000 in
set_option maxHeartbeats 1000000 in
theorem whole_any (A : Option Addr) (C n : Nat) (L : List Nat) (w : World) (hn : n = L.length) (h : SB w A C L) (hm : n ≤ 1000000) :
    Calls Tryz.prog 37 #[.slice A n C] w fun e w' => e = .returned (.bool (wholeB L)) ∧ Below w.heap.size w w' := by
  by_cases h8 : n < 8
  · rw [wholeB_short (by omega)]
    have hk : decide ((4 : Int) ≤ (n : Int) - 4) = false := decide_eq_false (by omega)
    clear hn h
    go_enter Tryz.func37, Tryz.ntmps37
    go_upto_region 2 with fail
    go_quiet (fail)
    all_goals
      go_wp2_with fail
      go_ret
      exact ⟨rfl, ((Kept.refl (fun _ => False) w).drewN _).below (fun _ h => h.elim) (Nat.le_refl _)⟩
  · obtain ⟨k, hk⟩ : ∃ k, n = k + 4 := ⟨n - 4, by omega⟩
    have hC := h.l
    obtain ⟨A1, A3, s1, s3, b1, b3, g1, g3⟩ := h.cut 4 (by omega)
    obtain ⟨A4, A2, s4, s2, b4, b2, g4, g2⟩ := h.cut k (by omega)
    have hl1 : (L.take 4).length = 4 := by rw [List.length_take]; omega
    have hl2 : (L.drop k).length = 4 := by rw [List.length_drop]; omega
    have hl4 : (L.take k).length = k := by rw [List.length_take]; omega
    have c1 : ∀ W, Below w.heap.size w W → Calls Tryz.prog 75 #[.slice A 4 C] W fun e w' => e = .returned (.int .u32 ((getFix (some (L.take 4))).1 : Nat)) ∧ Below W.heap.size W w' := fun W hW =>
      numberOf_any A C 4 (L.take 4) W hl1.symm ⟨by omega, h.m, h.n, h.o, (h.below hW).b.take 4⟩ (by omega)
    have c2 : ∀ W, Below w.heap.size w W → Calls Tryz.prog 75 #[.slice A2 4 (C - k)] W fun e w' => e = .returned (.int .u32 ((getFix (some (L.drop k))).1 : Nat)) ∧ Below W.heap.size W w' := fun W hW =>
      numberOf_any A2 (C - k) 4 (L.drop k) W hl2.symm (b2.below hW) (by omega)
    have c3 : ∀ W g, Below w.heap.size w W → W.cell? ⟨g, 0, none⟩ = some (.slice A k C) → Calls Tryz.prog 28 #[.slice (some ⟨g, 0, none⟩) 1 1] W fun e w' => e = .returned (.int .u32 (crcL (L.take k) : Nat)) ∧ Below W.heap.size W w' := fun W g hW hc => by
      have hb := (h.below hW).b.take k
      have := sum_one g A k C (fun i => (L.take k).getD i 0) W (by omega) h.m hc (by have hx := hb; unfold BL at hx; rw [hl4] at hx; exact hx)
      unfold crcL
      rw [hl4]
      exact this
    have e2 : ∀ wx, (Instr.slice 26 (.slice A n C) (some (.int .i64 (k : Nat))) none none).run Tryz.prog wx = .ok (.slice A2 4 (C - k)) wx := fun wx => by
      have := s2 wx
      rw [← hn, show n - k = 4 from by omega] at this
      exact this
    have hkz : (n : Int) - 4 = (k : Int) := by omega
    have HH : Hid (4 ≤ k ∧ n = k + 4 ∧ n ≤ 1000000 ∧ n ≤ C) := ⟨by omega, hk, hm, by omega⟩
    by_cases hs : (getFix (some (L.take 4))).1 = n
    · have hw : wholeB L = decide ((getFix (some (L.drop k))).1 = crcL (L.take k)) := by
        rw [wholeB_sum (by omega) (by omega) (by rw [hs, hn]), show L.length - 4 = k from by omega]
      rw [hw]
      have hR := fun Q t0 ht h0 h3 => wholeF n k C A A2 (getFix (some (L.take 4))).1 (getFix (some (L.drop k))).1 (crcL (L.take k)) (decide ((getFix (some (L.drop k))).1 = crcL (L.take k))) Q t0 w ht h0 h3 HH c1 (hide ⟨hs, rfl⟩) e2 c2 c3
      clear hn hw s1 s2 s3 s4 b1 b2 b3 b4 g1 g2 g3 g4 c1 c2 c3 e2 h hl1 hl2 hl4
      go_enter Tryz.func37, Tryz.ntmps37
      go_upto_region 2 with fail
      refine hR _ _ rfl rfl rfl ?_
      intro vs w1 hB h2
      simp only [List.foldl_cons, List.foldl_nil, List.setIfInBounds_toArray, List.set_cons_succ, List.set_cons_zero]
      rw [h2]
      go_wp2_with fail
      go_ret
      exact ⟨rfl, hB⟩
    · rw [wholeB_size (by rw [← hn]; exact hs)]
      have hR := fun Q t0 ht h0 h3 => wholeS n k C A A2 (getFix (some (L.take 4))).1 0 0 false Q t0 w ht h0 h3 HH c1 (hide hs)
      clear hn s1 s2 s3 s4 b1 b2 b3 b4 g1 g2 g3 g4 c1 c2 c3 e2 h hl1 hl2 hl4
      go_enter Tryz.func37, Tryz.ntmps37
      go_upto_region 2 with fail
      refine hR _ _ rfl rfl rfl ?_
      intro vs w1 hB h2
      simp only [List.foldl_cons, List.foldl_nil, List.setIfInBounds_toArray, List.set_cons_succ, List.set_cons_zero]
      rw [h2]
      go_wp2_with fail
      go_ret
      exact ⟨rfl, hB⟩
end Go.Proofs.YtlmjplpledilhaaGreat
