/-
  The reference's writer.
-/
import Derived.Test.YtpnphijfdcimlaaWrRest
namespace Go.Proofs.Ytpnphijfdcimlaa
open Go.RowKit

/-- A writer of the reference at p, whose blocks are of F: what was put; none: it failed; at most N bytes. -/
def RW (w : World) (p : Nat) (F : Nat → Prop) (S : Option (List Nat)) (N : Nat) : Prop :=
  F p ∧ ∃ A C ys, w.heap[p]? = some (.cells #[.slice A ys.length C, .bool S.isNone] 57 (0, 0)) ∧ w.ownsRow 0 5 1 (.slice A ys.length C) ys.length (lc ys) ∧ (∀ b ∈ ys, b < 256) ∧
    (∀ g, (Value.slice A ys.length C).ownBlock = some g → F g) ∧ ys.length ≤ N ∧ ∀ xs, S = some xs → ys = xs
theorem RW.mono {w : World} {p N M : Nat} {F G : Nat → Prop} {S : Option (List Nat)} (h : RW w p F S N) (hFG : ∀ k, F k → G k) (hN : N ≤ M) : RW w p G S M := by
  obtain ⟨hp, A, C, ys, h0, h1, h2, h3, h4, h5⟩ := h
  exact ⟨hFG _ hp, A, C, ys, h0, h1, h2, fun g hg => hFG _ (h3 g hg), by omega, h5⟩
theorem RW.kept {w w' : World} {p N : Nat} {F G : Nat → Prop} {S : Option (List Nat)} (h : RW w p F S N) (hk : Kept G w w') (hd : ∀ k, F k → ¬ G k) : RW w' p F S N := by
  obtain ⟨hp, A, C, ys, h0, h1, h2, h3, h4, h5⟩ := h
  exact ⟨hp, A, C, ys, hk.heap h0 (hd _ hp), owns_kept h1 hk (fun g hg => hd _ (h3 g hg)), h2, h3, h4, h5⟩
theorem cells2 {w : World} {p : Nat} {a b : Value} {t : TypeId} (h : w.heap[p]? = some (.cells #[a, b] t (0, 0))) :
    w.cell? ⟨p, 0, none⟩ = some a ∧ w.cell? ⟨p, 1, none⟩ = some b ∧ w.frozen? ⟨p, 0, none⟩ = false ∧ w.frozen? ⟨p, 1, none⟩ = false :=
  ⟨by rw [cell_of_row _ _ _ _ _ _ h]; rfl, by rw [cell_of_row _ _ _ _ _ _ h]; rfl, frozen_of_row _ _ _ _ _ h, frozen_of_row _ _ _ _ _ h⟩
theorem RW.fail {w : World} {p N : Nat} {F : Nat → Prop} {S : Option (List Nat)} (h : RW w p F S N) : RW (w.setCell ⟨p, 1, none⟩ (.bool true)) p F none N ∧ Kept F w (w.setCell ⟨p, 1, none⟩ (.bool true)) := by
  obtain ⟨hp, A, C, ys, h0, h1, h2, h3, h4, h5⟩ := h
  refine ⟨⟨hp, A, C, ys, heap_setCell_same _ p 1 _ _ _ h0, ?_, h2, h3, h4, fun xs e => by cases e⟩, (Kept.refl F w).setCell (.inl hp) _⟩
  refine owns_kept h1 ((Kept.refl (fun k => k = p) w).setCell (.inl rfl) _) (fun g hg e => ?_)
  obtain ⟨_, _, cur, hc⟩ := owns_cells h1 g hg
  subst e
  rw [h0] at hc; cases hc
/-- What an append onto its bytes, stored, leaves. -/
theorem RW.app {w w1 w2 : World} {p N m C C1 : Nat} {F : Nat → Prop} {S : Option (List Nat)} {A A1 : Option Addr} {ys L : List Nat} {bad : Bool} (hF : ∀ k, F k → k < w.heap.size) (hp : F p) (hbad : bad = S.isNone) (h0 : w.heap[p]? = some (.cells #[.slice A ys.length C, .bool bad] 57 (0, 0)))
    (h1 : w.ownsRow 0 5 1 (.slice A ys.length C) ys.length (lc ys)) (h2 : ∀ b ∈ ys, b < 256) (h3 : ∀ g, (Value.slice A ys.length C).ownBlock = some g → F g) (h4 : ys.length ≤ N) (h5 : ∀ xs, S = some xs → ys = xs)
    (hK : Kept (fun _ => False) w w1) (hL : L.length = m) (hb : ∀ b ∈ L, b < 256) (ho : w2.ownsRow 0 5 1 (.slice A1 (ys.length + m) C1) (ys.length + m) (lc ys ++ lc L)) (hg : Grew w1 w2 (.slice A ys.length C) (.slice A1 (ys.length + m) C1)) :
    RW (w2.setCell ⟨p, 0, none⟩ (.slice A1 (ys.length + m) C1)) p (Fnew F w (w2.setCell ⟨p, 0, none⟩ (.slice A1 (ys.length + m) C1))) (putRaw S L) (N + m) ∧ Kept F w (w2.setCell ⟨p, 0, none⟩ (.slice A1 (ys.length + m) C1)) := by
  have hne : ∀ g, (Value.slice A ys.length C).ownBlock = some g → g ≠ p := fun g hgg e => by
    obtain ⟨_, _, cur, hc⟩ := owns_cells h1 g hgg
    subst e
    rw [h0] at hc; cases hc
  have hx := hg.kept (F := fun k => F k ∧ k ≠ p) (fun g hgg => ⟨h3 g hgg, hne g hgg⟩)
  have hf := hg.foot (F := fun k => F k ∧ k ≠ p) (fun g hgg => ⟨h3 g hgg, hne g hgg⟩)
  have e : (ys ++ L).length = ys.length + m := by rw [List.length_append, hL]
  have hpl := hF p hp
  have hs1 := hK.size
  have hs2 := hx.size
  have hss : (w2.setCell ⟨p, 0, none⟩ (.slice A1 (ys.length + m) C1)).heap.size = w2.heap.size := by simp [World.setCell]
  refine ⟨⟨.inl hp, A1, C1, ys ++ L, ?_, ?_, ?_, ?_, by rw [e]; omega, ?_⟩, ?_⟩
  · rw [e]
    have hh := hx.heap (hK.heap h0 (fun h => h)) (fun h => h.2 rfl)
    have hn : (putRaw S L).isNone = bad := by rw [hbad]; cases S <;> rfl
    rw [hn]
    exact heap_setCell_same _ p 0 _ _ _ hh
  · rw [e, lc_append]
    refine owns_kept ho ((Kept.refl (fun k => k = p) w2).setCell (.inl rfl) _) (fun g hgg h => ?_)
    rcases hf g hgg with h' | h'
    · exact h'.2 h
    · omega
  · intro b hbm
    rcases List.mem_append.1 hbm with h | h
    · exact h2 b h
    · exact hb b h
  · rw [e]
    intro g hgg
    rcases hf g hgg with h' | h'
    · exact .inl h'.1
    · exact .inr ⟨by omega, by omega⟩
  · intro xs hxs
    cases S with
    | none => cases hxs
    | some zs =>
      rw [h5 zs rfl]
      simpa [putRaw] using hxs
  · exact ((hK.mono (fun _ _ h => h.elim)).trans hx (fun k _ hk => hk.1)).setCell (.inl hp) _

set_option maxRecDepth 100000 in
set_option maxHeartbeats 1000000 in
theorem refNumber_any (p : Nat) (F : Nat → Prop) (S : Option (List Nat)) (N : Nat) (x : Int) (w : World) (h : RW w p F S N) (hF : ∀ k, F k → k < w.heap.size) (hx : (Lit.int .i64 x).wf = true) (hN : N + 6 ≤ 140737488355328) :
    Calls Try.prog 28 #[.pointer (some ⟨p, 0, none⟩), .int .i64 x] w fun e w' => e = .returned (.tuple #[]) ∧ RW w' p (Fnew F w w') (putNum S x) (N + 6) ∧ Kept F w w' := by
  have hb := bounds_i64 hx
  by_cases hneg : x < 0
  · rw [putNum_bad _ _ (.inl hneg)]
    have hf := h.fail
    obtain ⟨hp, A, C, ys, h0, _⟩ := h
    obtain ⟨c0, c1, f0, f1⟩ := cells2 h0
    clear h0
    go_enter Try.func28, Try.ntmps28
    go_wp2_with fail
    refine bodyPost_ret (results_none rfl _ _ _) rfl ?_
    exact ⟨rfl, hf.1.mono (fun k hk => .inl hk) (by omega), hf.2⟩
  by_cases hbig : (maxNum : Int) < x
  · rw [putNum_bad _ _ (.inr hbig)]
    have hf := h.fail
    obtain ⟨hp, A, C, ys, h0, _⟩ := h
    obtain ⟨c0, c1, f0, f1⟩ := cells2 h0
    have hbig' : (1099511627776 : Int) < x := by unfold maxNum at hbig; simpa using hbig
    clear h0 hbig
    go_enter Try.func28, Try.ntmps28
    go_wp2_with fail
    refine bodyPost_ret (results_none rfl _ _ _) rfl ?_
    exact ⟨rfl, hf.1.mono (fun k hk => .inl hk) (by omega), hf.2⟩
  obtain ⟨m, rfl⟩ : ∃ m : Nat, x = (m : Int) := ⟨x.toNat, by omega⟩
  have hm : m ≤ maxNum := by omega
  rw [putNum_ok _ _ (by omega) (by omega), show ((m : Int)).toNat = m from by omega]
  have hl6 := encN_len6 hm
  have hm' : (m : Int) ≤ 1099511627776 := by unfold maxNum at hm; omega
  have hm0 : (0 : Int) ≤ (m : Int) := by omega
  clear hbig hneg hb hx
  obtain ⟨i0, hi, hq0, hq1, hq2⟩ := info_parts info_u8
  go_enter Try.func28, Try.ntmps28
  go_wp2_with fail
  go_loopw [1] (fun s1 wr => ∃ (q : Nat) (pre : List Nat), s1 = .int .i64 q ∧ q ≤ m ∧ pre ++ encN q = encN m ∧ RW wr p (Fnew F w wr) (putRaw S pre) (N + pre.length) ∧ Kept F w wr) (fun s1 _ => (intOf s1).toNat)
  case atStart => exact ⟨m, [], rfl, Nat.le_refl _, rfl, by rw [putRaw_nil]; exact h.mono (fun k hk => .inl hk) (by simp), Kept.refl _ _⟩
  case round =>
    obtain ⟨q, pre, rfl, hqm, he, hW, hK⟩ := hrel
    clear h
    have hFl : ∀ j, Fnew F w wr j → j < wr.heap.size := fun j hj => hj.lt hF hK.size
    have hpl : pre.length ≤ 5 := by
      have h1 := congrArg List.length he
      have h2 : 0 < (encN q).length := by
        by_cases h : q < 128
        · rw [encN_lo h]; simp
        · rw [encN_hi (by omega)]; simp
      simp at h1
      omega
    obtain ⟨hp, A, C, ys, h0, h1, h2, h3, h4, h5⟩ := hW
    obtain ⟨c0, c1, f0, f1⟩ := cells2 h0
    have hpw := hFl p hp
    by_cases hlt : 128 ≤ q
    · have hxb : q % 128 + 128 < 256 := by omega
      have hv : ((q % 128 + 128 : Nat) : Int) = (q : Int) % 128 + 128 := by omega
      have happ := fun w2 A1 C1 => RW.app (L := [q % 128 + 128]) (m := 1) (w1 := wr.alloc (.cells #[.int .u8 ((q : Int) % 128 + 128)] 5)) (w2 := w2) (A1 := A1) (C1 := C1) hFl hp rfl h0 h1 h2 h3 h4 h5 (Kept.of_below (below_alloc _ _)) rfl (by simpa using hxb)
      have hcell := cell_alloc_l (W := wr) (.cells #[.int .u8 ((q : Int) % 128 + 128)] 5) c0
      have hfro := frozen_alloc_l (W := wr) (.cells #[.int .u8 ((q : Int) % 128 + 128)] 5) c0 f0
      have hown := owns_thru h1 (below_alloc wr (.cells #[.int .u8 ((q : Int) % 128 + 128)] 5))
      have hn1 := cell_one_new wr (.int .u8 ((q : Int) % 128 + 128)) 5
      rw [encN_hi hlt] at he
      have HE : Hid ((pre ++ [q % 128 + 128]) ++ encN (q / 128) = encN m) := by rw [List.append_assoc]; exact he
      have hne : ∀ g, (Value.slice A ys.length C).ownBlock = some g → g ≠ p := fun g hgg e => by
        obtain ⟨_, _, cur, hc⟩ := owns_cells h1 g hgg
        subst e
        rw [h0] at hc; cases hc
      have hlc : lc [q % 128 + 128] = [.int .u8 ((q : Int) % 128 + 128)] := by simp [lc]
      rw [hlc] at happ
      clear h0 h1 h2 h3 h5 he hl6 hv hlc
      generalize hnl : ys.length = nl at *
      clear hnl
      go_wp2_with (at_builtin; go_must (refine wpList_append_foot _ rfl (.tmp 19) (.tmp 24) 25 rfl 5 i0 (.int .u8 0) 1 Try.underlying25 hi hq0 hq1 hq2 rfl 0 _ nl (lc ys) rfl hown (some ⟨wr.heap.size, 0, none⟩) 1 1 [.int .u8 ((q : Int) % 128 + 128)] rfl rfl (fun e => by cases e) (fun ad e => by cases e; exact hn1) (by simp [Value.oneCell']) (by unfold maxLen; omega) (by omega) (by omega) ?_); intro A1 C1 w1 hown1 hg1; have hc1 := (hg1.kept (F := fun k => k ≠ p) hne).cell hcell (fun h => h rfl); have hf1 := (hg1.kept (F := fun k => k ≠ p) hne).unfrozen hcell (fun h => h rfl) hfro)
      obtain ⟨hR, hKK⟩ := happ w1 A1 C1 hown1 hg1
      go_roundw
      case rel => exact ⟨q / 128, pre ++ [q % 128 + 128], by go_num, by omega, HE.out, by rw [← putRaw_snoc]; exact hR.mono (fun j hj => hj.sub hKK.size hK.size) (by simp; omega), hK.step hKK⟩
      case measure => simp [intOf]; omega
    · have hxb : q < 256 := by omega
      have happ := fun w2 A1 C1 => RW.app (L := [q]) (m := 1) (w1 := wr.alloc (.cells #[.int .u8 (q : Nat)] 5)) (w2 := w2) (A1 := A1) (C1 := C1) hFl hp rfl h0 h1 h2 h3 h4 h5 (Kept.of_below (below_alloc _ _)) rfl (by simpa using hxb)
      have hcell := cell_alloc_l (W := wr) (.cells #[.int .u8 (q : Nat)] 5) c0
      have hfro := frozen_alloc_l (W := wr) (.cells #[.int .u8 (q : Nat)] 5) c0 f0
      have hown := owns_thru h1 (below_alloc wr (.cells #[.int .u8 (q : Nat)] 5))
      have hn1 := cell_one_new wr (.int .u8 (q : Nat)) 5
      rw [encN_lo (by omega)] at he
      have HE : Hid (pre ++ [q] = encN m) := he
      have hne : ∀ g, (Value.slice A ys.length C).ownBlock = some g → g ≠ p := fun g hgg e => by
        obtain ⟨_, _, cur, hc⟩ := owns_cells h1 g hgg
        subst e
        rw [h0] at hc; cases hc
      have hlc : lc [q] = [.int .u8 (q : Nat)] := by simp [lc]
      rw [hlc] at happ
      clear h0 h1 h2 h3 h5 he hl6 hlc
      generalize hnl : ys.length = nl at *
      clear hnl
      go_wp2_with (at_builtin; go_must (refine wpList_append_foot _ rfl (.tmp 34) (.tmp 37) 25 rfl 5 i0 (.int .u8 0) 1 Try.underlying25 hi hq0 hq1 hq2 rfl 0 _ nl (lc ys) rfl hown (some ⟨wr.heap.size, 0, none⟩) 1 1 [.int .u8 (q : Nat)] rfl rfl (fun e => by cases e) (fun ad e => by cases e; exact hn1) (by simp [Value.oneCell']) (by unfold maxLen; omega) (by omega) (by omega) ?_); intro A1 C1 w1 hown1 hg1; have hc1 := (hg1.kept (F := fun k => k ≠ p) hne).cell hcell (fun h => h rfl); have hf1 := (hg1.kept (F := fun k => k ≠ p) hne).unfrozen hcell (fun h => h rfl) hfro)
      obtain ⟨hR, hKK⟩ := happ w1 A1 C1 hown1 hg1
      rw [putRaw_snoc, HE.out] at hR
      go_end0
      exact ⟨rfl, hR.mono (fun j hj => hj.sub hKK.size hK.size) (by omega), hK.step hKK⟩
end Go.Proofs.Ytpnphijfdcimlaa
