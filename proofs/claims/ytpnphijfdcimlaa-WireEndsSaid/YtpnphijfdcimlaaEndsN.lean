/-
  No writer, no reader.
-/
import Derived.Test.YtpnphijfdcimlaaEndsL
namespace Go.Proofs.Ytpnphijfdcimlaa
open Go.RowKit

theorem none_wp (w : World) : WP w (.pointer none) (fun _ => False) none := .inl ⟨rfl, rfl⟩
theorem none_rp (w : World) : RP w (.pointer none) (fun _ => False) none := .inl ⟨rfl, rfl⟩
theorem none_below {w w' : World} (h : Kept (fun _ => False) w w') : Below w.heap.size w w' := h.below (fun _ h => h.elim) (Nat.le_refl _)
theorem none_own {w w' : World} (h : Kept (own1 (.pointer none)) w w') : Below w.heap.size w w' := h.below (fun k hk => by unfold own1 at hk; cases hk) (Nat.le_refl _)
theorem nil_number (W : World) (g : Nat) (hg : g = W.heap.size) :
    Calls Try.prog 10 #[.pointer none, .slice (some ⟨g, 0, none⟩) 1 1] (W.alloc (.cells #[.int .i64 1] 3)) fun e w' => e = .returned (.tuple #[]) ∧ Below W.heap.size W w' :=
  (number_one (.pointer none) (fun _ => False) none 1 W (none_wp W) (fun _ h => h.elim) (by simp [szO]) g hg).mono fun _ _ ⟨he, _, hk⟩ => ⟨he, none_below hk⟩
theorem nil_fixed (W : World) :
    Calls Try.prog 11 #[.pointer none, .int .u32 1] W fun e w' => e = .returned (.tuple #[]) ∧ Below W.heap.size W w' :=
  (fixed_wp (.pointer none) (fun _ => False) none 1 W (by omega) (none_wp W) (fun _ h => h.elim) (by simp [szO])).mono fun _ _ ⟨he, _, hk⟩ => ⟨he, none_below hk⟩
theorem nil_text (W : World) (q g : Nat) (hq : W.cell? ⟨q, 0, none⟩ = some (.slice (some ⟨g, 0, none⟩) 1 1)) (hb : BL W (some ⟨g, 0, none⟩) [97]) :
    Calls Try.prog 12 #[.pointer none, .slice (some ⟨q, 0, none⟩) 1 1] W fun e w' => e = .returned (.tuple #[]) ∧ Below W.heap.size W w' := by
  refine (text_wp (.pointer none) (fun _ => False) none (some ⟨q, 0, none⟩) 1 1 (fun _ => some ⟨g, 0, none⟩) (fun _ => 1) (fun _ => 1) (fun _ => [97]) W (none_wp W) (fun _ h => h.elim) (fun _ _ _ _ _ h => h) (fun j _ g' o s e _ => ⟨fun h => h, ?_⟩) (by omega) (by simp [szO, sumL]) (.inr ⟨q, 0, rfl, fun j hj => ?_⟩)).mono fun _ _ ⟨he, _, hk⟩ => ⟨he, none_below hk⟩
  · obtain ⟨b, o', e', hc⟩ := hb.cell (by simp)
    rw [e] at e'; cases e'
    exact block_lt_of_cell (hc 0 (by simp))
  · obtain rfl : j = 0 := by omega
    exact ⟨hq, Nat.le_refl _, by show (1 : Nat) ≤ _; omega, (fun h => by cases h), rfl, hb⟩
theorem bl_mark (w : World) (L : List Nat) (hL : ∀ b ∈ L, b < 256) (C : Array Value) (fr : Nat × Nat) (hC : C = (lc L).toArray) (g : Nat) (hg : g = w.heap.size) : BL (w.alloc (.cells C 5 fr)) (some ⟨g, 0, none⟩) L := by
  subst hg hC
  refine BL.mk hL (.inr ⟨_, 0, rfl, fun i hi => ?_⟩)
  rw [Nat.zero_add, cell_of_row _ _ _ _ _ _ (heap_alloc_new _ _), List.getElem?_toArray]
  exact lc_get L i hi
theorem nil_rising (W : World) (g : Nat) (hg : g = W.heap.size) :
    Calls Try.prog 13 #[.pointer none, .slice (some ⟨g, 0, none⟩) 1 1] (W.alloc (.cells #[.int .i64 1] 3)) fun e w' => e = .returned (.tuple #[]) ∧ Below W.heap.size W w' :=
  (rising_wp (.pointer none) (fun _ => False) none (some ⟨g, 0, none⟩) 1 1 (fun _ => 1) (W.alloc (.cells #[.int .i64 1] 3)) (none_wp _) (fun _ h => h.elim) (fun _ _ _ _ _ h => h) (by omega) (by simp [szO]) (fun _ => wf64 (by omega) (by omega)) (ints_new W 1 (0, 0) g hg)).mono
    fun _ _ ⟨he, _, hk⟩ => ⟨he, (below_alloc W _).trans ((none_below hk).mono (by simp))⟩
theorem nil_getnum (W : World) : Calls Try.prog 15 #[.pointer none, .int .i64 5] W fun e w' => e = .returned (.int .i64 0) ∧ W = w' := rdNumber_none (.pointer none) (fun _ => False) 5 W (none_rp W)
theorem nil_getfix (W : World) : Calls Try.prog 16 #[.pointer none] W fun e w' => e = .returned (.int .u32 0) ∧ Below W.heap.size W w' :=
  (rdFixed_any (.pointer none) (fun _ => False) none W (none_rp W)).mono fun _ _ ⟨he, _, hk⟩ => ⟨he, none_own hk⟩
theorem nil_gettext (W : World) : Calls Try.prog 17 #[.pointer none, .int .i64 5] W fun e w' => ∃ A C, e = .returned (.slice A 0 C) ∧ Below W.heap.size W w' :=
  (rdText_any (.pointer none) (fun _ => False) none 5 W (none_rp W) (fun _ h => h.elim) (wf64 (by omega) (by omega)) (by simp [szO])).mono fun e w' ⟨v, he, ho, _, hk⟩ => by
    obtain ⟨A, C, hv⟩ := owns_slice ho
    exact ⟨A, C, by rw [he, hv]; rfl, none_own hk⟩
theorem nil_getrising (W : World) : Calls Try.prog 18 #[.pointer none, .int .i64 1, .int .i64 1] W fun e w' => ∃ A C, e = .returned (.slice A 0 C) ∧ Below W.heap.size W w' :=
  (rdRising_any (.pointer none) (fun _ => False) none 1 1 W (none_rp W) (fun _ h => h.elim) (wf64 (by omega) (by omega)) (wf64 (by omega) (by omega)) (by simp [szO])).mono fun e w' ⟨v, he, ho, _, hk⟩ => by
    obtain ⟨A, C, hv⟩ := owns_slice ho
    exact ⟨A, C, by rw [he, hv]; rfl, none_own hk⟩
theorem nil_left (W : World) : Calls Try.prog 19 #[.pointer none] W fun e w' => e = .returned (.int .i64 0) ∧ W = w' := left_any (.pointer none) (fun _ => False) none W (none_rp W)
theorem nil_ok (W : World) : Calls Try.prog 20 #[.pointer none] W fun e w' => e = .returned (.bool false) ∧ W = w' := ok_any (.pointer none) (fun _ => False) none W (none_rp W)
end Go.Proofs.Ytpnphijfdcimlaa
