/-
  The reference's Union; rows of sets.
-/
import Derived.Test.YtmnjicpgdhnimaaDoorSRefs
import Derived.Deep.Cut
import Derived.Deep.LoopGhost
namespace Go.Proofs.YtmnjicpgdhnimaaDoor
open Go.RowKit

/-- A slice at a of len sets S. -/
def Sets (w : World) (a : Option Addr) (len : Nat) (S : Nat → Nat → Bool) : Prop :=
  len = 0 ∨ ∃ b off, a = some ⟨b, off, none⟩ ∧ ∀ i, i < len → ∀ j, j < 4 → w.cell? ⟨b, off + i * 4 + j, none⟩ = some (.int .u64 (wd (S i) j : Nat))
theorem Sets.below {w w' : World} {a : Option Addr} {len : Nat} {S : Nat → Nat → Bool} (h : Sets w a len S) (hb : Below w.heap.size w w') : Sets w' a len S := by
  obtain h | ⟨b, off, rfl, hc⟩ := h
  · exact .inl h
  · exact .inr ⟨b, off, rfl, fun i hi j hj => (hb.cell (p := ⟨b, off + i * 4 + j, none⟩) (block_lt_of_cell (hc i hi j hj))).trans (hc i hi j hj)⟩
/-- Has one of the first n sets the byte? -/
def anyS (S : Nat → Nat → Bool) : Nat → Nat → Bool
  | 0, _ => false
  | n + 1, c => anyS S n c || S n c
/-- The union's bytes below b, and b itself of the first i sets. -/
def unB (S : Nat → Nat → Bool) (n b i c : Nat) : Bool := (decide (c < b) && anyS S n c) || (decide (c = b) && anyS S i c)
theorem unB_none (S : Nat → Nat → Bool) (n c : Nat) : nobs c = unB S n 0 0 c := by simp [unB, nobs, anyS]
theorem unB_start (S : Nat → Nat → Bool) (n b c : Nat) : unB S n b n c = unB S n (b + 1) 0 c := by
  unfold unB
  by_cases e : c = b
  · subst e; simp [anyS]
  · have h1 : (c < b + 1) ↔ (c < b) := by omega
    simp [e, h1, anyS]
theorem unB_yes (S : Nat → Nat → Bool) (n b i c : Nat) (h : S i b = true) : plus (unB S n b i) b c = unB S n b (i + 1) c := by
  unfold unB plus
  by_cases e : c = b
  · subst e; simp [anyS, h]
  · simp [e]
theorem unB_no (S : Nat → Nat → Bool) (n b i c : Nat) (h : S i b = false) : unB S n b i c = unB S n b (i + 1) c := by
  unfold unB
  by_cases e : c = b
  · subst e; simp [anyS, h]
  · simp [e]
theorem unB_all (S : Nat → Nat → Bool) (n c : Nat) (h : c < 256) : unB S n 256 0 c = anyS S n c := by
  unfold unB
  simp [h, anyS]

set_option maxRecDepth 100000 in
set_option maxHeartbeats 2000000 in
theorem refUnion_any (a : Option Addr) (len cap : Nat) (S : Nat → Nat → Bool) (w : World) (hl : len ≤ 9223372036854775807) (hS : Sets w a len S) :
    Calls Tryd.prog 18 #[.slice a len cap] w fun e w' => e = .returned (sv (anyS S len)) ∧ Below w.heap.size w w' := by
  have hzero := zeroSet
  have hb1 := (Below.refl w.heap.size w).alloc (Nat.le_refl _) (.cells (st nobs) 24)
  have hb3 := hide (hb1.alloc (by simp) (.cells (st nobs) 24))
  have h2 := hide ((SBox.new w w.heap.size nobs rfl).alloc (.cells (st nobs) 24))
  have h3 := hide (SBox.new (w.alloc (.cells (st nobs) 24)) (w.heap.size + 1) nobs (by simp))
  have HZ := hide hS
  clear hb1 hS
  unfold sv
  go_enter Tryd.func18, Tryd.ntmps18
  go_wp2_with fail
  clear hzero
  go_loopg [4] 256 (fun q i wr => ∃ k : Nat, k + q = 256 ∧ i = .int .i64 k ∧ SBox wr w.heap.size nobs ∧ SBox wr (w.heap.size + 1) (unB S len k 0) ∧ Below w.heap.size w wr)
  case atStart => exact ⟨0, by omega, rfl, h2.out, h3.out.congr _ (fun b _ => unB_none S len b), hb3.out⟩
  case round =>
    obtain ⟨k, hk, rfl, hR, hO, hB⟩ := hrel
    have HB := hide hB
    cases gk with
    | succ g =>
      have hlt : k < 256 := by omega
      have hlti : (k : Int) < 256 := by omega
      have hk8 : (k : Int) % 256 = (k : Int) := by omega
      clear hB
      go_wp2_with fail
      go_loopg [5] len (fun q i ws => ∃ m : Nat, m + q = len ∧ i = .int .i64 m ∧ SBox ws w.heap.size nobs ∧ SBox ws (w.heap.size + 1) (unB S len k m) ∧ Below w.heap.size w ws)
      case atStart => exact ⟨0, by omega, rfl, hR, hO, HB.out⟩
      case round =>
        clear hR hO HB
        obtain ⟨m, hm, rfl, hR, hO, hB⟩ := hrel
        have HB := hide hB
        cases gk with
        | succ g2 =>
          have hlm : m < len := by omega
          obtain h0 | ⟨b, off, rfl, hcz⟩ := HZ.out.below hB
          · omega
          have c0 := hcz m hlm 0 (by omega)
          have c1 := hcz m hlm 1 (by omega)
          have c2 := hcz m hlm 2 (by omega)
          have c3 := hcz m hlm 3 (by omega)
          simp only [Nat.add_zero] at c0
          clear hcz hB
          go_wp2_with fail
          refine (refHas_any (S m) k _ hlt).mono ?_
          rintro e w1 ⟨rfl, hb1⟩
          have hR1 := hR.below hb1 hR.lt
          have hO1 := hO.below hb1 hO.lt
          have HB1 := hide (HB.out.trans (hb1.mono (by have := hO.lt; omega)))
          clear hR hO HB hb1 c0 c1 c2 c3
          cases hh : S m k with
          | false =>
            have hh2 := hide hh
            clear hh
            go_wp2_with fail
            go_roundg g2
            case measure => omega
            case rel => exact ⟨m + 1, by omega, by go_num, hR1, hO1.congr _ (fun b _ => unB_no S len k m b hh2.out), HB1.out⟩
          | true =>
            have hh2 := hide hh
            clear hh
            go_wp2_with (refine wpList_load_row rfl 24 _ rfl (w.heap.size + 1) rfl 24 (st (unB S len k m)) (0, 0) _ hO1 Tryd.underlying24 rfl (sizeSet (unB S len k m)) ?_)
            refine (with_any (unB S len k m) k _ hlt).mono ?_
            rintro e w2 ⟨rfl, hb2⟩
            have hR2 := hR1.below hb2 hR1.lt
            have hO2 := hO1.below hb2 hO1.lt
            have HB2 := hide (HB1.out.trans (hb2.mono (by have := hO1.lt; omega)))
            clear hR1 hO1 HB1 hb2
            go_wp2_with (refine wpList_store_row rfl 24 _ _ rfl (w.heap.size + 1) (st (plus (unB S len k m) k)) rfl rfl 24 (st (unB S len k m)) hO2 (sizeSet (plus (unB S len k m) k)) rfl (st_one (plus (unB S len k m) k)) ?_)
            go_roundg g2
            case measure => omega
            case rel => exact ⟨m + 1, by omega, by go_num, hR2.row_other _ _ (by omega), (hO2.row _).congr _ (fun b _ => unB_yes S len k m b hh2.out), below_row HB2.out (by omega) _⟩
        | zero =>
          obtain rfl : m = len := by omega
          clear hB
          go_wp2_with fail
          go_roundg g
          case measure => omega
          case rel => exact ⟨k + 1, by omega, by go_num, hR, hO.congr _ (fun b _ => unB_start S m k b), HB.out⟩
    | zero =>
      obtain rfl : k = 256 := by omega
      have HR := hide (hR.row (unB S len 256 0))
      go_wp2_with (first | (refine wpList_load_row rfl 24 _ rfl (w.heap.size + 1) rfl 24 (st (unB S len 256 0)) (0, 0) _ hO Tryd.underlying24 rfl (sizeSet (unB S len 256 0)) ?_) | (refine wpList_store_row rfl 24 _ _ rfl w.heap.size (st (unB S len 256 0)) rfl rfl 24 (st nobs) hR (sizeSet (unB S len 256 0)) rfl (st_one (unB S len 256 0)) ?_))
      refine bodyPost_ret_by (results_cell_row rfl _ _ w.heap.size 24 (st (unB S len 256 0)) (0, 0) _ rfl HR.out Tryd.underlying24 rfl (sizeSet (unB S len 256 0))) rfl ⟨congrArg Ending.returned (sv_congr _ _ fun b hb => unB_all S len b hb), below_row HB.out (by omega) _⟩
end Go.Proofs.YtmnjicpgdhnimaaDoor
