/-
  The reference's with: a set and one byte more; sets as whole rows.
-/
import Derived.Test.YtmnjicpgdhnimaaDoorSRef
import Derived.Laws.Rows
import Derived.Laws.Tables
import Derived.Laws.ResultCell
import Derived.Laws.NewBlocks
import Derived.Deep.WholeRow
namespace Go.Proofs.YtmnjicpgdhnimaaDoor
open Go.RowKit

theorem st_size (H : Nat → Bool) : (st H).size = 4 := rfl
theorem sizeSet (H : Nat → Bool) : (Tryd.prog.info? 24).map (·.size) = some (st H).size := by
  rw [st_size]; kernel_rfl
theorem st_one (H : Nat → Bool) : (st H).all (·.oneCell') = true := by
  unfold st sc; simp [Value.oneCell']
/-- The set without bytes. -/
def nobs : Nat → Bool := fun _ => false
theorem wd_nobs (i : Nat) : wd nobs i = 0 := (wd_ext 0 nobs i (by omega) fun k _ => by simp [nobs]).symm
theorem st_nobs : st nobs = #[.int .u64 0, .int .u64 0, .int .u64 0, .int .u64 0] := by
  unfold st sc
  simp only [wd_nobs]
  rfl
theorem zeroSet' (w : World) : (zeroValue 24).run Tryd.prog w = .ok (.agg #[.int .u64 0, .int .u64 0, .int .u64 0, .int .u64 0]) w := by kernel_rfl
theorem zeroSet (w : World) : (zeroValue 24).run Tryd.prog w = .ok (.agg (st nobs)) w := by
  rw [st_nobs]; exact zeroSet' w
theorem below_row {B : Nat} {a w : World} (h : Below B a w) {g : Nat} (hg : B ≤ g) (cs : Array Value) : Below B a (w.setRow g cs) :=
  ⟨h.os, h.tape, h.output, by simp; exact h.size, fun k hk => by
    rw [World.setRow, Array.getElem?_modify, if_neg (by omega)]
    exact h.block k hk⟩
theorem SBox.below {w w' : World} {g : Nat} {H : Nat → Bool} {B : Nat} (h : SBox w g H) (hb : Below B w w') (hg : g < B) : SBox w' g H := (hb.block g hg).trans h
theorem SBox.lt {w : World} {g : Nat} {H : Nat → Bool} (h : SBox w g H) : g < w.heap.size := block_lt h
theorem SBox.row {w : World} {g : Nat} {H : Nat → Bool} (h : SBox w g H) (G : Nat → Bool) : SBox (w.setRow g (st G)) g G := setRow_heap _ _ _ _ _ _ h
theorem SBox.row_other {w : World} {g : Nat} {H : Nat → Bool} (h : SBox w g H) (k : Nat) (cs : Array Value) (hk : g ≠ k) : SBox (w.setRow k cs) g H := (setRow_other _ _ _ _ hk).trans h
/-- The sum of a number and a bit that it has not. -/
theorem add_bit (n k : Nat) (hn : n < 18446744073709551616) (hk : k < 64) (h : n.testBit k = false) : (n + 2 ^ k) % 18446744073709551616 = n ||| 2 ^ k := by
  have hp : 2 ^ k < 2 ^ 64 := Nat.pow_lt_pow_right (by omega) hk
  have hn' : n < 2 ^ 64 := hn
  have ha : BitVec.ofNat 64 n &&& BitVec.ofNat 64 (2 ^ k) = 0#64 := by
    apply BitVec.eq_of_toNat_eq
    rw [BitVec.toNat_and, BitVec.toNat_ofNat, BitVec.toNat_ofNat, Nat.mod_eq_of_lt hn', Nat.mod_eq_of_lt hp]
    refine Nat.eq_of_testBit_eq fun j => ?_
    rw [Nat.testBit_and, Nat.testBit_two_pow]
    by_cases e : k = j
    · subst e; simp [h]
    · simp [e]
  have hs := BitVec.add_eq_or_of_and_eq_zero _ _ ha
  have ht := congrArg BitVec.toNat hs
  rw [BitVec.toNat_add, BitVec.toNat_or, BitVec.toNat_ofNat, BitVec.toNat_ofNat, Nat.mod_eq_of_lt hn', Nat.mod_eq_of_lt hp] at ht
  exact ht
theorem plus_same (H : Nat → Bool) (b : Nat) (h : H b = true) (c : Nat) : H c = plus H b c := by
  unfold plus
  by_cases e : c = b
  · subst e; simp [h]
  · simp [e]
theorem add_plus (H : Nat → Bool) (b i k : Nat) (hi : b / 64 = i) (hk : b % 64 = k) (h : H b = false) : (wd H i + up k) % 18446744073709551616 = wd (plus H b) i := by
  subst hi; subst hk
  rw [← wd_plus]
  refine add_bit _ _ (wd_lt _ _) (by omega) ?_
  rw [wd_bit _ _ _ (by omega), show 64 * (b / 64) + b % 64 = b by omega]
  exact h
theorem SBox.plus {w : World} {g : Nat} {H : Nat → Bool} (h : SBox w g H) (b i : Nat) (hb : b < 256) (hi : b / 64 = i) (n : Nat) (hn : n = wd (plus H b) i) : SBox (w.setCell ⟨g, i, none⟩ (.int .u64 (n : Nat))) g (plus H b) := by
  subst hi
  exact h.set _ n (by omega) hn fun j _ hne => wd_plus_other H b j hne

set_option maxHeartbeats 1000000 in
theorem with_any (H : Nat → Bool) (b : Nat) (w : World) (hb : b < 256) :
    Calls Tryd.prog 40 #[sv H, .int .u8 b] w fun e w' => e = .returned (sv (plus H b)) ∧ Below w.heap.size w w' := by
  obtain ⟨i, hi⟩ : ∃ i, b / 64 = i := ⟨_, rfl⟩
  obtain ⟨k, hk⟩ : ∃ k, b % 64 = k := ⟨_, rfl⟩
  have hi4 : i < 4 := by omega
  have hk64 : k < 64 := by omega
  have hb1 : (b : Int) / 64 = (i : Int) := by omega
  have hb2 : (b : Int) % 64 = (k : Int) := by omega
  have HI := hide (And.intro hi hk)
  clear hi hk
  have hz := zeroSet
  have hbox : SBox ((w.alloc (.cells (st H) 24)).alloc (.cells (st nobs) 24)) w.heap.size H := heap_alloc2_old _ _ _
  have hres : SBox ((w.alloc (.cells (st H) 24)).alloc (.cells (st nobs) 24)) (w.heap.size + 1) nobs := heap_alloc2_new _ _ _
  have HB := hide (((Below.refl _ w).alloc (Nat.le_refl w.heap.size) (.cells (st H) 24)).alloc (by simp) (.cells (st nobs) 24))
  unfold sv
  go_enter Tryd.func40, Tryd.ntmps40
  go_wp2_with (refine wpList_load_row rfl 24 _ rfl w.heap.size rfl 24 (st H) (0, 0) _ hbox Tryd.underlying24 rfl (sizeSet H) ?_)
  refine (refHas_any H b _ hb).mono ?_
  rintro e w1 ⟨rfl, hb1⟩
  have HB1 := hide (HB.out.trans (hb1.mono (by simp; omega)))
  have hbox1 := hbox.below hb1 (by simp; omega)
  have hres1 := hres.below hb1 (by simp)
  clear hbox hres hb1
  cases hH : H b with
  | true =>
    have HR := hide (hres1.row H)
    have HE := hide (sv_congr H (plus H b) fun c _ => plus_same H b hH c)
    go_wp2_with (first | (refine wpList_load_row rfl 24 _ rfl w.heap.size rfl 24 (st H) (0, 0) _ hbox1 Tryd.underlying24 rfl (sizeSet H) ?_) | (refine wpList_store_row rfl 24 _ _ rfl (w.heap.size + 1) (st H) rfl rfl 24 (st nobs) hres1 (sizeSet H) rfl (st_one H) ?_))
    refine bodyPost_ret_by (results_cell_row rfl _ _ (w.heap.size + 1) 24 (st H) (0, 0) _ rfl HR.out Tryd.underlying24 rfl (sizeSet H)) rfl ⟨?_, below_row HB1.out (Nat.le_succ _) _⟩
    exact congrArg Ending.returned HE.out
  | false =>
    have HH := hide hH
    clear hH
    have HX := hide hbox1
    have HY := hide hres1
    have hc := hbox1.cell i hi4
    have hf := hbox1.frozen i
    have hlt := wd_lt H i
    have HA := hide (add_plus H b i k HI.out.1 HI.out.2 HH.out)
    obtain ⟨n, hn⟩ : ∃ n, wd H i = n := ⟨_, rfl⟩
    rw [hn] at hc hlt HA
    clear hn hbox1 hres1 hz
    go_wp2_with fail
    go_loop [5, 6] (fun a j => ∃ m : Nat, m ≤ k ∧ j = .int .u8 m ∧ a = .int .u64 (up m : Nat)) (fun _ j => k - (intOf j).toNat)
    case atStart => exact ⟨0, by omega, rfl, rfl⟩
    case round =>
      obtain ⟨m, hm, rfl, rfl⟩ := hrel
      by_cases hlk : m < k
      · have hu := up_small m (by omega)
        have hu2 := up_succ m
        have hu3 : up (m + 1) < 18446744073709551616 := by omega
        go_wp2_with fail
        go_round
        case rel => exact ⟨m + 1, by omega, by go_num, rfl⟩
        case measure => simp [intOf]; omega
      · obtain rfl : m = k := by omega
        have hu := up_lt m (by omega)
        have hw : ((n : Int) + (up m : Nat)) % 18446744073709551616 = (((n + up m) % 18446744073709551616 : Nat) : Int) := by omega
        rw [HA.out, ← IntKind.wrap_u64] at hw
        have hw' := wd_lt (plus H b) i
        have HS := hide (HX.out.plus b i hb HI.out.1 _ rfl)
        have HT := hide ((Below.heap_setCell w1 ⟨w.heap.size, i, none⟩ (.int .u64 (wd (plus H b) i : Nat)) (w.heap.size + 1) (by simp)).trans HY.out)
        have HS2 := HS.out
        have HT2 := HT.out
        have HR := hide (SBox.row (H := nobs) HT2 (plus H b))
        go_wp2_with (first | (refine wpList_load_row rfl 24 _ rfl w.heap.size rfl 24 (st (plus H b)) (0, 0) _ HS2 Tryd.underlying24 rfl (sizeSet (plus H b)) ?_) | (refine wpList_store_row rfl 24 _ _ rfl (w.heap.size + 1) (st (plus H b)) rfl rfl 24 (st nobs) HT2 (sizeSet (plus H b)) rfl (st_one (plus H b)) ?_))
        refine bodyPost_ret_by (results_cell_row rfl _ _ (w.heap.size + 1) 24 (st (plus H b)) (0, 0) _ rfl HR.out Tryd.underlying24 rfl (sizeSet (plus H b))) rfl ⟨rfl, below_row (HB1.out.setCell (p := ⟨w.heap.size, i, none⟩) (Nat.le_refl _) _) (Nat.le_succ _) _⟩
end Go.Proofs.YtmnjicpgdhnimaaDoor
