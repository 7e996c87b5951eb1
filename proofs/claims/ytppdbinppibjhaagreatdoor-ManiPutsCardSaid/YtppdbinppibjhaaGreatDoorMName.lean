/-
  mani.Name, mani.Num.
-/
import Derived.Test.YtppdbinppibjhaaGreatDoorMRights
import Derived.Test.YtppdbinppibjhaaGreatDoorMMaths
import Derived.Test.YtppdbinppibjhaaGreatDoorRowP
import Derived.Test.YtppdbinppibjhaaGreatDoorShelf
import Derived.Lib.SmallJoins
import Derived.Lib.AppendIntMem
import Derived.Lib.AtoiErrMem
set_option maxHeartbeats 2000000
set_option maxRecDepth 100000
set_option linter.unusedVariables false
set_option linter.unusedSimpArgs false
namespace Go.Proofs.YtppdbinppibjhaaGreatDoor
open Go.RowKit Go.Shelf
def sV (l : List UInt8) : Value := .string ⟨l.toArray⟩
structure StdW (w : World) : Prop where
 tab : Lib.TabIs Tryz.prog w "internal/strconv.uint64pow10" .u64 Lib.pow10Tab
 syn : ∃ ev, w.cell? ⟨1, 0, none⟩ = some ev ∧ (ev = .nilIface ∨ ∃ te pe, ev = .iface te pe)
 rng : ∃ ev, w.cell? ⟨2, 0, none⟩ = some ev ∧ (ev = .nilIface ∨ ∃ te pe, ev = .iface te pe)
theorem StdW.below {w w' : World} (h : StdW w) (hb : Below w.heap.size w w') : StdW w' :=
 ⟨Go.Joins.tab_stays (B := w.heap.size) (show Tryz.prog.globalNamed "internal/strconv.uint64pow10" = some 0 by kernel_rfl) h.tab hb (Nat.le_refl _),
  (let ⟨ev, h1, h2⟩ := h.syn; ⟨ev, cell_thru h1 hb, h2⟩), (let ⟨ev, h1, h2⟩ := h.rng; ⟨ev, cell_thru h1 hb, h2⟩)⟩
theorem betZ_one {lo hi n : Int} : betZ lo hi (fun _ => n) 1 = (decide (lo ≤ n) && decide (n ≤ hi)) := by
 rw [Bool.eq_iff_iff, betZ_iff, Bool.and_eq_true, decide_eq_true_eq, decide_eq_true_eq]
 exact ⟨fun h => h 0 (by omega), fun h i _ => h⟩
theorem str_join (a b : List UInt8) : Value.string ((⟨a.toArray⟩ : ByteArray) ++ ⟨b.toArray⟩) = sV (a ++ b) := by
 unfold sV
 congr 1
theorem itoa_any (n : Int) (w : World) (h0 : 1 ≤ n) (h1 : n ≤ maxName) (h : n < 100 ∨ StdW w) :
  Calls Tryz.prog 25 #[.int .i64 n] w fun e w' => e = .returned (sV (Lib.itoa n)) ∧ Below w.heap.size w w' := by
 unfold maxName at h1
 rcases h with h | h
 ·obtain ⟨i, rfl⟩ : ∃ i : Nat, n = i := ⟨n.toNat, by omega⟩
  refine (Tryz.strconv_Itoa_small i (by omega) w).mono ?_
  rintro e w' ⟨rfl, rfl⟩
  exact ⟨by rw [Lib.itoa_nonneg]; rfl, Below.refl _ _⟩
 ·refine (Tryz.strconv_Itoa n (by omega) (by omega) w h.tab).mono ?_
  rintro e w' ⟨rfl, k, os, rfl⟩
  exact ⟨rfl, Lib.below_grow _ w (Nat.le_refl _) k os⟩
theorem mname_any (n : Int) (w : World) (h : n < 100 ∨ StdW w) :
  Calls Tryz.prog 26 #[.int .i64 n] w fun e w' => e = .returned (sV (nameN n)) ∧ Below w.heap.size w w' := by
 obtain ⟨W1, hW1⟩ : ∃ W1, w.alloc (.cells #[.int .i64 n] 3) = W1 := ⟨_, rfl⟩
 have hb1 : Below w.heap.size w W1 := by rw [← hW1]; exact below_alloc _ _
 have hi : Ints W1 (some ⟨w.heap.size, 0, none⟩) 1 (fun _ => n) := .inr ⟨w.heap.size, 0, rfl, fun i hi => by
  obtain rfl : i = 0 := by omega
  rw [← hW1]; exact (cell_new_l w _ _).1⟩
 have hbt := between_any 1 1099511627776 (some ⟨w.heap.size, 0, none⟩) 1 1 (fun _ => n) W1 (by omega) hi
 have HW := hide (And.intro hW1 hb1)
 have HH := hide h
 clear hW1 hb1 hi h
 go_enter Tryz.func26, Tryz.ntmps26
 go_wp2_with fail
 rw [HW.out.1]
 refine hbt.mono ?_
 rintro e w2 ⟨rfl, hb2⟩
 have hB2 := below_thru HW.out.2 hb2
 cases hb : betZ 1 1099511627776 (fun _ => n) 1 with
 | false =>
   have HB := hide hb
   have HB2 := hide hB2
   clear hbt hb2 hb hB2
   go_wp2_with fail
   go_ret
   refine ⟨?_, HB2.out⟩
   have e : nameN n = [] := by
    unfold nameN
    rw [if_neg]
    intro hh
    have h2 := HB.out
    rw [betZ_one] at h2
    unfold maxName at hh
    simp [hh.1, hh.2] at h2
   rw [e]
   rfl
 | true =>
   have hn := betZ_iff.1 hb 0 (by omega)
   have hit := itoa_any n w2 hn.1 (by unfold maxName; exact hn.2) (HH.out.imp (fun h => h) (fun h => h.below hB2))
   have HN := hide hn
   have HB2 := hide hB2
   have hlen := itoa_len (n := n) (by omega) (by unfold maxName; exact hn.2)
   have hlen2 : ¬ 9223372036854775807 < 2 + (Lib.itoa n).length := by omega
   clear hbt hb2 hb hB2 hlen
   unfold sV at hit
   go_wp2_with fail
   refine hit.mono ?_
   rintro e w3 ⟨rfl, hb3⟩
   have HB3 := hide (below_thru HB2.out hb3)
   clear hit hb3
   go_wp2_with fail
   go_ret
   refine ⟨?_, HB3.out⟩
   rw [nameN_pos HN.out.1 (by unfold maxName; exact HN.out.2)]
   exact congrArg Ending.returned (str_join [115, 46] (Lib.itoa n))
theorem num_gen (L : List UInt8) (w : World) (hL : L.length ≤ 140737488351232) (h : (∃ i : Int, 0 ≤ i ∧ i < 100 ∧ Lib.atoiAll (Lib.trimPrefix L [115, 46]) = .ok i) ∨ StdW w) :
  Calls Tryz.prog 72 #[sV (Lib.trimPrefix L [115, 46])] w fun e w' => Below w.heap.size w w' ∧ ((∃ v, Lib.atoiAll (Lib.trimPrefix L [115, 46]) = .ok v ∧ (v < 100 ∨ StdW w) ∧ e = .returned (.tuple #[.int .i64 v, .nilIface])) ∨
   ((∀ v, Lib.atoiAll (Lib.trimPrefix L [115, 46]) ≠ .ok v) ∧ ∃ x t y, e = .returned (.tuple #[.int .i64 x, .iface t y]))) := by
 have hle := Lib.trimPrefix_le L [115, 46]
 have hs : (⟨(Lib.trimPrefix L [115, 46]).toArray⟩ : ByteArray).size = (Lib.trimPrefix L [115, 46]).length := by simp [ByteArray.size]
 have hcase : (∃ v, Lib.atoiAll (Lib.trimPrefix L [115, 46]) = .ok v) ∨ Lib.atoiAll (Lib.trimPrefix L [115, 46]) = .range ∨ ((∀ v, Lib.atoiAll (Lib.trimPrefix L [115, 46]) ≠ .ok v) ∧ Lib.atoiAll (Lib.trimPrefix L [115, 46]) ≠ .range) := by
  cases ha : Lib.atoiAll (Lib.trimPrefix L [115, 46]) <;> first | exact .inl ⟨_, rfl⟩ | exact .inr (.inl rfl) | exact .inr (.inr ⟨fun v h => (by cases h), fun h => (by cases h)⟩)
 rcases hcase with ⟨v, ha⟩ | ha | ha
 ·have hv : v < 100 ∨ StdW w := by
   rcases h with ⟨i, h0, h1, h2⟩ | h
   ·rw [ha] at h2; cases h2; exact .inl h1
   ·exact .inr h
  refine (Tryz.strconv_Atoi_ok ⟨(Lib.trimPrefix L [115, 46]).toArray⟩ (by rw [hs]; omega) v (by simpa using ha) w).mono ?_
  rintro e w' ⟨rfl, hw⟩
  refine ⟨?_, .inl ⟨v, ha, hv, rfl⟩⟩
  rcases hw with rfl | ⟨t, rfl⟩
  ·exact Below.refl _ _
  ·exact Lib.bytesWorld_below w _ t
 ·have hS : StdW w := by
   rcases h with ⟨i, h0, h1, h2⟩ | h
   ·rw [ha] at h2; cases h2
   ·exact h
  obtain ⟨ev, h1, h2⟩ := hS.rng
  refine (Tryz.strconv_Atoi_range ⟨(Lib.trimPrefix L [115, 46]).toArray⟩ (by rw [hs]; omega) (by simpa using ha) ev w h1 h2).mono ?_
  rintro e w' ⟨N, rfl, _, _, hb⟩
  exact ⟨hb, .inr ⟨fun v h => (by rw [ha] at h; cases h), _, _, _, rfl⟩⟩
 ·have hS : StdW w := by
   rcases h with ⟨i, h0, h1, h2⟩ | h
   ·exact absurd h2 (ha.1 i)
   ·exact h
  obtain ⟨ev, h1, h2⟩ := hS.syn
  refine (Tryz.strconv_Atoi_other ⟨(Lib.trimPrefix L [115, 46]).toArray⟩ (by rw [hs]; omega) (by simpa using ha) ev w h1 h2).mono ?_
  rintro e w' ⟨N, rfl, _, _, hb⟩
  exact ⟨hb, .inr ⟨ha.1, _, _, _, rfl⟩⟩
theorem mnum_any (L : List UInt8) (w : World) (hL : L.length ≤ 140737488351232) (h : (∃ i : Int, 0 ≤ i ∧ i < 100 ∧ Lib.atoiAll (Lib.trimPrefix L [115, 46]) = .ok i) ∨ StdW w) :
  Calls Tryz.prog 37 #[sV L] w fun e w' => e = .returned (.tuple #[.int .i64 ((numN L).getD 0), .bool (numN L).isSome]) ∧ Below w.heap.size w w' := by
 have htr := Tryz.strings_TrimPrefix ⟨L.toArray⟩ ⟨#[115, 46]⟩ w
 have hat := num_gen L w hL h
 unfold sV at hat ⊢
 go_enter Tryz.func37, Tryz.ntmps37
 go_wp2_with fail
 refine htr.mono ?_
 rintro e w1 ⟨rfl, rfl⟩
 clear htr h
 go_wp2_with fail
 refine hat.mono ?_
 rintro e w2 ⟨hb2, (⟨v, ha, hv, rfl⟩ | ⟨ha, x, t, y, rfl⟩)⟩
 ·have hnm := mname_any v w2 (hv.imp (fun h => h) (fun h => h.below hb2))
  unfold sV at hnm
  have HB2 := hide hb2
  have HA := hide ha
  clear hat hb2 ha hv
  go_wp2_with fail
  refine hnm.mono ?_
  rintro e w3 ⟨rfl, hb3⟩
  have HB3 := hide (below_thru HB2.out hb3)
  clear hnm hb3
  by_cases he : nameN v = L
  ·have hnq : numN L = some v := by
    unfold numN
    rw [HA.out]
    exact if_pos he
   rw [he]
   have HQ := hide hnq
   clear hnq he
   go_wp2_with fail
   go_ret2
   exact ⟨by rw [HQ.out]; rfl, HB3.out⟩
  ·have hnq : numN L = none := by
    unfold numN
    rw [HA.out]
    exact if_neg he
   have HQ := hide hnq
   have hns : (nameN v == L) = false := by rw [beq_eq_false_iff_ne]; exact he
   clear hnq he
   go_wp2_with fail
   go_ret2
   exact ⟨by rw [HQ.out]; rfl, HB3.out⟩
 ·have hnq : numN L = none := by
   unfold numN
   split
   ·rename_i v e; exact absurd e (ha v)
   ·rfl
  have HQ := hide hnq
  have HB2 := hide hb2
  clear hat hb2 ha hnq
  go_wp2_with fail
  go_ret2
  exact ⟨by rw [HQ.out]; rfl, HB2.out⟩
end Go.Proofs.YtppdbinppibjhaaGreatDoor
