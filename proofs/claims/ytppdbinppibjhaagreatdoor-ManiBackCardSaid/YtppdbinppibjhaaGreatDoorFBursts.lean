/-
  frame.Burst: bits of bytes are turned.
-/
import Derived.Test.YtppdbinppibjhaaGreatDoorFMath
import Derived.Test.YtppdbinppibjhaaGreatDoorCrcs
import Derived.Test.YtppdbinppibjhaaGreatDoorRows2
import Derived.Test.YtppdbinppibjhaaGreatDoorFRP
import Derived.BigQuiet
import Derived.BigRegion
import Derived.Deep.DeepMust
import Derived.RegionTactic
set_option linter.unusedSimpArgs false
namespace Go.Proofs.YtppdbinppibjhaaGreatDoor
open Go.RowKit

theorem and_one (m k : Nat) (hm : m < 4294967296) : bits BinOp.and IntKind.u32 ((m : Int) / 2 ^ k) 1 = if m.testBit k = true then 1 else 0 := by
  have h : ((m : Int) / 2 ^ k) = ((hiN m k : Nat) : Int) := by unfold hiN; simp
  rw [h]
  have h2 := low_bit (hiN m k) (Nat.lt_of_le_of_lt (Nat.div_le_self _ _) hm)
  have h3 := u32_and_nat (hiN m k) 1 (Nat.lt_of_le_of_lt (Nat.div_le_self _ _) hm) (by omega)
  have h4 : hiN m k &&& 1 = hiN m k % 2 := Nat.and_one_is_mod _
  rw [h4] at h3
  rw [show ((1 : Nat) : Int) = 1 from rfl] at h3
  rw [h3, Nat.testBit_eq_decide_div_mod_eq]
  unfold hiN
  by_cases e : m / 2 ^ k % 2 = 1
  · rw [e]; simp
  · have : m / 2 ^ k % 2 = 0 := by omega
    rw [this]; simp
theorem turn_cell (t e : Nat) (ht : t < 256) (he : e < 8) : bits BinOp.xor IntKind.u8 (t : Int) (2 ^ e % 256) = ((t ^^^ 2 ^ e : Nat) : Int) := by
  have h1 : 2 ^ e < 256 := Nat.pow_lt_pow_right (a := 2) (m := e) (n := 8) (by omega) he
  have h2 : ((2 : Int) ^ e % 256) = ((2 ^ e : Nat) : Int) := by
    have h3 : ((2 : Int) ^ e) = ((2 ^ e : Nat) : Int) := by simp
    rw [h3]
    generalize 2 ^ e = q at h1
    omega
  rw [h2]
  exact u8_xor_nat t (2 ^ e) ht h1

theorem cellsOf_set (z y : Nat → Nat) (n i x : Nat) (hy : y i = x) (ho : ∀ j, j ≠ i → y j = z j) : (cellsOf z n).set i (.int .u8 (x : Nat)) = cellsOf y n := by
  apply List.ext_getElem?
  intro j
  rw [List.getElem?_set]
  by_cases hj : j < n
  · rw [cellsOf_get y n j hj]
    by_cases e : i = j
    · subst e
      rw [if_pos rfl, cellsOf_length, if_pos hj, hy]
    · rw [if_neg e, cellsOf_get z n j hj, ho j (fun h => e h.symm)]
  · rw [List.getElem?_eq_none (l := cellsOf y n) (by rw [cellsOf_length]; omega)]
    by_cases e : i = j
    · subst e
      rw [if_pos rfl, cellsOf_length, if_neg hj]
    · rw [if_neg e, List.getElem?_eq_none (by rw [cellsOf_length]; omega)]
theorem cellsOf_tx (z : Nat → Nat) (n : Nat) : cellsOf z n = lc (tx z n) := by
  simp [cellsOf, lc, tx]

set_option maxRecDepth 100000 in
set_option maxHeartbeats 2000000 in
theorem fburst_any (A : Option Addr) (C n : Nat) (L : List Nat) (bit : Int) (m : Nat) (w : World) (hn : L.length = n) (hS : SB w A C L) (hsz : n ≤ 1000000) (hbit : (Lit.int .i64 bit).wf = true) (hm : m < 4294967296) :
    Calls Tryz.prog 34 #[.slice A n C, .int .i64 bit, .int .u32 (m : Nat)] w fun e w' => ∃ v, e = .returned v ∧ w'.ownsRow w.heap.size 5 1 v n (lc (burstL L bit m)) ∧ Below w.heap.size w w' := by
  have hb := bounds_i64 hbit
  have hcl := cloneBytes_any A n C L w hn (by omega) (by rw [← hn]; exact hS.l) hS.n hS.b
  have hlt := hS.b.lt
  by_cases h0 : bit < 0
  · have hbl : burstL L bit m = L := by unfold burstL; rw [if_pos h0]
    rw [hbl]
    clear hS hlt hbl hbit
    go_enter Tryz.func34, Tryz.ntmps34
    go_wp2_with fail
    refine hcl.mono ?_
    rintro e w1 ⟨v, rfl, ho, hB⟩
    go_wp2_with fail
    go_ret
    exact ⟨v, rfl, ho, hB⟩
  · obtain ⟨a, rfl⟩ : ∃ a : Nat, bit = (a : Int) := ⟨bit.toNat, by omega⟩
    obtain ⟨z, hz⟩ : ∃ z : Nat → Nat, z = fun i => L.getD i 0 := ⟨_, rfl⟩
    have hzl : ∀ j, z j < 256 := fun j => by
      rw [hz]
      show L.getD j 0 < 256
      rw [List.getD_eq_getElem?_getD]
      by_cases hj : j < L.length
      · rw [List.getElem?_eq_getElem hj]; exact hlt _ (List.getElem_mem hj)
      · rw [List.getElem?_eq_none (by omega)]; simp
    obtain ⟨K, hK⟩ : ∃ K, min 32 (8 * n - a) = K := ⟨_, rfl⟩
    have hbl : lc (burstL L (a : Int) m) = cellsOf (turnN z m a K) n := by
      unfold burstL
      rw [if_neg h0, cellsOf_tx, hn, ← hz, Int.toNat_natCast, hK]
    have hL0 : lc L = cellsOf z n := by rw [hz, ← hn, cellsOf_lc]
    rw [hbl]
    rw [hL0] at hcl
    clear hS hlt hbl hL0 hz hbit hn
    go_enter Tryz.func34, Tryz.ntmps34
    go_wp2_with fail
    refine hcl.mono ?_
    rintro e w1 ⟨v, rfl, ho, hB⟩
    obtain ⟨VA, VC, rfl⟩ := owns_slice ho
    have HO := hide ho
    clear ho hcl
    go_wp2_with fail
    · go_loopg [21] K (fun q s21 wr => ∃ k : Nat, k + q = K ∧ s21 = .int .i64 k ∧ wr.ownsRow w.heap.size 5 1 (.slice VA n VC) n (cellsOf (turnN z m a k) n) ∧ Below w.heap.size w wr)
      case atStart => exact ⟨0, by omega, rfl, HO.out, hB⟩
      case round =>
        obtain ⟨k, hkq, rfl, ho, hBr⟩ := hrel
        have hk0 : (0 : Int) ≤ (k : Int) := by omega
        cases gk with
        | zero =>
          obtain rfl : k = K := by omega
          have hend : 8 * (n : Int) - (a : Int) ≤ (k : Int) := by omega
          have HO2 := hide (And.intro ho hBr)
          clear ho hBr
          go_wp2_with fail
          go_ret
          exact ⟨_, rfl, HO2.out.1, HO2.out.2⟩
        | succ q =>
          have hend : (k : Int) < 8 * (n : Int) - (a : Int) := by omega
          have hx : (a + k) / 8 < n := by omega
          have hxi : ((a : Int) + (k : Int)) / 8 < (n : Int) := by omega
          obtain ⟨g, C2, hv, hc, hf, hnc, hcm⟩ := owns_cell ho (cellsOf_get (turnN z m a k) n ((a + k) / 8) hx)
          cases hv
          have hnew := owns_set ho rfl (i := (a + k) / 8) (.int .u8 (turnN z m a (k + 1) ((a + k) / 8) : Nat))
          rw [cellsOf_set (turnN z m a k) (turnN z m a (k + 1)) n ((a + k) / 8) _ rfl (fun j hj => by rw [turnN_succ, if_neg (fun h => hj h.2)])] at hnew
          have hgB := (owns_cells ho g rfl).2.1
          have hanw := and_one m k hm
          have htl := turnN_lt z m a hzl k ((a + k) / 8)
          have hts := turnN_succ z m a k ((a + k) / 8)
          have HO2 := hide (And.intro hnew hBr)
          clear ho hBr hnew
          generalize turnN z m a k ((a + k) / 8) = t at hc htl hts
          by_cases hbt : m.testBit k = true
          · simp only [hbt, if_true, if_false] at hanw
            go_wp2
            go_region
            go_wp2
            go_roundg q
            case measure => omega
            case rel =>
              refine ⟨k + 1, by omega, by go_num, ?_, (HO2.out.2.setCell (p := ⟨g, (a + k) / 8, none⟩) hgB _).drew⟩
              have hv : bits BinOp.xor IntKind.u8 (t : Int) (2 ^ ((a + k) % 8) % 256) = ((turnN z m a (k + 1) ((a + k) / 8) : Nat) : Int) := by
                rw [hts, if_pos ⟨hbt, by trivial⟩]
                exact turn_cell t _ htl (by omega)
              rw [hv]
              exact HO2.out.1
          · simp only [hbt, if_false] at hanw
            go_wp2
            go_region
            go_wp2
            go_roundg q
            case measure => omega
            case rel =>
              refine ⟨k + 1, by omega, by go_num, ?_, (HO2.out.2.setCell (p := ⟨g, (a + k) / 8, none⟩) hgB _).drew⟩
              have hv : bits BinOp.xor IntKind.u8 (t : Int) (0) = ((turnN z m a (k + 1) ((a + k) / 8) : Nat) : Int) := by
                rw [hts, if_neg (fun h => hbt h.1)]
                have := u8_xor_nat t 0 htl (by omega)
                simpa using this
              rw [hv]
              exact HO2.out.1
    · go_loopg [21] K (fun q s21 wr => ∃ k : Nat, k + q = K ∧ s21 = .int .i64 k ∧ wr.ownsRow w.heap.size 5 1 (.slice VA n VC) n (cellsOf (turnN z m a k) n) ∧ Below w.heap.size w wr)
      case atStart => exact ⟨0, by omega, rfl, HO.out, hB⟩
      case round =>
        obtain ⟨k, hkq, rfl, ho, hBr⟩ := hrel
        have hk0 : (0 : Int) ≤ (k : Int) := by omega
        cases gk with
        | zero =>
          obtain rfl : k = K := by omega
          have hend : (32 : Int) ≤ (k : Int) := by omega
          have HO2 := hide (And.intro ho hBr)
          clear ho hBr
          go_wp2_with fail
          go_ret
          exact ⟨_, rfl, HO2.out.1, HO2.out.2⟩
        | succ q =>
          have hend : (k : Int) < 32 := by omega
          have hx : (a + k) / 8 < n := by omega
          have hxi : ((a : Int) + (k : Int)) / 8 < (n : Int) := by omega
          obtain ⟨g, C2, hv, hc, hf, hnc, hcm⟩ := owns_cell ho (cellsOf_get (turnN z m a k) n ((a + k) / 8) hx)
          cases hv
          have hnew := owns_set ho rfl (i := (a + k) / 8) (.int .u8 (turnN z m a (k + 1) ((a + k) / 8) : Nat))
          rw [cellsOf_set (turnN z m a k) (turnN z m a (k + 1)) n ((a + k) / 8) _ rfl (fun j hj => by rw [turnN_succ, if_neg (fun h => hj h.2)])] at hnew
          have hgB := (owns_cells ho g rfl).2.1
          have hanw := and_one m k hm
          have htl := turnN_lt z m a hzl k ((a + k) / 8)
          have hts := turnN_succ z m a k ((a + k) / 8)
          have HO2 := hide (And.intro hnew hBr)
          clear ho hBr hnew
          generalize turnN z m a k ((a + k) / 8) = t at hc htl hts
          by_cases hbt : m.testBit k = true
          · simp only [hbt, if_true, if_false] at hanw
            go_wp2
            go_region
            go_wp2
            go_roundg q
            case measure => omega
            case rel =>
              refine ⟨k + 1, by omega, by go_num, ?_, (HO2.out.2.setCell (p := ⟨g, (a + k) / 8, none⟩) hgB _).drew⟩
              have hv : bits BinOp.xor IntKind.u8 (t : Int) (2 ^ ((a + k) % 8) % 256) = ((turnN z m a (k + 1) ((a + k) / 8) : Nat) : Int) := by
                rw [hts, if_pos ⟨hbt, by trivial⟩]
                exact turn_cell t _ htl (by omega)
              rw [hv]
              exact HO2.out.1
          · simp only [hbt, if_false] at hanw
            go_wp2
            go_region
            go_wp2
            go_roundg q
            case measure => omega
            case rel =>
              refine ⟨k + 1, by omega, by go_num, ?_, (HO2.out.2.setCell (p := ⟨g, (a + k) / 8, none⟩) hgB _).drew⟩
              have hv : bits BinOp.xor IntKind.u8 (t : Int) (0) = ((turnN z m a (k + 1) ((a + k) / 8) : Nat) : Int) := by
                rw [hts, if_neg (fun h => hbt h.1)]
                have := u8_xor_nat t 0 htl (by omega)
                simpa using this
              rw [hv]
              exact HO2.out.1
end Go.Proofs.YtppdbinppibjhaaGreatDoor

/-
  The reference's Burst.
-/
namespace Go.Proofs.YtppdbinppibjhaaGreatDoor
open Go.RowKit

end Go.Proofs.YtppdbinppibjhaaGreatDoor
