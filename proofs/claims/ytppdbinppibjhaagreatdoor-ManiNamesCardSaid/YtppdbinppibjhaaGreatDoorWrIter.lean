/-
  The range-function that goes through a number's bytes.
-/
import Derived.Test.YtppdbinppibjhaaGreatDoorWr
import Derived.Shelf.Abstract
import Derived.Shelf.RegionOpen
import Derived.TacticsInMore
import Derived.LoopNIn
import Derived.LoopIn
namespace Go.Proofs.YtppdbinppibjhaaGreatDoor
open Go.RowKit Go.Shelf

attribute [local go_sem] Oper.semAt_some

set_option maxRecDepth 10000 in
theorem or128 : ∀ x : Fin 256, 128 ||| x.val = x.val % 128 + 128 := by decide
theorem hi_byte (n : Nat) : bits BinOp.or IntKind.u8 128 ((n : Int) % 256) = ((n % 128 + 128 : Nat) : Int) := by
  have h := u8_or_nat 128 (n % 256) (by omega) (by omega)
  have e := or128 ⟨n % 256, by omega⟩
  simp only at e
  rw [e, show n % 256 % 128 = n % 128 from by omega] at h
  simpa using h

/-- The bytes that come. -/
def vals (l : List (Fin 256)) : List Nat := l.map Fin.val
theorem vals_snoc (l : List (Fin 256)) (b : Fin 256) : vals (l ++ [b]) = vals l ++ [b.val] := by simp [vals]

set_option maxHeartbeats 1000000 in
theorem bytesOf_in (F : Fence) (n : Nat) (hF : F.fn 77) (hro : F.round = none) (m : Int) (w : World) :
    CallsIn F n Tryz.prog 77 #[.int .i64 m] w fun e w' => e = .returned (.func (.func 129) #[] #[.pointer (some ⟨w.heap.size, 0, none⟩)]) ∧ w' = w.alloc (.cells #[.int .i64 m] 3) := by
  refine callsIn_of_wp Tryz.func77 rfl hF ?_ hro
  simp only [Tryz.ntmps77, List.size_toArray, List.length_cons, List.length_nil, Nat.reduceAdd, Nat.reduceSub, Array.replicate_succ, Array.replicate_zero, List.push_toArray, List.append_toArray, List.nil_append, List.cons_append]
  gi_wp2
  go_ret
  exact ⟨rfl, rfl⟩

set_option maxRecDepth 100000 in
set_option maxHeartbeats 2000000 in
theorem bytesOf1_in (F : Fence) (n : Nat) (hF : F.fn 129) (hro : F.round = none) (hn : 1 ≤ n) (l Bs : Nat) (m : Nat) (hm : m ≤ maxNum) (J Jx : List (Fin 256) → World → Prop)
    (hY : ∀ pre x W, J pre W → pre.length < 6 → YieldAt F (n - 1) Tryz.prog l #[.int .u8 (x.val : Nat)] W fun e W' =>
      (e = .returned (.bool true) ∧ J (pre ++ [x]) W' ∧ KeepsWalks W W') ∨ (e = .returned (.bool false) ∧ Jx (pre ++ [x]) W'))
    (W : World) (hBs : W.cell? ⟨Bs, 0, none⟩ = some (.int .i64 m)) (h0 : J [] W) :
    CallsIn F n Tryz.prog 129 #[.func (.yield l) #[] #[], .pointer (some ⟨Bs, 0, none⟩)] W fun e W' => (∃ v, e = .returned v) ∧
      ((∃ ys, vals ys = encN m ∧ J ys W') ∨ (∃ pre, True ∧ Jx pre W')) := by
  refine callsIn_of_wp Tryz.func129 rfl hF ?_ hro
  simp only [Tryz.ntmps129, List.size_toArray, List.length_cons, List.length_nil, Nat.reduceAdd, Nat.reduceSub, Array.replicate_succ, Array.replicate_zero, List.push_toArray, List.append_toArray, List.nil_append, List.cons_append]
  have hl6 := encN_len6 hm
  unfold maxNum at hm
  gi_wp2
  gi_loopw [3] (fun s wr => ∃ (q : Nat) (pre : List (Fin 256)), s = .int .i64 q ∧ q ≤ m ∧ vals pre ++ encN q = encN m ∧ J pre wr)
    (fun s _ => (intOf s).toNat)
  case atStart => exact ⟨m, [], rfl, Nat.le_refl _, rfl, h0⟩
  case round =>
    obtain ⟨q, pre, rfl, hq, he, hJs⟩ := hrel
    have hlen : pre.length < 6 := by
      have h1 := congrArg List.length he
      have h2 : 0 < (encN q).length := by
        by_cases h : q < 128
        · rw [encN_lo h]; simp
        · rw [encN_hi (by omega)]; simp
      simp [vals] at h1
      omega
    by_cases hlt : 128 ≤ q
    · have hx : q % 128 + 128 < 256 := by omega
      have hy0 := hY pre ⟨q % 128 + 128, hx⟩ wr hJs hlen
      simp only at hy0
      rw [← hi_byte q] at hy0
      obtain ⟨fn, tmps, assign, body, hy, hR⟩ := hy0
      rw [encN_hi hlt] at he
      have HE : Hid (vals (pre ++ [⟨q % 128 + 128, hx⟩]) ++ encN (q / 128) = encN m) := by
        rw [vals_snoc, List.append_assoc]; exact he
      clear he hl6
      gi_wp2
      refine hR.mono ?_
      rintro e W3 (⟨rfl, hJ3, _⟩ | ⟨rfl, hJx3⟩)
      · gi_wp2
        go_roundw
        case rel => exact ⟨q / 128, _, by go_num, by omega, HE.out, hJ3⟩
        case measure => simp [intOf]; omega
      · gi_wp2
        refine bodyPost_ret (results_none rfl _ _ _) rfl ?_
        exact ⟨⟨_, rfl⟩, .inr ⟨_, trivial, hJx3⟩⟩
    · have hx : q < 256 := by omega
      have hy0 := hY pre ⟨q, hx⟩ wr hJs hlen
      simp only at hy0
      obtain ⟨fn, tmps, assign, body, hy, hR⟩ := hy0
      rw [encN_lo (by omega)] at he
      have HE : Hid (vals (pre ++ [⟨q, hx⟩]) = encN m) := by
        rw [vals_snoc]; exact he
      clear he hl6
      gi_wp2
      refine hR.mono ?_
      rintro e W3 (⟨rfl, hJ3, _⟩ | ⟨rfl, hJx3⟩)
      · gi_wp2
        go_end0
        exact ⟨⟨_, rfl⟩, .inl ⟨_, HE.out, hJ3⟩⟩
      · gi_wp2
        go_end0
        exact ⟨⟨_, rfl⟩, .inr ⟨_, trivial, hJx3⟩⟩

/-- wire.bytesOf hands back a value that goes through the number's bytes. -/
theorem bytesOf_stops (F : Fence) (n : Nat) (hF : F.fn 129) (hro : F.round = none) (hn : 1 ≤ n) (Bs m : Nat) (hm : m ≤ maxNum) (w : World) (hBs : Bs < w.heap.size)
    (hc : w.cell? ⟨Bs, 0, none⟩ = some (.int .i64 m)) :
    SeqStopsK F n Tryz.prog 129 #[.pointer (some ⟨Bs, 0, none⟩)] (fun x : Fin 256 => #[Value.int .u8 (x.val : Nat)]) KeepsWalks (fun ys => vals ys = encN m) (fun _ => True) 6 w := fun l J Jx W hW _ _ hY h0 => by
  have hc' := (hW.cell (p := ⟨Bs, 0, none⟩) hBs).trans hc
  exact bytesOf1_in F n hF hro hn l Bs m hm J Jx hY W hc' h0
end Go.Proofs.YtppdbinppibjhaaGreatDoor
