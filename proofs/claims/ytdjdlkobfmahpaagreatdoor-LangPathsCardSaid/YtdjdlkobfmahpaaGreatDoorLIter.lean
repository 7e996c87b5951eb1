/-
  The range-function of package lang: a path's parts.
-/
import Derived.Test.YtdjdlkobfmahpaaGreatDoorLLang
import Derived.Test.YtdjdlkobfmahpaaGreatDoorRangeA
import Derived.Sort.LoopGhostIn
import Derived.RangeFuncBound
import Derived.RangeFuncLeaves
import Derived.RangeFuncCalls
import Derived.Shelf.Abstract
import Derived.Shelf.RegionOpen
import Derived.WalkKit
import Derived.OwnWalkIn
import Derived.TacticsInMore
import Derived.LoopNIn
import Derived.LoopIn
namespace Go.Proofs.YtdjdlkobfmahpaaGreatDoor
open Go.RowKit Go.Shelf

attribute [local go_sem] Oper.semAt_some

def encS (x : List UInt8) : Array Value := #[by8 x]
set_option maxHeartbeats 1000000 in
theorem partsOf_in (F : Fence) (n : Nat) (hF : F.fn 33) (hro : F.round = none) (L : List UInt8) (w : World) :
    CallsIn F n Tryz.prog 33 #[by8 L] w fun e w' => e = .returned (.func (.func 72) #[] #[.pointer (some ⟨w.heap.size, 0, none⟩)]) ∧ w' = w.alloc (.cells #[by8 L] 9) := by
  refine callsIn_of_wp Tryz.func33 rfl hF ?_ hro
  simp only [Tryz.ntmps33, List.size_toArray, List.length_cons, List.length_nil, Nat.reduceAdd, Nat.reduceSub, Array.replicate_succ, Array.replicate_zero, List.push_toArray, List.append_toArray, List.nil_append, List.cons_append]
  unfold by8
  gi_wp2
  go_ret
  exact ⟨rfl, rfl⟩

/-- What is known at a round, at the ends. -/
def GPart (L : List UInt8) (_ : Nat) (pre : List (List UInt8)) (A : World) (x : List UInt8) (B : World) : Prop := (∃ m, B = A.drewN m) ∧ ∃ r, pre ++ x :: r = partsL L
def SPart (L : List UInt8) (_ : Nat) (xs : List (List UInt8)) (A B : World) : Prop := A = B ∧ xs = partsL L
def SpPart (L : List UInt8) (_ : Nat) (pre : List (List UInt8)) (A B : World) : Prop := A = B ∧ ∃ r, pre ++ r = partsL L

theorem cutS_length (l : List UInt8) : (cutS l).2.1.length ≤ l.length := by
  unfold cutS
  split
  · simp
  · simp

set_option maxRecDepth 100000 in
set_option maxHeartbeats 2000000 in
theorem parts1_in (n l Bs N : Nat) (L : List UInt8) (hL : L.length ≤ 1000000) (J : List (List UInt8) × (Nat → Prop) → World → Prop) (Jx : List (List UInt8) → World → Prop)
    (hY : ∀ pre O x A B, J (pre, O) A → GPart L N pre A x B → YieldAt Fence.wide (n - 1) Tryz.prog l (encS x) B fun e W' =>
      (e = .returned (.bool true) ∧ (∃ O', J (pre ++ [x], O') W' ∧ KeptO O B W' ∧ ∀ k, O' k → (O k ∨ B.heap.size ≤ k) ∧ k < W'.heap.size) ∧ KeepsFrom (l + 1) B W') ∨ (e = .returned (.bool false) ∧ Jx (pre ++ [x]) W' ∧ KeepsFrom (l + 1) B W'))
    (W : World) (O0 : Nat → Prop) (hBs : W.cell? ⟨Bs, 0, none⟩ = some (by8 L)) (h0 : J ([], O0) W) :
    CallsIn Fence.wide n Tryz.prog 72 #[.func (.yield l) #[] #[], .pointer (some ⟨Bs, 0, none⟩)] W fun e W' => (∃ v, e = .returned v) ∧
      ((∃ xs O A, J (xs, O) A ∧ SPart L N xs A W') ∨ (∃ pre A, Jx pre A ∧ SpPart L N pre A W')) := by
  refine callsIn_of_wp Tryz.func72 rfl trivial ?_ rfl
  simp only [Tryz.ntmps72, List.size_toArray, List.length_cons, List.length_nil, Nat.reduceAdd, Nat.reduceSub, Array.replicate_succ, Array.replicate_zero, List.push_toArray, List.append_toArray, List.nil_append, List.cons_append]
  gi_wp2
  gi_loopg [3, 4, 5] (partsL L).length (fun q s3 s4 _ wr => ∃ (pre : List (List UInt8)) (O : Nat → Prop) (left : List UInt8) (more : Bool), s3 = by8 left ∧ s4 = .bool more ∧ pre ++ (if more then partsL left else []) = partsL L ∧ (if more then partsL left else []).length = q ∧ left.length ≤ 1000000 ∧ J (pre, O) wr)
  case atStart => exact ⟨[], O0, L, true, rfl, rfl, by simp, by simp, hL, h0⟩
  case round =>
    obtain ⟨pre, O, left, more, rfl, rfl, hpp, hq, hll, hJ⟩ := hrel
    cases more with
    | false =>
      simp only [Bool.false_eq_true, if_false, List.append_nil] at hpp
      gi_wp2
      go_end0
      exact ⟨⟨_, rfl⟩, .inl ⟨_, O, wr, hJ, rfl, hpp⟩⟩
    | true =>
      simp only [if_true] at hpp hq
      have hcp := cutS_parts left
      have hcl := cutS_length left
      gi_wp2
      refine ⟨trivial, wide_deep, (callsIn_wide.2 (cut_any left wr hll)).mono ?_⟩
      rintro e w4 ⟨rfl, m, rfl⟩
      have hGP : GPart L N pre wr (cutS left).1 (wr.drewN m) := ⟨⟨m, rfl⟩, _, by rw [← hpp, hcp]⟩
      have hpp2 : (pre ++ [(cutS left).1]) ++ (if (cutS left).2.2 then partsL (cutS left).2.1 else []) = partsL L := by rw [← hpp, hcp, List.append_assoc]; rfl
      have hq2 : (if (cutS left).2.2 then partsL (cutS left).2.1 else []).length + 1 = gk := by rw [← hq, hcp]; rfl
      have hll2 : (cutS left).2.1.length ≤ 1000000 := by omega
      obtain ⟨fn, tmps, assign, body, hy, hR⟩ := hY _ O _ wr _ hJ hGP
      clear hcp hGP hJ hpp hq
      simp only [encS] at hy
      gi_wp2
      refine ⟨wide_deep, hR.mono ?_⟩
      rintro e W3 (⟨rfl, ⟨O', hJ3, _, _⟩, _⟩ | ⟨rfl, hJx3, _⟩)
      · gi_wp2
        cases hgk : gk with
        | zero => omega
        | succ q =>
          gi_roundg q
          case measure => omega
          case rel => exact ⟨_, O', _, _, rfl, rfl, hpp2, by omega, hll2, hJ3⟩
      · gi_wp2
        refine bodyPost_ret (results_none rfl _ _ _) rfl ?_
        exact ⟨⟨_, rfl⟩, .inr ⟨_, W3, hJx3, rfl, _, hpp2⟩⟩

theorem parts_seq (n : Nat) (Bs : Nat) (L : List UInt8) (hL : L.length ≤ 1000000) (w : World) (hBs : w.cell? ⟨Bs, 0, none⟩ = some (by8 L)) :
    SeqN Fence.wide n Tryz.prog 72 #[.pointer (some ⟨Bs, 0, none⟩)] encS (GPart L) (fun _ => False) (SPart L) (SpPart L) w := fun l J Jx W O0 hW _ _ hY h0 =>
  parts1_in n l Bs W.heap.size L hL J Jx hY W O0 (cell_thru hBs hW) h0
end Go.Proofs.YtdjdlkobfmahpaaGreatDoor
