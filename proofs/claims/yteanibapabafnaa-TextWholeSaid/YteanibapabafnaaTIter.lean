/-
  The range-functions of package text: where line feeds stand, where lines begin.
-/
import Derived.Test.YteanibapabafnaaTMath
import Derived.Test.YteanibapabafnaaRangeN
import Derived.Test.YteanibapabafnaaScopeIn
import Derived.Sort.LoopGhostIn
import Derived.RangeFuncBound
import Derived.RangeFuncLeaves
import Derived.RangeFuncCalls
import Derived.Shelf.Abstract
import Derived.Shelf.RegionOpen
import Derived.WalkKit
import Derived.OwnWalkIn
import Derived.TacticsInMore
import Derived.LoopNIn
import Derived.LoopIn
namespace Go.Proofs.Yteanibapabafnaa
open Go.RowKit Go.Shelf

attribute [local go_sem] Oper.semAt_some

/-- What a walk through bytes lives on: the box of the slice, the bytes. -/
def ksOf (Bs : Nat) (a : Option Addr) (len k : Nat) : Prop := k = Bs ∨ (0 < len ∧ ∃ o s, a = some ⟨k, o, s⟩)
def encN (x : Nat) : Array Value := #[.int .i64 (x : Int)]

set_option maxHeartbeats 1000000 in
theorem feeds_in (F : Fence) (n : Nat) (hF : F.fn 27) (hro : F.round = none) (a : Option Addr) (len cap : Nat) (w : World) :
    CallsIn F n Try.prog 27 #[.slice a len cap] w fun e w' => e = .returned (.func (.func 37) #[] #[.pointer (some ⟨w.heap.size, 0, none⟩)]) ∧ w' = w.alloc (.cells #[.slice a len cap] 22) := by
  refine callsIn_of_wp Try.func27 rfl hF ?_ hro
  simp only [Try.ntmps27, List.size_toArray, List.length_cons, List.length_nil, Nat.reduceAdd, Nat.reduceSub, Array.replicate_succ, Array.replicate_zero, List.push_toArray, List.append_toArray, List.nil_append, List.cons_append]
  gi_wp2
  go_ret
  exact ⟨rfl, rfl⟩
set_option maxHeartbeats 1000000 in
theorem begins_in (F : Fence) (n : Nat) (hF : F.fn 25) (hro : F.round = none) (a : Option Addr) (len cap : Nat) (w : World) :
    CallsIn F n Try.prog 25 #[.slice a len cap] w fun e w' => e = .returned (.func (.func 35) #[] #[.pointer (some ⟨w.heap.size, 0, none⟩)]) ∧ w' = w.alloc (.cells #[.slice a len cap] 22) := by
  refine callsIn_of_wp Try.func25 rfl hF ?_ hro
  simp only [Try.ntmps25, List.size_toArray, List.length_cons, List.length_nil, Nat.reduceAdd, Nat.reduceSub, Array.replicate_succ, Array.replicate_zero, List.push_toArray, List.append_toArray, List.nil_append, List.cons_append]
  gi_wp2
  go_ret
  exact ⟨rfl, rfl⟩

/-- What is known at a round of feeds, at its ends. -/
def GFeed (z : Nat → Nat) (len : Nat) (_ : Nat) (pre : List Nat) (A : World) (x : Nat) (B : World) : Prop := A = B ∧ pre = fd (isF z) x ∧ isF z x = true ∧ x < len
def SFeed (z : Nat → Nat) (len : Nat) (_ : Nat) (xs : List Nat) (A B : World) : Prop := A = B ∧ xs = fd (isF z) len
def SpFeed (z : Nat → Nat) (len : Nat) (_ : Nat) (pre : List Nat) (A B : World) : Prop := A = B ∧ ∃ x, x < len ∧ isF z x = true ∧ pre = fd (isF z) x ++ [x]

set_option maxRecDepth 100000 in
set_option maxHeartbeats 2000000 in
theorem feeds1_in (n l Bs N : Nat) (a : Option Addr) (len cap : Nat) (z : Nat → Nat) (hlen : len ≤ 140737488355328) (J : List Nat × (Nat → Prop) → World → Prop) (Jx : List Nat → World → Prop)
    (hY : ∀ pre O x A B, J (pre, O) A → GFeed z len N pre A x B → YieldAt Fence.wide (n - 1) Try.prog l (encN x) B fun e W' =>
      (e = .returned (.bool true) ∧ (∃ O', J (pre ++ [x], O') W' ∧ KeptO O B W' ∧ ∀ k, O' k → (O k ∨ B.heap.size ≤ k) ∧ k < W'.heap.size) ∧ KeepsFrom (l + 1) B W') ∨ (e = .returned (.bool false) ∧ Jx (pre ++ [x]) W' ∧ KeepsFrom (l + 1) B W'))
    (W : World) (O0 : Nat → Prop) (hO0 : ∀ k, O0 k → ¬ ksOf Bs a len k ∧ k < W.heap.size) (hBs : W.cell? ⟨Bs, 0, none⟩ = some (.slice a len cap)) (hz : Byt W a len z) (h0 : J ([], O0) W) :
    CallsIn Fence.wide n Try.prog 37 #[.func (.yield l) #[] #[], .pointer (some ⟨Bs, 0, none⟩)] W fun e W' => (∃ v, e = .returned v) ∧
      ((∃ xs O A, J (xs, O) A ∧ SFeed z len N xs A W') ∨ (∃ pre A, Jx pre A ∧ SpFeed z len N pre A W')) := by
  have hO1 : ∀ k, k < W.heap.size → O0 k → 0 < len → ∀ o s, a ≠ some ⟨k, o, s⟩ := fun k _ hk hl o s e => (hO0 k hk).1 (.inr ⟨hl, o, s, e⟩)
  clear hO0
  refine callsIn_of_wp Try.func37 rfl trivial ?_ rfl
  simp only [Try.ntmps37, List.size_toArray, List.length_cons, List.length_nil, Nat.reduceAdd, Nat.reduceSub, Array.replicate_succ, Array.replicate_zero, List.push_toArray, List.append_toArray, List.nil_append, List.cons_append]
  gi_wp2
  apply wpIn_scope
  gi_wp2
  apply wpIn_label
  gi_wp2
  gi_loopg [7] len (fun q s7 wr => ∃ (k : Nat) (O : Nat → Prop), k + q = len ∧ s7 = .int .i64 k ∧ Byt wr a len z ∧ J (fd (isF z) k, O) wr ∧ W.heap.size ≤ wr.heap.size ∧ (∀ k, k < W.heap.size → O k → 0 < len → ∀ o s, a ≠ some ⟨k, o, s⟩) ∧ ∀ g o s, a = some ⟨g, o, s⟩ → 0 < len → g < W.heap.size)
  case atStart =>
    refine ⟨0, O0, by omega, rfl, hz, h0, Nat.le_refl _, hO1, fun g o s e hl => ?_⟩
    rcases hz.2 with h | ⟨b, off, e', hc⟩
    · omega
    · rw [e] at e'
      cases e'
      exact block_lt_of_cell (hc 0 hl)
  case round =>
    obtain ⟨k, O, hkq, rfl, hzr, hJ, hsz, hO, hlt⟩ := hrel
    have HO := hide hO
    have HLT := hide hlt
    clear hz h0 hO1 hO hlt
    cases gk with
    | zero =>
      obtain rfl : k = len := by omega
      clear hzr hY
      gi_wp2
      rw [Exit.noGoto_normal]
      go_end0
      exact ⟨⟨_, rfl⟩, .inl ⟨_, O, wr, hJ, rfl, rfl⟩⟩
    | succ q =>
      have hkl : k < len := by omega
      have hk1 : (k : Int) < (len : Int) := by omega
      obtain ⟨b, off, rfl, hc⟩ : ∃ b off, a = some ⟨b, off, none⟩ ∧ ∀ i, i < len → wr.cell? ⟨b, off + i, none⟩ = some (.int .u8 (z i : Nat)) := by
        rcases hzr.2 with h | h
        · omega
        · exact h
      have hck := hc k hkl
      clear hc
      by_cases hf : z k = 10
      · have hff : isF z k = true := by unfold isF; rw [hf]; rfl
        rw [hf] at hck
        obtain ⟨fn, tmps, assign, body, hy, hR⟩ := hY _ O k wr wr hJ ⟨rfl, rfl, hff, hkl⟩
        have HZ := hide hzr
        clear hzr hY
        simp only [encN] at hy
        gi_wp2
        refine ⟨wide_deep, hR.mono ?_⟩
        rintro e W3 (⟨rfl, ⟨O', hJ3, hk3, hO3⟩, _⟩ | ⟨rfl, hJx3, _⟩)
        · gi_wp2
          gi_roundg q
          case measure => omega
          case rel =>
            have hs3 := hk3.size
            refine ⟨k + 1, O', by omega, by go_num, hk3.byt HZ.out (fun g o s e h0 hg hOg => HO.out g (HLT.out g o s e h0) hOg h0 o s e), by rw [fd_yes hff]; exact hJ3, by omega, fun i hi hOi hl o s e => ?_, HLT.out⟩
            rcases (hO3 i hOi).1 with h | h
            · exact HO.out i hi h hl o s e
            · omega
        · gi_wp2
          rw [Exit.noGoto_normal]
          go_end0
          exact ⟨⟨_, rfl⟩, .inr ⟨_, W3, hJx3, rfl, k, hkl, hff, rfl⟩⟩
      · have hff : isF z k = false := by unfold isF; simpa using hf
        have hne : ((z k : Nat) : Int) ≠ 10 := by omega
        have HZ := hide hzr
        clear hzr hY
        generalize hx : z k = x at hck hne
        gi_wp2
        gi_roundg q
        case measure => omega
        case rel => exact ⟨k + 1, O, by omega, by go_num, HZ.out, by rw [fd_no hff]; exact hJ, hsz, HO.out, HLT.out⟩

theorem feeds_seq (n : Nat) (Bs : Nat) (a : Option Addr) (len cap : Nat) (z : Nat → Nat) (hlen : len ≤ 140737488355328) (w : World) (hBs : w.cell? ⟨Bs, 0, none⟩ = some (.slice a len cap)) (hz : Byt w a len z) :
    SeqN Fence.wide n Try.prog 37 #[.pointer (some ⟨Bs, 0, none⟩)] encN (GFeed z len) (ksOf Bs a len) (SFeed z len) (SpFeed z len) w := fun l J Jx W O0 hW _ hO0 hY h0 =>
  feeds1_in n l Bs W.heap.size a len cap z hlen J Jx hY W O0 hO0 (cell_thru hBs hW) (hz.below hW) h0
end Go.Proofs.Yteanibapabafnaa
