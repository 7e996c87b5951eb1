/-
  The range-function over the places of a text at which three bytes stand.
-/
import Derived.Test.YtpdlapnliiengaaGreatGKey
import Derived.Test.YtpdlapnliiengaaGreatRangeA
import Derived.Test.YtpdlapnliiengaaGreatTxt
import Derived.Sort.LoopGhostIn
import Derived.RangeFuncBound
import Derived.RangeFuncLeaves
import Derived.RangeFuncCalls
import Derived.Shelf.Abstract
import Derived.Shelf.RegionOpen
import Derived.WalkKit
import Derived.OwnWalkIn
import Derived.TacticsInMore
import Derived.LoopNIn
import Derived.LoopIn
namespace Go.Proofs.YtpdlapnliiengaaGreat
open Go.RowKit Go.Shelf

attribute [local go_sem] Oper.semAt_some

/-- What a walk through bytes lives on: the box of the slice, the bytes. -/
def ksOf (Bs : Nat) (a : Option Addr) (len k : Nat) : Prop := k = Bs ∨ (0 < len ∧ ∃ o s, a = some ⟨k, o, s⟩)
/-- The three bytes at place i. -/
def gN (z : Nat → Nat) (i : Nat) : Nat := z i * 65536 + z (i + 1) * 256 + z (i + 2)
theorem gN_ok {z : Nat → Nat} (h : ∀ i, z i < 256) (i : Nat) : Okg (gN z i) := by
  unfold Okg gN
  have h1 := h i
  have h2 := h (i + 1)
  have h3 := h (i + 2)
  omega
theorem gl_gN {z : Nat → Nat} (h : ∀ i, z i < 256) (i : Nat) : gl (gN z i) = [.int .u8 (z i : Int), .int .u8 (z (i + 1) : Int), .int .u8 (z (i + 2) : Int)] := by
  have h1 := h i
  have h2 := h (i + 1)
  have h3 := h (i + 2)
  have e1 : (z i * 65536 + z (i + 1) * 256 + z (i + 2)) / 65536 = z i := by omega
  have e2 : (z i * 65536 + z (i + 1) * 256 + z (i + 2)) / 256 % 256 = z (i + 1) := by omega
  have e3 : (z i * 65536 + z (i + 1) * 256 + z (i + 2)) % 256 = z (i + 2) := by omega
  unfold gl gN
  rw [e1, e2, e3]
def encG (z : Nat → Nat) (x : Nat) : Array Value := #[.int .i64 (x : Int), gv (gN z x)]

set_option maxHeartbeats 1000000 in
theorem gramsOf_in (F : Fence) (n : Nat) (hF : F.fn 21) (hro : F.round = none) (a : Option Addr) (len cap : Nat) (w : World) :
    CallsIn F n Tryz.prog 21 #[.slice a len cap] w fun e w' => e = .returned (.func (.func 30) #[] #[.pointer (some ⟨w.heap.size, 0, none⟩)]) ∧ w' = w.alloc (.cells #[.slice a len cap] 22) := by
  refine callsIn_of_wp Tryz.func21 rfl hF ?_ hro
  simp only [Tryz.ntmps21, List.size_toArray, List.length_cons, List.length_nil, Nat.reduceAdd, Nat.reduceSub, Array.replicate_succ, Array.replicate_zero, List.push_toArray, List.append_toArray, List.nil_append, List.cons_append]
  gi_wp2
  go_ret
  exact ⟨rfl, rfl⟩

/-- The three bytes, as they come. -/
def gpart (z : Nat → Nat) (k j : Nat) : List Value := [.int .u8 (if 0 < j then (z k : Int) else 0), .int .u8 (if 1 < j then (z (k + 1) : Int) else 0), .int .u8 (if 2 < j then (z (k + 2) : Int) else 0)]
theorem gpart_all {z : Nat → Nat} (h : ∀ i, z i < 256) (k : Nat) : gpart z k 3 = gl (gN z k) := by rw [gl_gN h]; rfl
theorem gpart_set (z : Nat → Nat) (k j : Nat) (h : j < 3) : (gpart z k j).toArray.setIfInBounds j (.int .u8 ((z (k + j) : Nat) : Int)) = (gpart z k (j + 1)).toArray := by
  match j, h with
  | 0, _ => rfl
  | 1, _ => rfl
  | 2, _ => rfl
theorem gpart_cell (w : World) (z : Nat → Nat) (k j : Nat) (h : j < 3) (t : TypeId) : (∃ u, (w.alloc (.cells (gpart z k j).toArray t)).cell? ⟨w.heap.size, j, none⟩ = some u) ∧ (w.alloc (.cells (gpart z k j).toArray t)).frozen? ⟨w.heap.size, j, none⟩ = false := by
  match j, h with
  | 0, _ => exact ⟨⟨.int .u8 0, by simp [gpart]⟩, by simp⟩
  | 1, _ => exact ⟨⟨.int .u8 0, by simp [gpart]⟩, by simp⟩
  | 2, _ => exact ⟨⟨.int .u8 0, by simp [gpart]⟩, by simp⟩
/-- What is known at a round, at the ends. -/
def GGram (len : Nat) (N : Nat) (pre : List Nat) (A : World) (x : Nat) (B : World) : Prop := Still N A B ∧ pre = List.range x ∧ x + 2 < len
def SGram (len : Nat) (N : Nat) (xs : List Nat) (A B : World) : Prop := Still N A B ∧ xs = List.range (len - 2)
def SpGram (len : Nat) (N : Nat) (pre : List Nat) (A B : World) : Prop := Still N A B ∧ ∃ x, x + 2 < len ∧ pre = List.range (x + 1)

set_option maxRecDepth 100000 in
set_option maxHeartbeats 2000000 in
theorem grams1_in (n l Bs : Nat) (a : Option Addr) (len cap : Nat) (z : Nat → Nat) (hlen : len ≤ 140737488355328) (J : List Nat × (Nat → Prop) → World → Prop) (Jx : List Nat → World → Prop)
    (W : World) (hY : ∀ pre O x A B, J (pre, O) A → GGram len W.heap.size pre A x B → YieldAt Fence.wide (n - 1) Tryz.prog l (encG z x) B fun e W' =>
      (e = .returned (.bool true) ∧ (∃ O', J (pre ++ [x], O') W' ∧ KeptO O B W' ∧ ∀ k, O' k → (O k ∨ B.heap.size ≤ k) ∧ k < W'.heap.size) ∧ KeepsFrom (l + 1) B W') ∨ (e = .returned (.bool false) ∧ Jx (pre ++ [x]) W' ∧ KeepsFrom (l + 1) B W'))
    (O0 : Nat → Prop) (hO0 : ∀ k, O0 k → ¬ ksOf Bs a len k ∧ k < W.heap.size) (hBs : W.cell? ⟨Bs, 0, none⟩ = some (.slice a len cap)) (hz : Byt W a len z) (h0 : J ([], O0) W) :
    CallsIn Fence.wide n Tryz.prog 30 #[.func (.yield l) #[] #[], .pointer (some ⟨Bs, 0, none⟩)] W fun e W' => (∃ v, e = .returned v) ∧
      ((∃ xs O A, J (xs, O) A ∧ SGram len W.heap.size xs A W') ∨ (∃ pre A, Jx pre A ∧ SpGram len W.heap.size pre A W')) := by
  refine callsIn_of_wp Tryz.func30 rfl trivial ?_ rfl
  simp only [Tryz.ntmps30, List.size_toArray, List.length_cons, List.length_nil, Nat.reduceAdd, Nat.reduceSub, Array.replicate_succ, Array.replicate_zero, List.push_toArray, List.append_toArray, List.nil_append, List.cons_append]
  gi_wp2
  apply wpIn_scope
  gi_wp2
  apply wpIn_label
  gi_wp2
  have HBl := block_lt_of_cell hBs
  gi_loopg [3, 4, 5, 8] len (fun q s3 s4 s5 s8 wr => ∃ (k : Nat) (O : Nat → Prop) (A : World), k + q = len ∧ k ≤ len - 2 ∧ s8 = .int .i64 k ∧ wr.cell? ⟨Bs, 0, none⟩ = some (.slice a len cap) ∧ Byt wr a len z ∧ J (List.range k, O) A ∧ Still W.heap.size A wr ∧ W.heap.size ≤ wr.heap.size ∧ (∀ k, k < W.heap.size → O k → ¬ ksOf Bs a len k) ∧ ∀ g o s, a = some ⟨g, o, s⟩ → 0 < len → g < W.heap.size)
  case atStart =>
    refine ⟨0, O0, W, by omega, Nat.zero_le _, rfl, hBs, hz, h0, Still.refl _ _, Nat.le_refl _, fun k hk h => (hO0 k h).1, fun g o s e hl => ?_⟩
    rcases hz.2 with h | ⟨b, off, e', hc⟩
    · omega
    · rw [e] at e'
      cases e'
      exact block_lt_of_cell (hc 0 hl)
  case round =>
    obtain ⟨k, O, A, hkq, hk2, rfl, hB, hzr, hJ, hst, hsz, hO, hlt⟩ := hrel
    cases gk with
    | zero =>
      obtain rfl : k = len := by omega
      gi_wp2
      go_end0
      obtain rfl : k = 0 := by omega
      exact ⟨⟨_, rfl⟩, .inl ⟨_, O, A, hJ, hst, rfl⟩⟩
    | succ q =>
      have hkl : k < len := by omega
      have hk1 : (k : Int) < (len : Int) := by omega
      have hbl : ∀ c : Array Value, (wr.alloc (.cells c 51)).cell? ⟨Bs, 0, none⟩ = some (.slice a len cap) := fun c => cell_thru hB (below_alloc _ _)
      obtain ⟨b, off, rfl, hc⟩ : ∃ b off, a = some ⟨b, off, none⟩ ∧ ∀ i, i < len → wr.cell? ⟨b, off + i, none⟩ = some (.int .u8 (z i : Nat)) := by
        rcases hzr.2 with h | h
        · omega
        · exact h
      gi_wp2
      gi_loopg [5, 11] 3 (fun q s5 s11 wq => ∃ (j : Nat), j + q = 3 ∧ s11 = .int .i64 j ∧ k + j ≤ len ∧ wq = wr.alloc (.cells (gpart z k j).toArray 51))
      case atStart => exact ⟨0, rfl, rfl, by omega, rfl⟩
      case round =>
        obtain ⟨j, hj, rfl, hkj, rfl⟩ := hrel
        have hb2 := hbl (gpart z k j).toArray
        cases gk with
        | zero =>
          obtain rfl : j = 3 := by omega
          have hw3 : wr.alloc (.cells (gpart z k 3).toArray 51) = wr.alloc (.cells (gl (gN z k)).toArray 51) := by rw [gpart_all hzr.1]
          have hst2 := hst.alloc (.cells (gpart z k 3).toArray 51)
          rw [hw3] at hst2 hb2 ⊢
          have hz2 := (Still.refl 0 wr).alloc (.cells (gl (gN z k)).toArray 51) |>.byt hzr
          obtain ⟨fn, tmps, assign, body, hy, hR⟩ := hY _ O k A _ hJ ⟨hst2, rfl, by omega⟩
          simp only [encG] at hy
          have hsx : (wr.alloc (.cells (gl (gN z k)).toArray 51)).heap.size = wr.heap.size + 1 := by simp
          have hc0 : (wr.alloc (.cells (gl (gN z k)).toArray 51)).cell? ⟨wr.heap.size, 0, none⟩ = some (.int .u8 ((gN z k / 65536 : Nat) : Int)) := by simp [gl]
          have hc1 : (wr.alloc (.cells (gl (gN z k)).toArray 51)).cell? ⟨wr.heap.size, 1, none⟩ = some (.int .u8 ((gN z k / 256 % 256 : Nat) : Int)) := by simp [gl]
          have hc2 : (wr.alloc (.cells (gl (gN z k)).toArray 51)).cell? ⟨wr.heap.size, 2, none⟩ = some (.int .u8 ((gN z k % 256 : Nat) : Int)) := by simp [gl]
          generalize wr.alloc (.cells (gl (gN z k)).toArray 51) = X at *
          unfold gv gl at hy
          generalize gN z k / 65536 = d0 at hy hc0
          generalize gN z k / 256 % 256 = d1 at hy hc1
          generalize gN z k % 256 = d2 at hy hc2
          have HZ := hide hz2
          have HB := hide hb2
          have HO := hide hO
          have HLT := hide hlt
          have HS := hide hsx
          clear hz2 hb2 hzr hY hc hbl hO hlt hsx hst2
          gi_wp2
          refine ⟨wide_deep, hR.mono ?_⟩
          rintro e W3 (⟨rfl, ⟨O', hJ3, hk3, hO3⟩, _⟩ | ⟨rfl, hJx3, _⟩)
          · gi_wp2
            gi_roundg q
            case measure => omega
            case rel =>
              have hs3 := hk3.size
              have hsx := HS.out
              refine ⟨k + 1, O', W3, by omega, by omega, by go_num, hk3.cell (fun h => ?_) HB.out, hk3.byt HZ.out (fun g o s e h0 hg hOg => ?_), ?_, Still.refl _ _, by omega, fun i hi hOi => ?_, HLT.out⟩
              · exact HO.out Bs HBl h (.inl rfl)
              · exact HO.out g (HLT.out g o s e h0) hOg (.inr ⟨h0, o, s, e⟩)
              · rw [List.range_succ]; exact hJ3
              · exact HO.out i hi (((hO3 i hOi).1).resolve_right (by omega))
          · gi_wp2
            rw [Exit.noGoto_normal]
            go_end0
            exact ⟨⟨_, rfl⟩, .inr ⟨_, W3, hJx3, Still.refl _ _, k, by omega, by rw [List.range_succ]⟩⟩
        | succ q2 =>
          by_cases he : k + j = len
          · have hne : ((k : Int) + (j : Int) == (len : Int)) = true := by simp; omega
            have hj3 : (j : Int) < 3 := by omega
            have hkl2 : len - 2 ≤ k := by omega
            clear hc hbl
            gi_wp2
            rw [Exit.noGoto_normal]
            go_end0
            obtain rfl : k = len - 2 := by omega
            exact ⟨⟨_, rfl⟩, .inl ⟨_, O, A, hJ, hst.alloc _, rfl⟩⟩
          · have hck := cell_thru (hc (k + j) (by omega)) (below_alloc wr (.cells (gpart z k j).toArray 51))
            have hj3 : (j : Int) < 3 := by omega
            have hne : ((k : Int) + (j : Int) == (len : Int)) = false := by simp; omega
            have hset := World.setCell_alloc_new (w := wr) (gpart z k j).toArray 51 j (.int .u8 ((z (k + j) : Nat) : Int))
            obtain ⟨⟨u0, hu0⟩, hf0⟩ := gpart_cell wr z k j (by omega) 51
            rw [gpart_set z k j (by omega)] at hset
            generalize wr.alloc (.cells (gpart z k j).toArray 51) = X at *
            have HS := hide hset
            clear hc hbl hset
            gi_wp2
            rw [HS.out]
            gi_roundg q2
            case measure => omega
            case rel => exact ⟨j + 1, by omega, by go_num, by omega, rfl⟩

theorem grams_seq (n : Nat) (Bs : Nat) (a : Option Addr) (len cap : Nat) (z : Nat → Nat) (hlen : len ≤ 140737488355328) (w : World) (hBs : w.cell? ⟨Bs, 0, none⟩ = some (.slice a len cap)) (hz : Byt w a len z) :
    SeqN Fence.wide n Tryz.prog 30 #[.pointer (some ⟨Bs, 0, none⟩)] (encG z) (GGram len) (ksOf Bs a len) (SGram len) (SpGram len) w := fun l J Jx W O0 hW _ hO0 hY h0 =>
  grams1_in n l Bs a len cap z hlen J Jx W hY O0 hO0 (cell_thru hBs hW) (hz.below hW) h0
end Go.Proofs.YtpdlapnliiengaaGreat
