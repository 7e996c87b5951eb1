/-
  The range-function that goes through a byte's bits, and the byte that is taken by it: crc.bitsOf, its closure, crc.takeByte.
-/
import Derived.RangeFuncFrom
import Derived.RangeFuncCalls
import Derived.RangeFuncLeaves
import Derived.RangeFuncBound
import Derived.Shelf.Abstract
import Derived.Shelf.RegionOpen
import Derived.WalkKit
import Derived.OwnWalkIn
import Derived.TacticsInMore
import Derived.LoopNIn
import Derived.LoopIn
import Derived.Test.YtpmldopbjlnknaaBits
namespace Go.Proofs.Ytpmldopbjlnknaa
open Go.RowKit Go.Shelf

attribute [local go_sem] Oper.semAt_some

theorem shr_bit (m k : Nat) (hm : m < 256) : (bits BinOp.and IntKind.u8 ((m : Int) / 2 ^ k) 1 == 1) = m.testBit k := by
  have h : ((m : Int) / 2 ^ k) = ((hiN m k : Nat) : Int) := by unfold hiN; simp
  rw [h, low_bit8 _ (hiN_lt m k hm), Nat.testBit_eq_decide_div_mod_eq]
  rfl

set_option maxHeartbeats 1000000 in
theorem bitsOf_in (F : Fence) (n : Nat) (hF : F.fn 92) (hro : F.round = none) (m : Nat) (w : World) :
    CallsIn F n Try.prog 92 #[.int .u8 m] w fun e w' => e = .returned (.func (.func 97) #[] #[.pointer (some ⟨w.heap.size, 0, none⟩)]) ∧ w' = w.alloc (.cells #[.int .u8 m] 5) := by
  refine callsIn_of_wp Try.func92 rfl hF ?_ hro
  simp only [Try.ntmps92, List.size_toArray, List.length_cons, List.length_nil, Nat.reduceAdd, Nat.reduceSub, Array.replicate_succ, Array.replicate_zero, List.push_toArray, List.append_toArray, List.nil_append, List.cons_append]
  gi_wp2
  go_ret
  exact ⟨rfl, rfl⟩

/-- What a cell holds is kept. -/
def keepsAt (Bs : Nat) (A B : World) : Prop := ∀ v, A.cell? ⟨Bs, 0, none⟩ = some v → B.cell? ⟨Bs, 0, none⟩ = some v
theorem keepsAt_t {Bs : Nat} {A B C : World} (h : keepsAt Bs A B) (k : keepsAt Bs B C) : keepsAt Bs A C := fun v hv => k v (h v hv)
theorem keepsAt_b {Bs : Nat} {w : World} (W : World) (l : Nat) (o o' : Obj) (_ : w.heap.size ≤ l) (h : W.heap[l]? = some o) (hc : o.isCells = false) (_ : o.isWalk = false) : keepsAt Bs W (W.putObj l o') :=
  fun _ hv => cell_kept hv (grownBy_putObj' W l o') (fun _ e => by cases e; exact ⟨o, h, hc⟩)

set_option maxRecDepth 100000 in
set_option maxHeartbeats 2000000 in
theorem bitsOf1_in (F : Fence) (n : Nat) (hF : F.fn 97) (hro : F.round = none) (hn : 1 ≤ n) (l Bs : Nat) (m : Nat) (hm : m < 256) (J Jx : List Bool → World → Prop)
    (hY : ∀ pre x W, J pre W → pre.length < 8 → YieldAt F (n - 1) Try.prog l #[.bool x] W fun e W' =>
      (e = .returned (.bool true) ∧ J (pre ++ [x]) W' ∧ keepsAt Bs W W') ∨ (e = .returned (.bool false) ∧ Jx (pre ++ [x]) W'))
    (W : World) (hBs : W.cell? ⟨Bs, 0, none⟩ = some (.int .u8 m)) (h0 : J [] W) :
    CallsIn F n Try.prog 97 #[.func (.yield l) #[] #[], .pointer (some ⟨Bs, 0, none⟩)] W fun e W' => (∃ v, e = .returned v) ∧
      ((∃ ys, ys = upto (fun j => m.testBit j) 8 ∧ J ys W') ∨ (∃ pre, (∃ k, k ≤ 8 ∧ pre = upto (fun j => m.testBit j) k) ∧ Jx pre W')) := by
  refine callsIn_of_wp Try.func97 rfl hF ?_ hro
  simp only [Try.ntmps97, List.size_toArray, List.length_cons, List.length_nil, Nat.reduceAdd, Nat.reduceSub, Array.replicate_succ, Array.replicate_zero, List.push_toArray, List.append_toArray, List.nil_append, List.cons_append]
  gi_wp2
  gi_loopw [4] (fun i wr => ∃ k : Nat, k ≤ 8 ∧ i = .int .i64 k ∧ J (upto (fun j => m.testBit j) k) wr ∧ wr.cell? ⟨Bs, 0, none⟩ = some (.int .u8 m))
    (fun i _ => 8 - (intOf i).toNat)
  case atStart => exact ⟨0, Nat.zero_le _, rfl, h0, hBs⟩
  case round =>
    obtain ⟨k, hk, rfl, hJs, hcx⟩ := hrel
    by_cases hlt : k < 8
    · obtain ⟨fn, tmps, assign, body, hy, hR⟩ := hY _ (bits BinOp.and IntKind.u8 ((m : Int) / 2 ^ k) 1 == 1) wr hJs (by rw [upto_length]; exact hlt)
      gi_wp2
      refine hR.mono ?_
      rintro e W3 (⟨rfl, hJ3, hk3⟩ | ⟨rfl, hJx3⟩)
      · have hc3 := hk3 _ hcx
        gi_wp2
        go_roundw
        case rel => exact ⟨k + 1, by omega, by simp, by rw [upto_succ, ← shr_bit m k hm]; exact hJ3, hc3⟩
        case measure => simp [intOf]; omega
      · gi_wp2
        refine bodyPost_ret (results_none rfl _ _ _) rfl ?_
        exact ⟨⟨_, rfl⟩, .inr ⟨_, ⟨k + 1, by omega, by rw [upto_succ, ← shr_bit m k hm]⟩, hJx3⟩⟩
    · obtain rfl : k = 8 := by omega
      gi_wp2
      go_end0
      exact ⟨⟨_, rfl⟩, .inl ⟨_, rfl, hJs⟩⟩

/-- crc.bitsOf hands back a value that goes through the byte's bits, the lowest one first. -/
theorem bitsOf_stops (F : Fence) (n : Nat) (hF : F.fn 97) (hro : F.round = none) (hn : 1 ≤ n) (Bs m : Nat) (hm : m < 256) (w : World) (hBs : Bs < w.heap.size)
    (hc : w.cell? ⟨Bs, 0, none⟩ = some (.int .u8 m)) :
    SeqStopsK F n Try.prog 97 #[.pointer (some ⟨Bs, 0, none⟩)] (fun x : Bool => #[Value.bool x]) (keepsAt Bs) (fun ys => ys = upto (fun j => m.testBit j) 8) (fun _ => True) 8 w := fun l J Jx W hW _ _ hY h0 => by
  have hc' := (hW.cell (p := ⟨Bs, 0, none⟩) hBs).trans hc
  refine (bitsOf1_in F n hF hro hn l Bs m hm J Jx hY W hc' h0).mono ?_
  rintro e W' ⟨he, ⟨ys, rfl, hj⟩ | ⟨pre, _, hj⟩⟩
  · exact ⟨he, .inl ⟨_, rfl, hj⟩⟩
  · exact ⟨he, .inr ⟨_, trivial, hj⟩⟩

/-- s with the bits of a list taken. -/
def foldBits (s : Nat) (l : List Bool) : Nat := l.foldl bitN s
theorem foldBits_snoc (s : Nat) (l : List Bool) (b : Bool) : foldBits s (l ++ [b]) = bitN (foldBits s l) b := by simp [foldBits]
theorem foldBits_lt (s : Nat) (hs : s < 4294967296) (l : List Bool) : foldBits s l < 4294967296 := by
  induction l generalizing s with
  | nil => exact hs
  | cons b l ih => exact ih _ (bitN_lt s b hs)
theorem foldBits_upto (s : Nat) (f : Nat → Bool) : ∀ k, foldBits s (upto f k) = seqN s f k
  | 0 => rfl
  | k + 1 => by rw [upto_succ, foldBits_snoc, foldBits_upto s f k, seqN_succ]
theorem foldBits_byte (s m : Nat) : foldBits s (upto (fun j => m.testBit j) 8) = byteN s m := by
  rw [foldBits_upto, seqN_bits]; rfl

theorem crcBit_in (F : Fence) (n : Nat) (hF : F.fn 93) (hro : F.round = none) (s : Nat) (b : Bool) (w : World) (hs : s < 4294967296) :
    CallsIn F n Try.prog 93 #[.int .u32 s, .bool b] w fun e w' => e = .returned (.int .u32 (bitN s b : Nat)) ∧ w' = w := by
  refine callsIn_of_wp Try.func93 rfl hF ?_ hro
  simp only [Try.ntmps93, List.size_toArray, List.length_cons, List.length_nil, Nat.reduceAdd, Nat.reduceSub, Array.replicate_succ, Array.replicate_zero, List.push_toArray, List.append_toArray, List.nil_append, List.cons_append]
  gi_wp2
  · go_ret
    exact ⟨ret_int (bit_yes s b hs ‹_›), rfl⟩
  · go_ret
    exact ⟨ret_int (bit_no s b hs ‹_›), rfl⟩

set_option maxRecDepth 100000 in
set_option maxHeartbeats 2000000 in
theorem takeByte_in (F : Fence) (n : Nat) (h24 : F.fn 81) (h28 : F.fn 92) (h30 : F.fn 97) (h13 : F.fn 93) (hro : F.round = none) (hn : 4 ≤ n) (s m : Nat) (w : World) (hs : s < 4294967296) (hm : m < 256) :
    CallsIn F n Try.prog 81 #[.int .u32 s, .int .u8 m] w fun e W' => e = .returned (.int .u32 (byteN s m : Nat)) ∧ Below w.heap.size w W' := by
  have h1 : 1 ≤ n := by omega
  refine callsIn_of_wp_marks Try.func81 rfl h24 ?_ hro
  simp only [Try.ntmps81, List.size_toArray, List.length_cons, List.length_nil, Nat.reduceAdd, Nat.reduceSub, Array.replicate_succ, Array.replicate_zero, List.push_toArray, List.append_toArray, List.nil_append, List.cons_append]
  gi_wp2_with (gi_at_call 92; refine (bitsOf_in F (n - 1) h28 hro _ _).mono ?_; rintro e w' ⟨rfl, rfl⟩)
  have hs0 := cell_new_l w (.int .u32 s) 42
  have hb0 := cell_new_l (w.alloc (.cells #[.int .u32 s] 42)) (.int .u8 m) 5
  rw [World.size_alloc] at hb0
  have hB0 : Below w.heap.size w ((w.alloc (.cells #[.int .u32 s] 42)).alloc (.cells #[.int .u8 m] 5)) := ((Below.refl _ w).alloc (Nat.le_refl _) _).alloc (by simp) _
  refine wpIn_rangeFunc_ownF hro h1 (gf := 97) (lb := #[.pointer (some ⟨w.heap.size + 1, 0, none⟩)]) rfl h30 (enters_of Try.func97 (by kernel_rfl) rfl)
    (bitsOf_stops F (n - 1) h30 hro (by omega) (w.heap.size + 1) m hm _ (by simp) hb0.1) keepsAt_t keepsAt_b (Below.refl _ _) (fun _ => rfl)
    (fun pre W => (W.cell? ⟨w.heap.size, 0, none⟩ = some (.int .u32 (foldBits s pre : Nat)) ∧ W.frozen? ⟨w.heap.size, 0, none⟩ = false) ∧ Below w.heap.size w W)
    (fun _ _ _ => False)
    (OwnFrom.and (Own.from (fun s A B row hs hg hr => ⟨cell_kept hs.1 hg hr, (frozen_kept hs.1 hg hr).trans hs.2⟩) _) (ownFrom_below (Nat.le_refl _) (by simp; omega)))
    (fun _ _ _ _ _ hs _ _ => hs)
    ⟨⟨cell_alloc_l _ hs0.1, frozen_alloc_l _ hs0.1 hs0.2⟩, hB0⟩
    (fun x => { tmps := #[.int .u32 s, .int .u8 m, .pointer (some ⟨w.heap.size, 0, none⟩), undef, .int .u32 0, .bool x, .int .u8 m, .func (.func 97) #[] #[.pointer (some ⟨w.heap.size + 1, 0, none⟩)], .bool x, undef, undef, undef, undef], defers := [] }) ?assign ?body ?done ?stop
  case assign =>
    intro l x W K hK
    gi_wp2
    exact hK
  case body =>
    rintro l pre x W ⟨⟨hc, hf⟩, hB⟩ _
    have hd : 1 ≤ n - 1 - 1 := by omega
    have hl := foldBits_lt s hs pre
    gi_wp2_with (gi_at_call 93; refine (CallsIn.inRound l (crcBit_in F _ h13 hro _ _ _ hl)).mono ?_; rintro e w' ⟨rfl, rfl⟩)
    refine ⟨KeepsOthers.setCell _ _ _, ?_, ⟨by rw [foldBits_snoc]; exact World.cell?_setCell_same' _ _ _ (by rw [hc]; rfl), by rw [World.frozen?_setCell]; exact hf⟩, hB.setCell (p := ⟨w.heap.size, 0, none⟩) (Nat.le_refl _) _⟩
    intro v hv
    rw [World.cell?_setCell_other _ _ _ _ (by simp)]; exact hv
  case done =>
    rintro D ys W hD rfl ⟨⟨hc, _⟩, hB⟩ hK
    rw [foldBits_byte] at hc
    gi_wp2
    refine ⟨by simp, .inl ⟨_, _, rfl, run_takeDeferred hK, ?_⟩⟩
    exact ⟨_, results_tmp rfl _ _ _, rfl, hB.trans (belowK_b (w := w) (Nat.le_refl _) W D _ _ (by simp at hD; omega) hK rfl rfl)⟩
  case stop =>
    rintro D c pre W _ _ h _
    exact h.elim

/-- crc.takeByte: the byte is taken; nothing that was there is turned. -/
theorem takeByte_any (s m : Nat) (w : World) (hs : s < 4294967296) (hm : m < 256) :
    Calls Try.prog 81 #[.int .u32 s, .int .u8 m] w fun e W' => e = .returned (.int .u32 (byteN s m : Nat)) ∧ Below w.heap.size w W' :=
  callsIn_wide.1 (takeByte_in Fence.wide 4 trivial trivial trivial trivial rfl (by omega) s m w hs hm)
end Go.Proofs.Ytpmldopbjlnknaa
