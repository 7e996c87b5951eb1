/-
  Contracts of the functions that take bits: crc.Bit, the reference's Bit and take.
-/
import Derived.Test.YtpmldopbjlnknaaGreatKit
import Derived.Test.YtpmldopbjlnknaaGreatMaths
import Derived.WalkKit
import Derived.WalkSpells
import Derived.WalkLawsBesides
import Derived.RangeFuncFrom
import Derived.RangeFuncCalls
import Derived.RangeFuncLeaves
import Derived.RangeFuncBound
import Derived.Shelf.Abstract
import Derived.Shelf.RegionOpen
import Derived.OwnWalkIn
import Derived.TacticsInMore
import Derived.LoopNIn
import Derived.LoopIn
import Derived.Laws.Rows
import Derived.Laws.Tables
import Derived.Laws.ResultCell
import Derived.Laws.NewBlocks
import Derived.Deep.WholeRow
import Derived.Deep.LoopGhost
import Derived.WalkMore
import Derived.Lib.SlBytesConst
set_option maxHeartbeats 2000000
set_option maxRecDepth 100000
set_option linter.unusedVariables false
set_option linter.unusedSimpArgs false
namespace Go.Proofs.YtpmldopbjlnknaaGreat
open Go.RowKit
theorem low_bit (s : Nat) (hs : s < 4294967296) : (bits .and .u32 (s : Int) 1 == 1) = decide (s % 2 = 1) := by
 have h := u32_and_nat s 1 hs (by omega)
 rw [Nat.and_one_is_mod] at h
 have h' : bits .and .u32 (s : Int) 1 = ((s % 2 : Nat) : Int) := h
 rw [h', Bool.eq_iff_iff]; simp; omega
theorem low_bit8 (s : Nat) (hs : s < 256) : (bits .and .u8 (s : Int) 1 == 1) = decide (s % 2 = 1) := by
 have h := u8_and_nat s 1 hs (by omega)
 rw [Nat.and_one_is_mod] at h
 have h' : bits .and .u8 (s : Int) 1 = ((s % 2 : Nat) : Int) := h
 rw [h', Bool.eq_iff_iff]; simp; omega
theorem xor_poly (s : Nat) (hs : s < 4294967296) : bits .xor .u32 ((s : Int) / 2) 3988292384 = ((s / 2 ^^^ 3988292384 : Nat) : Int) := by
 have h := u32_xor_nat (s / 2) 3988292384 (by omega) (by omega)
 simpa using h
theorem bit_yes (s : Nat) (b : Bool) (hs : s < 4294967296) (h : (!(bits .and .u32 (s : Int) 1 == 1) == b) = true) : bits .xor .u32 ((s : Int) / 2) 3988292384 = ((bitN s b : Nat) : Int) := by
 rw [low_bit s hs] at h
 unfold bitN
 rw [if_pos (by simpa [bne] using h)]
 exact xor_poly s hs
theorem bit_no (s : Nat) (b : Bool) (hs : s < 4294967296) (h : (!(bits .and .u32 (s : Int) 1 == 1) == b) = false) : ((s : Int) / 2) = ((bitN s b : Nat) : Int) := by
 rw [low_bit s hs] at h
 unfold bitN
 rw [if_neg (by simpa [bne] using h)]
 simp
def hiN (m k : Nat) : Nat := m / 2 ^ k
theorem hiN_lt (m k : Nat) (hm : m < 256) : hiN m k < 256 := Nat.lt_of_le_of_lt (Nat.div_le_self _ _) hm
open Go.RowKit Go.Shelf
attribute [local go_sem] Oper.semAt_some
theorem shr_bit (m k : Nat) (hm : m < 256) : (bits BinOp.and IntKind.u8 ((m : Int) / 2 ^ k) 1 == 1) = m.testBit k := by
 have h : ((m : Int) / 2 ^ k) = ((hiN m k : Nat) : Int) := by unfold hiN; simp
 rw [h, low_bit8 _ (hiN_lt m k hm), Nat.testBit_eq_decide_div_mod_eq]
 rfl
theorem bitsOf_in (F : Fence) (n : Nat) (hF : F.fn 156) (hro : F.round = none) (m : Nat) (w : World) :
  CallsIn F n Tryz.prog 156 #[.int .u8 m] w fun e w' => e = .returned (.func (.func 160) #[] #[.pointer (some ⟨w.heap.size, 0, none⟩)]) ∧ w' = w.alloc (.cells #[.int .u8 m] 5) := by
 refine callsIn_of_wp Tryz.func156 rfl hF ?_ hro
 simp only [Tryz.ntmps156, List.size_toArray, List.length_cons, List.length_nil, Nat.reduceAdd, Nat.reduceSub, Array.replicate_succ, Array.replicate_zero, List.push_toArray, List.append_toArray, List.nil_append, List.cons_append]
 gi_wp2
 go_ret
 exact ⟨rfl, rfl⟩
def keepsAt (Bs : Nat) (A B : World) : Prop := ∀ v, A.cell? ⟨Bs, 0, none⟩ = some v → B.cell? ⟨Bs, 0, none⟩ = some v
theorem keepsAt_t {Bs : Nat} {A B C : World} (h : keepsAt Bs A B) (k : keepsAt Bs B C) : keepsAt Bs A C := fun v hv => k v (h v hv)
theorem keepsAt_b {Bs : Nat} {w : World} (W : World) (l : Nat) (o o' : Obj) (_ : w.heap.size ≤ l) (h : W.heap[l]? = some o) (hc : o.isCells = false) (_ : o.isWalk = false) : keepsAt Bs W (W.putObj l o') :=
 fun _ hv => cell_kept hv (grownBy_putObj' W l o') (fun _ e => by cases e; exact ⟨o, h, hc⟩)
theorem bitsOf1_in (F : Fence) (n : Nat) (hF : F.fn 160) (hro : F.round = none) (hn : 1 ≤ n) (l Bs : Nat) (m : Nat) (hm : m < 256) (J Jx : List Bool → World → Prop)
  (hY : ∀ pre x W, J pre W → pre.length < 8 → YieldAt F (n - 1) Tryz.prog l #[.bool x] W fun e W' =>
   (e = .returned (.bool true) ∧ J (pre ++ [x]) W' ∧ keepsAt Bs W W') ∨ (e = .returned (.bool false) ∧ Jx (pre ++ [x]) W'))
  (W : World) (hBs : W.cell? ⟨Bs, 0, none⟩ = some (.int .u8 m)) (h0 : J [] W) :
  CallsIn F n Tryz.prog 160 #[.func (.yield l) #[] #[], .pointer (some ⟨Bs, 0, none⟩)] W fun e W' => (∃ v, e = .returned v) ∧
   ((∃ ys, ys = upto (fun j => m.testBit j) 8 ∧ J ys W') ∨ (∃ pre, (∃ k, k ≤ 8 ∧ pre = upto (fun j => m.testBit j) k) ∧ Jx pre W')) := by
 refine callsIn_of_wp Tryz.func160 rfl hF ?_ hro
 simp only [Tryz.ntmps160, List.size_toArray, List.length_cons, List.length_nil, Nat.reduceAdd, Nat.reduceSub, Array.replicate_succ, Array.replicate_zero, List.push_toArray, List.append_toArray, List.nil_append, List.cons_append]
 gi_wp2
 gi_loopw [4] (fun i wr => ∃ k : Nat, k ≤ 8 ∧ i = .int .i64 k ∧ J (upto (fun j => m.testBit j) k) wr ∧ wr.cell? ⟨Bs, 0, none⟩ = some (.int .u8 m))
  (fun i _ => 8 - (intOf i).toNat)
 case atStart => exact ⟨0, Nat.zero_le _, rfl, h0, hBs⟩
 case round =>
  obtain ⟨k, hk, rfl, hJs, hcx⟩ := hrel
  by_cases hlt : k < 8
  ·obtain ⟨fn, tmps, assign, body, hy, hR⟩ := hY _ (bits BinOp.and IntKind.u8 ((m : Int) / 2 ^ k) 1 == 1) wr hJs (by rw [upto_length]; exact hlt)
   gi_wp2
   refine hR.mono ?_
   rintro e W3 (⟨rfl, hJ3, hk3⟩ | ⟨rfl, hJx3⟩)
   ·have hc3 := hk3 _ hcx
    gi_wp2
    go_roundw
    case rel => exact ⟨k + 1, by omega, by simp, by rw [upto_succ, ← shr_bit m k hm]; exact hJ3, hc3⟩
    case measure => simp [intOf]; omega
   ·gi_wp2
    refine bodyPost_ret (results_none rfl _ _ _) rfl ?_
    exact ⟨⟨_, rfl⟩, .inr ⟨_, ⟨k + 1, by omega, by rw [upto_succ, ← shr_bit m k hm]⟩, hJx3⟩⟩
  ·obtain rfl : k = 8 := by omega
   gi_wp2
   go_end0
   exact ⟨⟨_, rfl⟩, .inl ⟨_, rfl, hJs⟩⟩
theorem bitsOf_stops (F : Fence) (n : Nat) (hF : F.fn 160) (hro : F.round = none) (hn : 1 ≤ n) (Bs m : Nat) (hm : m < 256) (w : World) (hBs : Bs < w.heap.size)
  (hc : w.cell? ⟨Bs, 0, none⟩ = some (.int .u8 m)) :
  SeqStopsK F n Tryz.prog 160 #[.pointer (some ⟨Bs, 0, none⟩)] (fun x : Bool => #[Value.bool x]) (keepsAt Bs) (fun ys => ys = upto (fun j => m.testBit j) 8) (fun _ => True) 8 w := fun l J Jx W hW _ _ hY h0 => by
 have hc' := (hW.cell (p := ⟨Bs, 0, none⟩) hBs).trans hc
 refine (bitsOf1_in F n hF hro hn l Bs m hm J Jx hY W hc' h0).mono ?_
 rintro e W' ⟨he, ⟨ys, rfl, hj⟩ | ⟨pre, _, hj⟩⟩
 ·exact ⟨he, .inl ⟨_, rfl, hj⟩⟩
 ·exact ⟨he, .inr ⟨_, trivial, hj⟩⟩
def foldBits (s : Nat) (l : List Bool) : Nat := l.foldl bitN s
theorem foldBits_snoc (s : Nat) (l : List Bool) (b : Bool) : foldBits s (l ++ [b]) = bitN (foldBits s l) b := by simp [foldBits]
theorem foldBits_lt (s : Nat) (hs : s < 4294967296) (l : List Bool) : foldBits s l < 4294967296 := by
 induction l generalizing s with
 | nil => exact hs
 | cons b l ih => exact ih _ (bitN_lt s b hs)
theorem foldBits_upto (s : Nat) (f : Nat → Bool) : ∀ k, foldBits s (upto f k) = seqN s f k
 | 0 => rfl
 | k + 1 => by rw [upto_succ, foldBits_snoc, foldBits_upto s f k, seqN_succ]
theorem foldBits_byte (s m : Nat) : foldBits s (upto (fun j => m.testBit j) 8) = byteN s m := by
 rw [foldBits_upto, seqN_bits]; rfl
theorem crcBit_in (F : Fence) (n : Nat) (hF : F.fn 157) (hro : F.round = none) (s : Nat) (b : Bool) (w : World) (hs : s < 4294967296) :
  CallsIn F n Tryz.prog 157 #[.int .u32 s, .bool b] w fun e w' => e = .returned (.int .u32 (bitN s b : Nat)) ∧ w' = w := by
 refine callsIn_of_wp Tryz.func157 rfl hF ?_ hro
 simp only [Tryz.ntmps157, List.size_toArray, List.length_cons, List.length_nil, Nat.reduceAdd, Nat.reduceSub, Array.replicate_succ, Array.replicate_zero, List.push_toArray, List.append_toArray, List.nil_append, List.cons_append]
 gi_wp2
 ·go_ret
  exact ⟨ret_int (bit_yes s b hs ‹_›), rfl⟩
 ·go_ret
  exact ⟨ret_int (bit_no s b hs ‹_›), rfl⟩
theorem takeByte_in (F : Fence) (n : Nat) (h24 : F.fn 141) (h28 : F.fn 156) (h30 : F.fn 160) (h13 : F.fn 157) (hro : F.round = none) (hn : 4 ≤ n) (s m : Nat) (w : World) (hs : s < 4294967296) (hm : m < 256) :
  CallsIn F n Tryz.prog 141 #[.int .u32 s, .int .u8 m] w fun e W' => e = .returned (.int .u32 (byteN s m : Nat)) ∧ Below w.heap.size w W' := by
 have h1 : 1 ≤ n := by omega
 refine callsIn_of_wp_marks Tryz.func141 rfl h24 ?_ hro
 simp only [Tryz.ntmps141, List.size_toArray, List.length_cons, List.length_nil, Nat.reduceAdd, Nat.reduceSub, Array.replicate_succ, Array.replicate_zero, List.push_toArray, List.append_toArray, List.nil_append, List.cons_append]
 gi_wp2_with (gi_at_call 156; refine (bitsOf_in F (n - 1) h28 hro _ _).mono ?_; rintro e w' ⟨rfl, rfl⟩)
 have hs0 := cell_new_l w (.int .u32 s) 45
 have hb0 := cell_new_l (w.alloc (.cells #[.int .u32 s] 45)) (.int .u8 m) 5
 rw [World.size_alloc] at hb0
 have hB0 : Below w.heap.size w ((w.alloc (.cells #[.int .u32 s] 45)).alloc (.cells #[.int .u8 m] 5)) := ((Below.refl _ w).alloc (Nat.le_refl _) _).alloc (by simp) _
 refine wpIn_rangeFunc_ownF hro h1 (gf := 160) (lb := #[.pointer (some ⟨w.heap.size + 1, 0, none⟩)]) rfl h30 (enters_of Tryz.func160 (by kernel_rfl) rfl)
  (bitsOf_stops F (n - 1) h30 hro (by omega) (w.heap.size + 1) m hm _ (by simp) hb0.1) keepsAt_t keepsAt_b (Below.refl _ _) (fun _ => rfl)
  (fun pre W => (W.cell? ⟨w.heap.size, 0, none⟩ = some (.int .u32 (foldBits s pre : Nat)) ∧ W.frozen? ⟨w.heap.size, 0, none⟩ = false) ∧ Below w.heap.size w W)
  (fun _ _ _ => False)
  (OwnFrom.and (Own.from (fun s A B row hs hg hr => ⟨cell_kept hs.1 hg hr, (frozen_kept hs.1 hg hr).trans hs.2⟩) _) (ownFrom_below (Nat.le_refl _) (by simp; omega)))
  (fun _ _ _ _ _ hs _ _ => hs)
  ⟨⟨cell_alloc_l _ hs0.1, frozen_alloc_l _ hs0.1 hs0.2⟩, hB0⟩
  (fun x => { tmps := #[.int .u32 s, .int .u8 m, .pointer (some ⟨w.heap.size, 0, none⟩), undef, .int .u32 0, .bool x, .int .u8 m, .func (.func 160) #[] #[.pointer (some ⟨w.heap.size + 1, 0, none⟩)], .bool x, undef, undef, undef, undef], defers := [] }) ?assign ?body ?done ?stop
 case assign =>
  intro l x W K hK
  gi_wp2
  exact hK
 case body =>
  rintro l pre x W ⟨⟨hc, hf⟩, hB⟩ _
  have hd : 1 ≤ n - 1 - 1 := by omega
  have hl := foldBits_lt s hs pre
  gi_wp2_with (gi_at_call 157; refine (CallsIn.inRound l (crcBit_in F _ h13 hro _ _ _ hl)).mono ?_; rintro e w' ⟨rfl, rfl⟩)
  refine ⟨KeepsOthers.setCell _ _ _, ?_, ⟨by rw [foldBits_snoc]; exact World.cell?_setCell_same' _ _ _ (by rw [hc]; rfl), by rw [World.frozen?_setCell]; exact hf⟩, hB.setCell (p := ⟨w.heap.size, 0, none⟩) (Nat.le_refl _) _⟩
  intro v hv
  rw [World.cell?_setCell_other _ _ _ _ (by simp)]; exact hv
 case done =>
  rintro D ys W hD rfl ⟨⟨hc, _⟩, hB⟩ hK
  rw [foldBits_byte] at hc
  gi_wp2
  refine ⟨by simp, .inl ⟨_, _, rfl, run_takeDeferred hK, ?_⟩⟩
  exact ⟨_, results_tmp rfl _ _ _, rfl, hB.trans (belowK_b (w := w) (Nat.le_refl _) W D _ _ (by simp at hD; omega) hK rfl rfl)⟩
 case stop =>
  rintro D c pre W _ _ h _
  exact h.elim
theorem takeByte_any (s m : Nat) (w : World) (hs : s < 4294967296) (hm : m < 256) :
  Calls Tryz.prog 141 #[.int .u32 s, .int .u8 m] w fun e W' => e = .returned (.int .u32 (byteN s m : Nat)) ∧ Below w.heap.size w W' :=
 callsIn_wide.1 (takeByte_in Fence.wide 4 trivial trivial trivial trivial rfl (by omega) s m w hs hm)
end Go.Proofs.YtpmldopbjlnknaaGreat
/-
  Tables: crc.Table, the reference's Table, crc.orTable.
-/
namespace Go.Proofs.YtpmldopbjlnknaaGreat
open Go.RowKit
def tabArr (k : Nat) : Array Value := Array.ofFn (n := 256) fun i => .int .u32 ((if i.val < k then byteN 0 i.val else 0 : Nat) : Int)
theorem tabArr_size (k : Nat) : (tabArr k).size = 256 := by simp [tabArr]
theorem tabArr_get (k i : Nat) (hi : i < 256) : (tabArr k)[i]? = some (.int .u32 ((if i < k then byteN 0 i else 0 : Nat) : Int)) := by
 simp [tabArr, hi]
theorem tabArr_set (k : Nat) : (tabArr k).setIfInBounds k (.int .u32 (byteN 0 k : Nat)) = tabArr (k + 1) := by
 apply Array.ext_getElem?
 intro i
 by_cases hi : i < 256
 ·rw [Array.getElem?_setIfInBounds, tabArr_get _ _ hi, tabArr_get _ _ hi]
  by_cases e : k = i
  ·subst e
   simp [tabArr_size, hi]
  ·have h1 : (i < k + 1) ↔ (i < k) := by omega
   simp [e, h1]
 ·rw [Array.getElem?_eq_none (by simp [tabArr_size]; omega), Array.getElem?_eq_none (by simp [tabArr_size]; omega)]
theorem tabArr_one (k : Nat) : (tabArr k).all (·.oneCell') = true := by
 rw [Array.all_eq_true_iff_forall_mem]
 intro v hv
 simp only [tabArr, Array.mem_ofFn] at hv
 obtain ⟨i, rfl⟩ := hv
 rfl
theorem zero33' (w : World) : (zeroValue 262).run Tryz.prog w = .ok (.agg (Array.replicate 256 (.int .u32 0))) w := by kernel_rfl
theorem zero33 (w : World) : (zeroValue 262).run Tryz.prog w = .ok (.agg (tabArr 0)) w := by
 have h : tabArr 0 = Array.replicate 256 (.int .u32 0) := by
  apply Array.ext_getElem?
  intro i
  by_cases hi : i < 256
  ·rw [tabArr_get _ _ hi]; simp [hi]
  ·rw [Array.getElem?_eq_none (by simp [tabArr_size]; omega), Array.getElem?_eq_none (by simp; omega)]
 rw [h]
 exact zero33' w
theorem size33 (k : Nat) : (Tryz.prog.info? 262).map (·.size) = some (tabArr k).size := by
 rw [tabArr_size]; kernel_rfl
theorem tab_cell {w : World} {b k : Nat} (h : w.heap[b]? = some (.cells (tabArr k) 262 (0, 0))) {i : Nat} (hi : i < 256) : w.cell? ⟨b, i, none⟩ = some (.int .u32 ((if i < k then byteN 0 i else 0 : Nat) : Int)) := by
 rw [cell_of_row w b i _ _ _ h, tabArr_get _ _ hi]
theorem below_setRow {B : Nat} {a w : World} (h : Below B a w) {g : Nat} (hg : B ≤ g) (cs : Array Value) : Below B a (w.setRow g cs) :=
 ⟨h.os, h.tape, h.output, by simp; exact h.size, fun k hk => by
  rw [World.setRow, Array.getElem?_modify, if_neg (by omega)]
  exact h.block k hk⟩
theorem table_any (w : World) :
  Calls Tryz.prog 155 #[] w fun e w' => e = .returned (.agg (tabArr 256)) ∧ Below w.heap.size w w' := by
 have hz := zero33
 go_enter Tryz.func155, Tryz.ntmps155
 go_wp2
 clear hz
 go_loopw [2] (fun i wr => ∃ k : Nat, k ≤ 256 ∧ i = .int .i64 k ∧ wr.heap[w.heap.size]? = some (.cells (tabArr k) 262 (0, 0)) ∧ Below w.heap.size w wr) (fun i _ => 256 - (intOf i).toNat)
 case atStart => exact ⟨0, by omega, rfl, heap_alloc_last _ _, (Below.refl _ _).alloc (Nat.le_refl _) _⟩
 case round =>
  obtain ⟨k, hk, rfl, hT, hB⟩ := hrel
  by_cases hlt : k < 256
  ·go_wp2_with fail
   refine (takeByte_any 0 k wr (by omega) hlt).mono ?_
   rintro e w1 ⟨rfl, hb1⟩
   have hT1 : w1.heap[w.heap.size]? = some (.cells (tabArr k) 262 (0, 0)) := (hb1.block _ (block_lt hT)).trans hT
   have hc1 := tab_cell hT1 hlt
   have hf1 := frozen_of_row w1 w.heap.size k _ _ hT1
   go_wp2
   go_roundw
   case rel => exact ⟨k + 1, by omega, by go_num, by rw [← tabArr_set]; exact heap_setCell_same w1 _ k _ _ _ hT1, (hB.trans (hb1.mono (by have := block_lt hT; omega))).setCell (p := ⟨w.heap.size, k, none⟩) (Nat.le_refl _) _⟩
   case measure => simp [intOf]; omega
  ·obtain rfl : k = 256 := by omega
   have hS : (wr.setRow w.heap.size (tabArr 256)).heap[w.heap.size]? = some (.cells (tabArr 256) 262 (0, 0)) := setRow_heap _ _ _ _ _ _ hT
   have hB2 : Below w.heap.size w (wr.setRow w.heap.size (tabArr 256)) := below_setRow hB (Nat.le_refl _) _
   go_wp2_with (first | (refine wpList_load_row rfl 262 _ rfl w.heap.size rfl 262 (tabArr 256) (0, 0) _ hT Tryz.underlying262 rfl (size33 256) ?_) | (refine wpList_store_row rfl 262 _ _ rfl w.heap.size (tabArr 256) rfl rfl 262 (tabArr 256) hT (size33 256) rfl (tabArr_one 256) ?_))
   refine bodyPost_ret_by (results_cell_row rfl _ _ w.heap.size 262 (tabArr 256) (0, 0) _ rfl hS Tryz.underlying262 rfl (size33 256)) rfl ⟨rfl, hB2⟩
theorem orTable_nil (w : World) :
  Calls Tryz.prog 139 #[.pointer none] w fun e w' => ∃ b, e = .returned (.pointer (some ⟨b, 0, none⟩)) ∧ w.heap.size ≤ b ∧ w'.heap[b]? = some (.cells (tabArr 256) 262 (0, 0)) ∧ Below w.heap.size w w' := by
 go_enter Tryz.func139, Tryz.ntmps139
 go_wp2_with fail
 refine (table_any w).mono ?_
 rintro e w1 ⟨rfl, hb⟩
 have hz := zero33
 have hT : (w1.alloc (.cells (tabArr 0) 262)).heap[w1.heap.size]? = some (.cells (tabArr 0) 262 (0, 0)) := heap_alloc_last _ _
 go_wp2_with (refine wpList_store_row rfl 262 _ _ rfl w1.heap.size (tabArr 256) rfl rfl 262 (tabArr 0) hT (size33 256) (by simp [tabArr_size]) (tabArr_one 256) ?_)
 clear hz
 go_ret
 exact ⟨w1.heap.size, rfl, hb.size, setRow_heap _ _ _ _ _ _ hT, below_setRow (hb.alloc hb.size _) hb.size _⟩
theorem orTable_some (b : Nat) (w : World) :
  Calls Tryz.prog 139 #[.pointer (some ⟨b, 0, none⟩)] w fun e w' => e = .returned (.pointer (some ⟨b, 0, none⟩)) ∧ w = w' := by
 go_enter Tryz.func139, Tryz.ntmps139
 go_wp2
 go_ret
 exact ⟨rfl, rfl⟩
open Go.RowKit
theorem not_u32 (s : Nat) (hs : s < 4294967296) : bits BinOp.xor IntKind.u32 IntKind.u32.max (s : Int) = ((notN s : Nat) : Int) := by
 have h := u32_xor_nat 4294967295 s (by omega) hs
 have e : 4294967295 ^^^ s = notN s := by
  have h1 := (BitVec.ofNat 32 s).toNat_not
  have h2 : (4294967295 : Nat) ^^^ s = (BitVec.allOnes 32 ^^^ BitVec.ofNat 32 s).toNat := by
   rw [BitVec.toNat_xor]; simp [Nat.mod_eq_of_lt hs]
  rw [h2, BitVec.allOnes_xor, h1]
  simp [notN, Nat.mod_eq_of_lt hs]
 rw [e] at h
 exact h
theorem takeRow_any (tb : Nat) (s : Nat) (a : Option Addr) (len cap : Nat) (z : Nat → Nat) (w : World) (hs : s < 4294967296) (hl : len ≤ 9223372036854775807) (hT : w.heap[tb]? = some (.cells (tabArr 256) 262 (0, 0))) (hz : Byt w a len z) :
  Calls Tryz.prog 140 #[.pointer (some ⟨tb, 0, none⟩), .int .u32 s, .slice a len cap] w fun e w' => e = .returned (.int .u32 (updN s z len : Nat)) ∧ w = w' := by
 go_enter Tryz.func140, Tryz.ntmps140
 go_wp2
 go_loop [1, 11] (fun x i => ∃ k : Nat, k ≤ len ∧ i = .int .i64 k ∧ x = .int .u32 (updN s z k : Nat)) (fun _ i => len - (intOf i).toNat)
 case atStart => exact ⟨0, by omega, rfl, rfl⟩
 case round =>
  obtain ⟨k, hk, rfl, rfl⟩ := hrel
  obtain ⟨hz1, hz2⟩ := hz
  have hx := updN_lt s z hs k
  by_cases hlt : k < len
  ·obtain ⟨b, off, rfl, hc⟩ : ∃ b off, a = some ⟨b, off, none⟩ ∧ ∀ i, i < len → w.cell? ⟨b, off + i, none⟩ = some (.int .u8 (z i : Nat)) := by
    rcases hz2 with h | h
    ·omega
    ·exact h
   have hck := hc k hlt
   have hzk := hz1 k
   obtain ⟨X, hX, hX256, hXs⟩ : ∃ X : Nat, bits BinOp.xor IntKind.u8 ((updN s z k : Int) % 256) (z k : Int) = (X : Int) ∧ X < 256 ∧ bits BinOp.xor IntKind.u32 ((byteN 0 X : Nat) : Int) ((updN s z k : Int) / 256) = ((updN s z (k + 1) : Nat) : Int) :=
    ⟨updN s z k % 256 ^^^ z k, by have h := u8_xor_nat (updN s z k % 256) (z k) (by omega) hzk; simpa using h, Nat.xor_lt_two_pow (n := 8) (by omega) (by omega), by
     have h := u32_xor_nat (byteN 0 (updN s z k % 256 ^^^ z k)) (updN s z k / 256) (byteN_lt _ _ (by omega)) (by omega)
     rw [table_step _ _ hzk, ← updN_succ] at h
     simpa using h⟩
   have hTc := tab_cell hT hX256
   rw [if_pos hX256] at hTc
   clear hc hz1 hT
   go_wp2
   go_round
   case rel => exact ⟨k + 1, by omega, by go_num, rfl⟩
   case measure => simp [intOf]; omega
  ·obtain rfl : k = len := by omega
   clear hz1 hz2
   go_wp2
   go_ret
   exact ⟨rfl, rfl⟩
open Go.RowKit
def Parts (w : World) (a : Option Addr) (n : Nat) (p : Nat → Option Addr) (l c : Nat → Nat) (z : Nat → Nat → Nat) : Prop :=
 n = 0 ∨ ∃ b off, a = some ⟨b, off, none⟩ ∧ ∀ j, j < n → w.cell? ⟨b, off + j, none⟩ = some (.slice (p j) (l j) (c j)) ∧ l j ≤ c j ∧ c j ≤ 9223372036854775807 ∧ Byt w (p j) (l j) (z j)
theorem Parts.below {w w' : World} {a : Option Addr} {n : Nat} {p : Nat → Option Addr} {l c : Nat → Nat} {z : Nat → Nat → Nat} (h : Parts w a n p l c z) (hb : Below w.heap.size w w') : Parts w' a n p l c z := by
 rcases h with h | ⟨b, off, rfl, hc⟩
 ·exact .inl h
 ·exact .inr ⟨b, off, rfl, fun j hj => ⟨(hb.cell (p := ⟨b, off + j, none⟩) (block_lt_of_cell (hc j hj).1)).trans (hc j hj).1, (hc j hj).2.1, (hc j hj).2.2.1, (hc j hj).2.2.2.below hb⟩⟩
def allN (s : Nat) (l : Nat → Nat) (z : Nat → Nat → Nat) : Nat → Nat
 | 0 => s
 | n + 1 => updN (allN s l z n) (z n) (l n)
theorem allN_lt (s : Nat) (l : Nat → Nat) (z : Nat → Nat → Nat) (h : s < 4294967296) : ∀ n, allN s l z n < 4294967296
 | 0 => h
 | n + 1 => updN_lt _ _ (allN_lt s l z h n) _
def TabAt (B : Nat) (w : World) (t : Value) : Prop :=
 t = .pointer none ∨ ∃ b, t = .pointer (some ⟨b, 0, none⟩) ∧ B ≤ b ∧ w.heap[b]? = some (.cells (tabArr 256) 262 (0, 0))
theorem TabAt.below {B : Nat} {w w' : World} {t : Value} (h : TabAt B w t) (hb : Below w.heap.size w w') : TabAt B w' t := by
 rcases h with h | ⟨b, rfl, h1, h2⟩
 ·exact .inl h
 ·exact .inr ⟨b, rfl, h1, (hb.block b (block_lt h2)).trans h2⟩
theorem orTable_any (B : Nat) (t : Value) (w : World) (hB : B ≤ w.heap.size) (h : TabAt B w t) :
  Calls Tryz.prog 139 #[t] w fun e w' => ∃ b, e = .returned (.pointer (some ⟨b, 0, none⟩)) ∧ B ≤ b ∧ w'.heap[b]? = some (.cells (tabArr 256) 262 (0, 0)) ∧ Below w.heap.size w w' := by
 rcases h with rfl | ⟨b, rfl, h1, h2⟩
 ·exact (orTable_nil w).mono fun e w' ⟨b, he, hb, h, hw⟩ => ⟨b, he, Nat.le_trans hB hb, h, hw⟩
 ·exact (orTable_some b w).mono fun e w' ⟨he, hw⟩ => ⟨b, he, h1, by rw [← hw]; exact h2, by rw [← hw]; exact Below.refl _ _⟩
theorem take_any (s : Nat) (a : Option Addr) (n cap : Nat) (p : Nat → Option Addr) (l c : Nat → Nat) (z : Nat → Nat → Nat) (w : World) (hs : s < 4294967296) (hn : n ≤ 9223372036854775807) (hP : Parts w a n p l c z) :
  Calls Tryz.prog 106 #[.int .u32 s, .slice a n cap] w fun e w' => e = .returned (.int .u32 (allN s l z n : Nat)) ∧ Below w.heap.size w w' := by
 go_enter Tryz.func106, Tryz.ntmps106
 go_wp2
 go_step3
 go_wp2
 go_step3
 go_wp2
 go_loopg [0, 5, 6, 13] n (fun g s0 s5 s6 s13 wx => ∃ (j L : Nat), j + g = n ∧ s13 = .int .i64 j ∧ s0 = .int .u32 (allN s l z j : Nat) ∧ L ≤ 256 ∧ s6 = .int .i64 L ∧ TabAt w.heap.size wx s5 ∧ Below w.heap.size w wx)
 case atStart => exact ⟨0, 256, by omega, rfl, rfl, by omega, rfl, .inl rfl, Below.refl _ _⟩
 case round =>
  obtain ⟨j, L, hjg, rfl, rfl, hL, rfl, hT, hB⟩ := hrel
  cases gk with
  | zero =>
    have hjz : ¬ ((j : Int) < (n : Int)) := by omega
    obtain rfl : j = n := by omega
    go_wp2
    try rw [Exit.noGoto_ret]
    go_ret
    exact ⟨rfl, hB⟩
  | succ g =>
    have hjz : (j : Int) < (n : Int) := by omega
    obtain ⟨b, off, rfl, hc⟩ : ∃ b off, a = some ⟨b, off, none⟩ ∧ ∀ j, j < n → w.cell? ⟨b, off + j, none⟩ = some (.slice (p j) (l j) (c j)) ∧ l j ≤ c j ∧ c j ≤ 9223372036854775807 ∧ Byt w (p j) (l j) (z j) := by
     rcases hP with h | h
     ·omega
     ·exact h
    obtain ⟨hcell, hlc, hcm, hb8⟩ := hc j (by omega)
    have hcell' := (hB.cell (p := ⟨b, off + j, none⟩) (block_lt_of_cell hcell)).trans hcell
    have HE : Hid (allN s l z (j + 1) = updN (allN s l z j) (z j) (l j)) := rfl
    have hA := allN_lt s l z hs j
    clear hc hcell hP
    generalize allN s l z j = A at hA HE ⊢
    generalize p j = pj at hcell' hb8
    generalize l j = lj at hcell' hb8 hlc HE
    generalize c j = cj at hcell' hcm hlc
    generalize z j = zj at hb8 HE
    go_wp2
    obtain ⟨wo, rfl⟩ : ∃ wo : World, wo = wr := ⟨_, rfl⟩
    go_loopg [0, 5, 6, 19] lj (fun g2 s0 s5 s6 s19 wy => ∃ (i L : Nat), i + g2 = lj ∧ s19 = .int .i64 i ∧ s0 = .int .u32 (updN A zj i : Nat) ∧ L ≤ 256 ∧ s6 = .int .i64 L ∧ TabAt w.heap.size wy s5 ∧ Below w.heap.size w wy)
    case atStart => exact ⟨0, L, by omega, rfl, rfl, hL, rfl, hT, hB⟩
    case round =>
     clear hL hT hB hcell' hjz
     obtain ⟨i, L, hig, rfl, rfl, hL, rfl, hT, hB⟩ := hrel
     cases gk with
     | zero =>
       have hiz : ¬ ((i : Int) < (lj : Int)) := by omega
       obtain rfl : i = lj := by omega
       go_wp2
       go_roundg g
       case measure => omega
       case rel => exact ⟨j + 1, L, by omega, by go_num, by rw [HE.out], hL, rfl, hT, hB⟩
     | succ g2 =>
       have hiz : (i : Int) < (lj : Int) := by omega
       have hx := updN_lt A zj hA i
       obtain ⟨hz1, hz2⟩ := hb8
       obtain ⟨b2, off2, rfl, hc2⟩ : ∃ b off, pj = some ⟨b, off, none⟩ ∧ ∀ i, i < lj → w.cell? ⟨b, off + i, none⟩ = some (.int .u8 (zj i : Nat)) := by
        rcases hz2 with h | h
        ·omega
        ·exact h
       have hcell := (hB.cell (p := ⟨b2, off2 + i, none⟩) (block_lt_of_cell (hc2 i (by omega)))).trans (hc2 i (by omega))
       have hzi := hz1 i
       by_cases hL0 : L = 0
       ·-- the table
        subst hL0
        have hD := Byt.drop hz1 hc2 i
        have HE2 : Hid (updN (updN A zj i) (fun k => zj (i + k)) (lj - i) = updN A zj lj) := by
         have h := updN_add A zj i (lj - i)
         rw [← h]
         congr 1; omega
        clear hc2 hz1
        have hor := orTable_any w.heap.size _ wr hB.size hT
        clear hT
        go_wp2_with fail
        refine hor.mono ?_
        rintro e w1 ⟨tb, rfl, htb, hTb, hb1⟩
        have hB1 := hB.trans (hb1.mono hB.size)
        have hD1 := hD.below hB1
        have hrow := takeRow_any tb (updN A zj i) _ (lj - i) (cj - i) _ w1 hx (by omega) hTb hD1
        go_wp2_with fail
        refine hrow.mono ?_
        rintro e w2 ⟨rfl, rfl⟩
        go_wp2
        go_roundg g
        case measure => omega
        case rel => exact ⟨j + 1, 0, by omega, by go_num, by rw [HE.out, HE2.out], by omega, rfl, .inr ⟨tb, rfl, htb, hTb⟩, hB1⟩
       ·clear hc2 hz1
        have hLz : ((L : Int) == 0) = false := by simp; omega
        go_wp2_with fail
        refine (takeByte_any _ _ wr hx hzi).mono ?_
        rintro e w1 ⟨rfl, hb1⟩
        go_wp2
        go_roundg g2
        case measure => omega
        case rel => exact ⟨i + 1, L - 1, by omega, by go_num, rfl, by omega, by go_num, hT.below hb1, hB.trans (hb1.mono hB.size)⟩
open Go.RowKit
def sumAll (l : Nat → Nat) (z : Nat → Nat → Nat) (n : Nat) : Nat := notN (allN (notN 0) l z n)
theorem parts_one {w : World} {b : Nat} {a : Option Addr} {len cap : Nat} {z : Nat → Nat} (hl : len ≤ cap) (hm : cap ≤ 9223372036854775807) (hc : w.cell? ⟨b, 0, none⟩ = some (.slice a len cap)) (hz : Byt w a len z) :
  Parts w (some ⟨b, 0, none⟩) 1 (fun _ => a) (fun _ => len) (fun _ => cap) (fun _ => z) :=
 .inr ⟨b, 0, rfl, fun j hj => by
  obtain rfl : j = 0 := by omega
  exact ⟨hc, hl, hm, hz⟩⟩
theorem sum_any (a : Option Addr) (n cap : Nat) (p : Nat → Option Addr) (l c : Nat → Nat) (z : Nat → Nat → Nat) (w : World) (hn : n ≤ 9223372036854775807) (hP : Parts w a n p l c z) :
  Calls Tryz.prog 55 #[.slice a n cap] w fun e w' => e = .returned (.int .u32 (sumAll l z n : Nat)) ∧ Below w.heap.size w w' := by
 have hA := allN_lt (notN 0) l z (notN_lt _) n
 have hN := not_u32 _ hA
 go_enter Tryz.func55, Tryz.ntmps55
 go_wp2_with fail
 refine (take_any (notN 0) a n cap p l c z w (notN_lt _) hn hP).mono ?_
 rintro e w1 ⟨rfl, hb⟩
 go_wp2
 go_ret
 exact ⟨rfl, hb⟩
theorem sum_one (b : Nat) (a : Option Addr) (len cap : Nat) (z : Nat → Nat) (w : World) (hl : len ≤ cap) (hm : cap ≤ 9223372036854775807) (hc : w.cell? ⟨b, 0, none⟩ = some (.slice a len cap)) (hz : Byt w a len z) :
  Calls Tryz.prog 55 #[.slice (some ⟨b, 0, none⟩) 1 1] w fun e w' => e = .returned (.int .u32 (sumN z len : Nat)) ∧ Below w.heap.size w w' :=
 sum_any _ 1 1 (fun _ => a) (fun _ => len) (fun _ => cap) (fun _ => z) w (by omega) (parts_one hl hm hc hz)
end Go.Proofs.YtpmldopbjlnknaaGreat
