/-
  The range-function of package set: a set's bytes, rising (bytesOf).
-/
import Derived.Test.YtmnjicpgdhnimaaDoorSLow
import Derived.Test.YtmnjicpgdhnimaaDoorSBl
import Derived.Test.YtmnjicpgdhnimaaDoorSEq
import Derived.Test.YtmnjicpgdhnimaaDoorSOfP
import Derived.Test.YtmnjicpgdhnimaaDoorRangeN
import Derived.Test.YtmnjicpgdhnimaaDoorScopeIn
import Derived.Sort.LoopGhostIn
import Derived.RangeFuncBound
import Derived.RangeFuncLeaves
import Derived.RangeFuncCalls
import Derived.Shelf.Abstract
import Derived.Shelf.RegionOpen
import Derived.WalkKit
import Derived.OwnWalkIn
import Derived.TacticsInMore
import Derived.LoopNIn
import Derived.LoopIn
namespace Go.Proofs.YtmnjicpgdhnimaaDoor
open Go.RowKit Go.Shelf

attribute [local go_sem] Oper.semAt_some

def encB (x : Nat) : Array Value := #[.int .u8 (x : Int)]
/-- The bytes from k on of a set. -/
def rest (H : Nat → Bool) (k c : Nat) : Bool := decide (k ≤ c) && H c
/-- The first of the bytes from k on, if there is one. -/
theorem first (H : Nat → Bool) : ∀ (q k : Nat), k + q = 256 → (∀ c, k ≤ c → c < 256 → H c = false) ∨ ∃ x, k ≤ x ∧ x < 256 ∧ H x = true ∧ ∀ c, k ≤ c → c < x → H c = false
  | 0, k, h => .inl fun c h1 h2 => by omega
  | q + 1, k, h => by
    cases hk : H k with
    | true => exact .inr ⟨k, Nat.le_refl _, by omega, hk, fun c h1 h2 => by omega⟩
    | false =>
      rcases first H q (k + 1) (by omega) with h1 | ⟨x, h1, h2, h3, h4⟩
      · exact .inl fun c h5 h6 => if e : c = k then e ▸ hk else h1 c (by omega) h6
      · exact .inr ⟨x, by omega, h2, h3, fun c h5 h6 => if e : c = k then e ▸ hk else h4 c (by omega) h6⟩

set_option maxHeartbeats 1000000 in
theorem bytesOf_in (F : Fence) (n : Nat) (hF : F.fn 28) (hro : F.round = none) (H : Nat → Bool) (w : World) :
    CallsIn F n Tryd.prog 28 #[sv H] w fun e w' => e = .returned (.func (.func 43) #[] #[.pointer (some ⟨w.heap.size, 0, none⟩)]) ∧ w' = w.alloc (.cells (st H) 24) := by
  unfold sv
  refine callsIn_of_wp Tryd.func28 rfl hF ?_ hro
  simp only [Tryd.ntmps28, List.size_toArray, List.length_cons, List.length_nil, Nat.reduceAdd, Nat.reduceSub, Array.replicate_succ, Array.replicate_zero, List.push_toArray, List.append_toArray, List.nil_append, List.cons_append]
  gi_wp2
  go_ret
  exact ⟨rfl, rfl⟩

/-- All lies as it lay but sets behind N. -/
structure KeptS (N : Nat) (A B : World) : Prop where
  os : B.os = A.os
  tape : B.tape = A.tape
  output : B.output = A.output
  size : A.heap.size ≤ B.heap.size
  same : ∀ (k : Nat) (o : Obj), A.heap[k]? = some o → (k < N ∨ ∀ c f, o ≠ .cells c 24 f) → B.heap[k]? = some o
theorem KeptS.refl (N : Nat) (A : World) : KeptS N A A := ⟨rfl, rfl, rfl, Nat.le_refl _, fun _ _ h _ => h⟩
theorem KeptS.trans {N : Nat} {A B C : World} (h : KeptS N A B) (k : KeptS N B C) : KeptS N A C :=
  ⟨k.os.trans h.os, k.tape.trans h.tape, k.output.trans h.output, Nat.le_trans h.size k.size, fun i o hi ho => k.same i o (h.same i o hi ho) ho⟩
theorem KeptS.of_below {N : Nat} {A B : World} (h : Below A.heap.size A B) : KeptS N A B :=
  ⟨h.os, h.tape, h.output, h.size, fun k _ hk _ => (h.block k (block_lt hk)).trans hk⟩
theorem KeptS.alloc {N : Nat} {A B : World} (h : KeptS N A B) (o : Obj) : KeptS N A (B.alloc o) := h.trans (.of_below ((Below.refl _ _).alloc (Nat.le_refl _) o))
theorem KeptS.setCell {N : Nat} {A B : World} (h : KeptS N A B) {p i : Nat} {H : Nat → Bool} (hp : N ≤ p) (hs : SBox B p H) (v : Value) : KeptS N A (B.setCell ⟨p, i, none⟩ v) :=
  h.trans ⟨rfl, rfl, rfl, by simp, fun k o hk ho => (Below.heap_setCell B ⟨p, i, none⟩ v k (fun e => by
    have e' : k = p := e
    subst e'
    rcases ho with h1 | h1
    · omega
    · rw [hs] at hk; cases hk; exact h1 _ _ rfl)).trans hk⟩
theorem KeptS.to {N : Nat} {A B : World} (h : KeptS N A B) : KeepsTo N A B := ⟨h.size, fun k o hk ho _ => h.same k o ho (.inl hk)⟩
theorem KeptO.sbox {O : Nat → Prop} {A B : World} (h : KeptO O A B) {p : Nat} {H : Nat → Bool} (hp : ¬ O p) (hs : SBox A p H) : SBox B p H := h.cells _ _ _ _ hp hs
theorem KeptO.tab {O : Nat → Prop} {A B : World} (h : KeptO O A B) (hp : ¬ O 0) (hs : Tab A) : Tab B := fun j hj => h.cell (p := ⟨0, j, none⟩) hp (hs j hj)
theorem KeptS.tab {N : Nat} {A B : World} (h : KeptS N A B) (hN : 0 < N) (hs : Tab A) : Tab B := fun j hj => by
  obtain ⟨o, ho, _⟩ := cells_of_cell (hs j hj)
  exact (World.cell?_of_block (w := A) ((h.same 0 o ho (.inl hN)).trans ho.symm)).trans (hs j hj)

/-- What is known at a round of bytesOf, at its ends. -/
def GB (H : Nat → Bool) (N : Nat) (pre : List Nat) (A : World) (x : Nat) (B : World) : Prop := KeptS N A B ∧ pre = bl H x ∧ H x = true ∧ x < 256
def SB (H : Nat → Bool) (N : Nat) (xs : List Nat) (A B : World) : Prop := KeptS N A B ∧ xs = bl H 256
def SpB (H : Nat → Bool) (N : Nat) (pre : List Nat) (A B : World) : Prop := KeptS N A B ∧ ∃ x, x < 256 ∧ H x = true ∧ pre = bl H x ++ [x]
/-- What bytesOf lives on. -/
def ksB (Bs k : Nat) : Prop := k = Bs ∨ k = 0
theorem rest_same {H : Nat → Bool} {k x : Nat} (h1 : k ≤ x) (h4 : ∀ c, k ≤ c → c < x → H c = false) (c : Nat) (hc : c ≠ x) : rest H k c = rest H (x + 1) c := by
  unfold rest
  by_cases h : c < x
  · by_cases h2 : k ≤ c
    · rw [h4 c h2 h]; simp
    · have h3 : ¬ x + 1 ≤ c := by omega
      simp [h2, h3]
  · have h2 : k ≤ c := by omega
    have h3 : x + 1 ≤ c := by omega
    simp [h2, h3]
theorem rest_word {H : Nat → Bool} {k x i j : Nat} (h1 : k ≤ x) (h4 : ∀ c, k ≤ c → c < x → H c = false) (hi : x / 64 = i) (hj : x % 64 = j) :
    bits .andNot .u64 ((wd (rest H k) i : Nat) : Int) ((up j : Nat) : Int) = ((wd (rest H (x + 1)) i : Nat) : Int) := by
  have hu := up_lt j (by omega)
  rw [u64_andNot_nat _ _ (wd_lt _ _) (by omega)]
  congr 1
  refine wd_ext _ _ _ (show _ < 2 ^ 64 from Nat.and_lt_two_pow _ (by omega)) fun b hb => ?_
  have e : 18446744073709551615 - up j = 2 ^ 64 - (up j + 1) := by omega
  rw [Nat.testBit_and, wd_bit _ _ _ hb, e, Nat.testBit_two_pow_sub_succ (by omega)]
  unfold up
  rw [Nat.testBit_two_pow]
  by_cases hx : 64 * i + b = x
  · have h2 : j = b := by omega
    have h3 : ¬ x + 1 ≤ 64 * i + b := by omega
    simp [rest, h2, h3]
  · have h2 : ¬ j = b := by omega
    rw [rest_same h1 h4 _ hx]
    simp [h2, hb]
theorem rest_other {H : Nat → Bool} {k x i : Nat} (h1 : k ≤ x) (h4 : ∀ c, k ≤ c → c < x → H c = false) (hi : x / 64 = i) (m : Nat) (hm : m ≠ i) : wd (rest H (x + 1)) m = wd (rest H k) m :=
  wd_ext _ _ _ (wd_lt _ _) fun b hb => by rw [wd_bit _ _ _ hb]; exact (rest_same h1 h4 _ (by omega)).symm
theorem eqNone (H : Nat → Bool) (w : World) (r : Bool) (h : r = true ↔ ∀ b, b < 256 → H b = false) :
    (Op.equalIn 10000 24 (.agg #[.int .u64 (wd H 0 : Nat), .int .u64 (wd H 1 : Nat), .int .u64 (wd H 2 : Nat), .int .u64 (wd H 3 : Nat)]) (.agg #[.int .u64 0, .int .u64 0, .int .u64 0, .int .u64 0])).run Tryd.prog w = .ok r w := by
  have e := eqSt H nobs w r h
  rw [st_nobs] at e
  exact e

set_option maxRecDepth 100000 in
set_option maxHeartbeats 2000000 in
theorem bytes1_in (n l Bs : Nat) (H : Nat → Bool) (J : List Nat × (Nat → Prop) → World → Prop) (Jx : List Nat → World → Prop) (W : World)
    (hY : ∀ pre O x A B, J (pre, O) A → GB H W.heap.size pre A x B → YieldAt Fence.wide (n - 1) Tryd.prog l (encB x) B fun e W' =>
      (e = .returned (.bool true) ∧ (∃ O', J (pre ++ [x], O') W' ∧ KeptO O B W' ∧ ∀ k, O' k → (O k ∨ B.heap.size ≤ k) ∧ k < W'.heap.size) ∧ KeepsFrom (l + 1) B W') ∨ (e = .returned (.bool false) ∧ Jx (pre ++ [x]) W' ∧ KeepsFrom (l + 1) B W'))
    (O0 : Nat → Prop) (hO0 : ∀ k, O0 k → ¬ ksB Bs k ∧ k < W.heap.size) (hBs : SBox W Bs H) (hT : Tab W) (h0 : J ([], O0) W) :
    CallsIn Fence.wide n Tryd.prog 43 #[.func (.yield l) #[] #[], .pointer (some ⟨Bs, 0, none⟩)] W fun e W' => (∃ v, e = .returned v) ∧
      ((∃ xs O A, J (xs, O) A ∧ SB H W.heap.size xs A W') ∨ (∃ pre A, Jx pre A ∧ SpB H W.heap.size pre A W')) := by
  have hN0 : 0 < W.heap.size := by have := block_lt hBs; omega
  have hz := zeroSet'
  have b0 := hBs.cell 0 (by omega)
  have b1 := hBs.cell 1 (by omega)
  have b2 := hBs.cell 2 (by omega)
  have b3 := hBs.cell 3 (by omega)
  refine callsIn_of_wp Tryd.func43 rfl trivial ?_ rfl
  simp only [Tryd.ntmps43, List.size_toArray, List.length_cons, List.length_nil, Nat.reduceAdd, Nat.reduceSub, Array.replicate_succ, Array.replicate_zero, List.push_toArray, List.append_toArray, List.nil_append, List.cons_append]
  gi_wp2
  have h1 := hide (And.intro (SBox.new W W.heap.size H rfl) (And.intro ((KeptS.refl W.heap.size W).alloc (.cells (st H) 24)) (hT.below ((Below.refl W.heap.size W).alloc (Nat.le_refl _) (.cells (st H) 24)))))
  have HO0 := hide hO0
  have HN := hide hN0
  clear b0 b1 b2 b3 hBs hT hO0 hN0
  gi_loopg [3] 256 (fun q s3 wr => ∃ (k p : Nat) (O : Nat → Prop) (A : World), k + q = 256 ∧ s3 = .pointer (some ⟨p, 0, none⟩) ∧ SBox wr p (rest H k) ∧ W.heap.size ≤ p ∧ Tab wr ∧ J (bl H k, O) A ∧ KeptS W.heap.size A wr ∧ ¬ O p ∧ ¬ O 0 ∧ ∀ i, O i → i < wr.heap.size)
  case atStart =>
    refine ⟨0, W.heap.size, O0, W, by omega, rfl, (h1.out.1.congr _ fun b _ => by simp [rest] : SBox _ _ _), Nat.le_refl _, h1.out.2.2, h0, h1.out.2.1, fun h => ?_, fun h => ?_, fun i h => ?_⟩
    · have := (HO0.out _ h).2; omega
    · exact (HO0.out _ h).1 (.inr rfl)
    · have := (HO0.out _ h).2; simp; omega
  case round =>
    obtain ⟨k, p, O, A, hkq, rfl, hS, hp, hT, hJ, hK, hOp, hO0', hOs⟩ := hrel
    have HK := hide (And.intro hK (And.intro hOp (And.intro hO0' hOs)))
    have hp2 := hide (And.intro hp hS.lt)
    clear h1 h0 hK hOp hO0' hOs hp
    have b0 := hS.cell 0 (by omega)
    have b1 := hS.cell 1 (by omega)
    have b2 := hS.cell 2 (by omega)
    have b3 := hS.cell 3 (by omega)
    rcases first H gk k hkq with hn | ⟨x, hx1, hx2, hx3, hx4⟩
    · have he := fun W => eqNone (rest H k) W true ⟨fun _ b hb => by
        unfold rest
        by_cases h : k ≤ b
        · rw [hn b h hb]; simp
        · simp [h], fun _ => rfl⟩
      have hbl : bl H 256 = bl H k := by
        have := bl_gap (H := H) (k := k) (256 - k) fun c h1 h2 => hn c h1 (by omega)
        rwa [show k + (256 - k) = 256 by omega] at this
      have HF := hide (show SB H W.heap.size (bl H k) A wr from ⟨HK.out.1, hbl.symm⟩)
      clear hY hbl
      gi_wp2
      go_end0
      exact ⟨⟨_, rfl⟩, .inl ⟨_, O, A, hJ, HF.out⟩⟩
    · have he := fun W => eqNone (rest H k) W false ⟨fun h => by simp at h, fun h => by
        have := h x hx2
        unfold rest at this
        simp [hx1, hx3] at this⟩
      have hlow := lowest_any (rest H k) x wr hx2 (by unfold rest; simp [hx1, hx3]) (fun c hc => by
        unfold rest
        by_cases h : k ≤ c
        · rw [hx4 c h hc]; simp
        · simp [h]) hT
      have HX := hide (And.intro hx1 (And.intro hx2 (And.intro hx3 hx4)))
      have hxl : x < 256 := hx2
      clear hx1 hx2 hx3 hx4
      gi_wp2
      refine ⟨trivial, wide_deep, (callsIn_wide.2 hlow).mono ?_⟩
      rintro e w1 ⟨rfl, hb1⟩
      have hS1 := hide (hS.below hb1 hS.lt)
      have hT1 := hide (hT.below hb1)
      have hK1 := hide (HK.out.1.trans (KeptS.of_below hb1))
      have hs1 := hide hb1.size
      have hbx : bl H x = bl H k := by
        have := bl_gap (H := H) (k := k) (x - k) fun c h1 h2 => HX.out.2.2.2 c h1 (by have := HX.out.1; omega)
        rwa [show k + (x - k) = x by have := HX.out.1; omega] at this
      rw [← hbx] at hJ
      obtain ⟨fn, tmps, assign, body, hy, hR⟩ := hY _ O x A w1 hJ ⟨hK1.out, rfl, HX.out.2.2.1, hxl⟩
      have HP := hide (HK.out.2)
      clear hlow he b0 b1 b2 b3 hb1 hbx hS hT hJ HK
      simp only [encB] at hy
      gi_wp2
      refine ⟨wide_deep, hR.mono ?_⟩
      rintro e W3 (⟨rfl, ⟨O', hJ3, hk3, hO3⟩, _⟩ | ⟨rfl, hJx3, _⟩)
      · have hS3 := hk3.sbox HP.out.1 hS1.out
        have hT3 := hide (hk3.tab HP.out.2.1 hT1.out)
        have hZ := hide (And.intro hJ3 (And.intro hO3 hk3.size))
        obtain ⟨i, hi⟩ : ∃ i, x / 64 = i := ⟨_, rfl⟩
        obtain ⟨j, hj⟩ : ∃ j, x % 64 = j := ⟨_, rfl⟩
        have hi4 : i < 4 := by omega
        have hj64 : j < 64 := by omega
        have hx1 : (x : Int) / 64 = (i : Int) := by omega
        have hx2 : (x : Int) % 64 = (j : Int) := by omega
        have hw := hS3.cell i hi4
        have hf := hS3.frozen i
        have hwl := wd_lt (rest H k) i
        have hsh := shl_one j hj64
        have hwd := rest_word HX.out.1 HX.out.2.2.2 hi hj
        have hS4 : SBox (W3.setCell ⟨p, i, none⟩ (.int .u64 (wd (rest H (x + 1)) i : Nat))) p (rest H (x + 1)) := hS3.set i _ hi4 rfl fun m _ hm => rest_other HX.out.1 HX.out.2.2.2 hi m hm
        have d0 := hS4.cell 0 (by omega)
        have d1 := hS4.cell 1 (by omega)
        have d2 := hS4.cell 2 (by omega)
        have d3 := hS4.cell 3 (by omega)
        have HS3 := hide hS3
        clear hi hj hJ3 hk3 hO3 hS4 hS3 hY hy hR
        gi_wp2
        gi_roundg (255 - x)
        case measure => have := HX.out.1; omega
        case rel =>
          have hp := hp2.out.1
          have hsz := hZ.out.2.2
          have hs1' := hs1.out
          refine ⟨x + 1, (W3.setCell ⟨p, i, none⟩ (.int .u64 (wd (rest H (x + 1)) i : Nat))).heap.size, O', W3, by omega, by simp, SBox.new _ _ (rest H (x + 1)) rfl, ?_, ?_, ?_, ((KeptS.refl _ W3).setCell hp HS3.out _).alloc _, fun h => ?_, fun h => ?_, fun g h => ?_⟩
          · have := hp2.out.2; simp; omega
          · have ht : Tab (W3.setCell ⟨p, i, none⟩ (.int .u64 (wd (rest H (x + 1)) i : Nat))) := ((KeptS.refl W.heap.size W3).setCell hp HS3.out (i := i) (.int .u64 (wd (rest H (x + 1)) i : Nat))).tab HN.out hT3.out
            exact ht.below ((Below.refl _ _).alloc (Nat.le_refl _) _)
          · rw [bl_yes HX.out.2.2.1]; exact hZ.out.1
          · have := (hZ.out.2.1 _ h).2; simp at this
          · rcases (hZ.out.2.1 _ h).1 with h1 | h1
            · exact HP.out.2.1 h1
            · have := HN.out; have := hp2.out.2; omega
          · have := (hZ.out.2.1 _ h).2; simp; omega
      · gi_wp2
        refine bodyPost_ret (results_none rfl _ _ _) rfl ?_
        exact ⟨⟨_, rfl⟩, .inr ⟨_, W3, hJx3, KeptS.refl _ _, x, hxl, HX.out.2.2.1, rfl⟩⟩

theorem bytes_seq (n Bs : Nat) (H : Nat → Bool) (w : World) (hBs : SBox w Bs H) (hT : Tab w) :
    SeqN Fence.wide n Tryd.prog 43 #[.pointer (some ⟨Bs, 0, none⟩)] encB (GB H) (ksB Bs) (SB H) (SpB H) w := fun l J Jx W O0 hW _ hO0 hY h0 =>
  bytes1_in n l Bs H J Jx W hY O0 hO0 (hBs.below hW hBs.lt) (hT.below hW) h0
end Go.Proofs.YtmnjicpgdhnimaaDoor
