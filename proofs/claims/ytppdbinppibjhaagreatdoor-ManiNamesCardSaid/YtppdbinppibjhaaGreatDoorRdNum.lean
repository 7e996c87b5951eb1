/-
  The program's reader gets a number.
-/
import Derived.Test.YtppdbinppibjhaaGreatDoorRdIter
namespace Go.Proofs.YtppdbinppibjhaaGreatDoor
open Go.RowKit Go.Shelf

attribute [local go_sem] Oper.semAt_some

theorem Kept.undrew {F : Nat → Prop} {w w' : World} (h : Kept F w.drew w') : Kept F w w' := ⟨h.os, h.tape, h.output, h.size, h.block, h.others⟩
/-- What the loop holds in its three boxes. -/
def NumBox (N0 : Nat) (t : Nat × Nat × Nat) (X : World) : Prop :=
  X.heap[N0]? = some (.cells #[.int .i64 (t.1 : Nat)] 3 (0, 0)) ∧ X.heap[N0 + 1]? = some (.cells #[.int .i64 (t.2.1 : Nat)] 3 (0, 0)) ∧ X.heap[N0 + 1 + 1]? = some (.cells #[.int .u8 (t.2.2 : Nat)] 5 (0, 0))
theorem NumBox.cells {N0 : Nat} {t : Nat × Nat × Nat} {X Y : World} (h : NumBox N0 t X) (hk : CellsKept X Y) : NumBox N0 t Y := ⟨hk _ _ _ _ h.1, hk _ _ _ _ h.2.1, hk _ _ _ _ h.2.2⟩
/-- How the number is taken up. -/
theorem getNum_of (most : Int) (L : List Nat) : getNum most (some L) =
    if 128 ≤ (foldN (sq L (yl 6 L))).2.2 ∨ ((foldN (sq L (yl 6 L))).2.2 = 0 ∧ 1 < (foldN (sq L (yl 6 L))).2.1) ∨ ¬ (((foldN (sq L (yl 6 L))).1 : Int) ≤ most ∧ (foldN (sq L (yl 6 L))).1 ≤ maxNum) then (0, none)
    else ((foldN (sq L (yl 6 L))).1, some (L.drop (foldN (sq L (yl 6 L))).2.1)) := by
  rw [foldN_sq]
  unfold getNum
  simp only [pN_yl 6 0 L]
  by_cases h0 : yl 6 L = 0
  · simp [h0]
  · by_cases h1 : 128 ≤ L.getD (yl 6 L - 1) 0
    · rw [if_pos (.inr (.inl h1)), if_pos (.inl (by rw [if_neg h0]; exact h1))]
    · by_cases h2 : L.getD (yl 6 L - 1) 0 = 0 ∧ 1 < yl 6 L
      · rw [if_pos (.inr (.inr (by omega))), if_pos (.inr (.inl (by rw [if_neg h0]; exact h2)))]
      · rw [if_neg (by omega)]
        by_cases h3 : ((acc L (yl 6 L) : Nat) : Int) ≤ most ∧ acc L (yl 6 L) ≤ maxNum
        · rw [if_neg (by rw [if_neg h0]; rintro (h | h | h); exact h1 h; exact h2 h; exact h h3)]
          simp only []
          rw [if_pos h3]
        · rw [if_pos (.inr (.inr h3))]
          simp only []
          rw [if_neg h3]

theorem int64_nat (a : Nat) (ha : a < 9223372036854775808) : (BitVec.ofInt 64 (a : Int)).toNat = a := by
  rw [BitVec.ofInt_natCast, BitVec.toNat_ofNat, Nat.mod_eq_of_lt (by omega)]
theorem or_i64 (a b : Nat) (ha : a < 2 ^ 42) (hb : b < 2 ^ 42) : bits BinOp.or IntKind.i64 (a : Int) (b : Int) = ((a ||| b : Nat) : Int) := by
  have hx : a ||| b < 2 ^ 42 := Nat.or_lt_two_pow ha hb
  have h : bits BinOp.or IntKind.i64 (a : Int) (b : Int) = IntKind.i64.wrap (((BitVec.ofInt 64 (a : Int)) ||| (BitVec.ofInt 64 (b : Int))).toNat : Nat) := rfl
  rw [h, BitVec.toNat_or, int64_nat a (by omega), int64_nat b (by omega)]
  exact IntWalk.i64_in _ (by omega)
theorem shl_i64 (x i : Nat) (hi : i < 6) (hx : x < 128) (W : World) : (Op.shift BinOp.shl IntKind.i64 (x : Int) IntKind.i64 ((7 * i : Nat) : Int)).run Tryz.prog W = .ok (.int .i64 ((x * 2 ^ (7 * i) : Nat) : Int)) W := by
  have hw : IntKind.i64.wrap ((x * 2 ^ (7 * i) : Nat) : Int) = ((x * 2 ^ (7 * i) : Nat) : Int) := by
    have h1 : 2 ^ (7 * i) ≤ 2 ^ 35 := Nat.pow_le_pow_right (by omega) (by omega)
    have h2 := Nat.mul_le_mul (show x ≤ 127 by omega) h1
    exact IntWalk.i64_in _ (by omega)
  have hm : min ((7 * i : Nat) : Int).toNat IntKind.i64.bits = 7 * i := by
    rw [Int.toNat_natCast]
    exact Nat.min_eq_left (by show 7 * i ≤ 64; omega)
  have hc : (x : Int) * 2 ^ (7 * i) = ((x * 2 ^ (7 * i) : Nat) : Int) := by simp
  unfold Op.shift
  rw [if_neg (by omega), hm]
  show Result.ok (Value.int .i64 (IntKind.i64.wrap ((x : Int) * 2 ^ (7 * i)))) W = _
  rw [hc, hw]

set_option maxRecDepth 100000 in
set_option maxHeartbeats 4000000 in
theorem rdNumber_in (n : Nat) (hn4 : 4 ≤ n) (p : Nat) (F : Nat → Prop) (L : List Nat) (most : Int) (w : World) (h : Rd w p F (some L)) (hF : ∀ k, F k → k < w.heap.size) (hmost : (Lit.int .i64 most).wf = true) (hL : L.length ≤ 9223372036854775807) :
    CallsIn Fence.wide n Tryz.prog 58 #[.pointer (some ⟨p, 0, none⟩), .int .i64 most] w fun e w' => e = .returned (.int .i64 ((getNum most (some L)).1 : Nat)) ∧ Rd w' p F (getNum most (some L)).2 ∧ Kept (fun k => k = p) w w' := by
  have hok := callsIn_wide (n := n - 1).2 (ok_any (.pointer (some ⟨p, 0, none⟩)) F (some L) w (.inr ⟨p, rfl, h⟩))
  have hb0 := bounds_i64 hmost
  refine callsIn_of_wp_marks Tryz.func58 rfl trivial ?_ rfl
  simp only [Tryz.ntmps58, List.size_toArray, List.length_cons, List.length_nil, Nat.reduceAdd, Nat.reduceSub, Array.replicate_succ, Array.replicate_zero, List.push_toArray, List.append_toArray, List.nil_append, List.cons_append]
  gi_wp2
  refine ⟨trivial, fun _ => by omega, hok.mono ?_⟩
  rintro e w' ⟨rfl, rfl⟩
  clear hok
  obtain ⟨W3, hW3⟩ : ∃ W3, ((w.alloc (.cells #[.int .i64 0] 3)).alloc (.cells #[.int .i64 0] 3)).alloc (.cells #[.int .u8 128] 5) = W3 := ⟨_, rfl⟩
  have hs3 : W3.heap.size = w.heap.size + 3 := by rw [← hW3]; simp
  have hK3 : Kept (fun _ => False) w W3 := by rw [← hW3]; exact (((Kept.refl _ w).alloc _).alloc _).alloc _
  have hB3 : NumBox w.heap.size (0, 0, 128) W3 := by
    rw [← hW3]
    refine ⟨?_, ?_, ?_⟩
    · rw [Below.heap_alloc _ _ _ (by simp; omega), Below.heap_alloc _ _ _ (by simp)]; exact heap_alloc_new _ _
    · rw [Below.heap_alloc _ _ _ (by simp)]
      have := heap_alloc_new (w.alloc (.cells #[.int .i64 0] 3)) (.cells #[.int .i64 0] 3)
      rw [World.size_alloc] at this
      exact this
    · have := heap_alloc_new ((w.alloc (.cells #[.int .i64 0] 3)).alloc (.cells #[.int .i64 0] 3)) (.cells #[.int .u8 128] 5)
      rw [World.size_alloc, World.size_alloc] at this
      exact this
  have hR3 : Rd W3 p F (some L) := h.kept hK3 (fun _ _ h => h)
  have hpw := hF p h.1
  obtain ⟨W4, hW4⟩ : ∃ W4, W3.alloc (.cells #[.pointer (some ⟨p, 0, none⟩)] 262) = W4 := ⟨_, rfl⟩
  have hab : Kept (fun _ => False) W3 W4 := by rw [← hW4]; exact Kept.of_below (below_alloc W3 _)
  have hs4 : W4.heap.size = W3.heap.size + 1 := by rw [← hW4]; simp
  have hR4 : Rd W4 p F (some L) := hR3.kept hab (fun _ _ h => h)
  obtain ⟨A, C, hp4, hAC, hCm, hAn, hA0, hbl4, hAF⟩ := hR4.2
  have hcell4 : W4.cell? ⟨W3.heap.size, 0, none⟩ = some (.pointer (some ⟨p, 0, none⟩)) := by rw [← hW4]; exact (cell_new_l W3 _ _).1
  have hstop := number_stops Fence.wide (n - 1) trivial rfl (by omega) W3.heap.size p A C L W4 hcell4 (cells2 hp4).1 hL hbl4
  have hB4 : NumBox w.heap.size (0, 0, 128) W4 := ⟨hab.heap hB3.1 (fun h => h), hab.heap hB3.2.1 (fun h => h), hab.heap hB3.2.2 (fun h => h)⟩
  have hK4 : Kept (fun _ => False) w W4 := hK3.trans hab (fun _ _ h => h)
  have hs34 := hide (And.intro hs3 hs4)
  have hbx := hide hB4
  clear hR3 hB3 hp4 hbl4 hcell4 hs3 hs4 hB4
  gi_wp2
  refine ⟨trivial, fun _ => by omega, (placeNumber_in Fence.wide (n - 1) trivial rfl (some ⟨p, 0, none⟩) W3).mono ?_⟩
  rintro e w' ⟨rfl, rfl⟩
  gi_wp2
  refine wpIn_rangeFunc_ownF rfl (by omega) (gf := 160) (lb := #[.pointer (some ⟨W3.heap.size, 0, none⟩)]) rfl trivial (enters_of Tryz.func160 (by kernel_rfl) rfl)
    hstop keepsBL_t keepsBL_b (Below.refl _ _) (fun _ => rfl)
    (fun pre X => NumBox w.heap.size (foldN (pvs pre)) X ∧ Rd X p F (some L) ∧ Kept (fun _ => False) w X)
    (fun _ _ _ => False) ?own (fun _ _ _ _ _ hs _ _ => hs) ?start
    (fun x => { tmps := #[.pointer (some ⟨p, 0, none⟩), .int .i64 most, undef, undef, .int .i64 0, .pointer (some ⟨w.heap.size, 0, none⟩), .pointer (some ⟨w.heap.size + 1, 0, none⟩), .pointer (some ⟨w.heap.size + 1 + 1, 0, none⟩), .int .i64 (x.1.val : Nat), .int .u8 (x.2.val : Nat),
      .pointer (some ⟨p, 0, none⟩), .bool true, .bool false, .pointer (some ⟨p, 0, none⟩), .pointer (some ⟨p, 0, none⟩), .pointer (some ⟨p, 0, none⟩), .func (.func 160) #[] #[.pointer (some ⟨W3.heap.size, 0, none⟩)], .int .i64 (x.1.val : Nat), .int .u8 (x.2.val : Nat), undef, undef, undef, undef, undef, undef, undef, undef, undef, undef, undef, undef, undef, undef, undef, undef, undef, undef, undef, undef, undef, undef, undef, undef, undef, undef, undef, undef, undef, undef, undef, undef, undef, undef], defers := [] }) ?assign ?body ?done ?stop
  case own =>
    rintro pre X X' row ⟨h1, h2, h3⟩ hg hr
    have ck := CellsKept.of_grown hg (fun r e => (hr r e).2)
    exact ⟨h1.cells ck, h2.cells ck, h3.grown hg (fun r e => .inr (by have := (hr r e).1; have := hK4.size; omega))⟩
  case start => exact ⟨hbx.out, hR4, hK4⟩
  case assign =>
    intro l x X K hK
    gi_wp2
    exact hK
  case body =>
    rintro l pre x X ⟨h1, h2, h3⟩ hpl
    obtain ⟨d0, e0⟩ := cells1 h1.1
    obtain ⟨d1, e1⟩ := cells1 h1.2.1
    obtain ⟨d2, e2⟩ := cells1 h1.2.2
    have H1 := hide h1
    have HF := hide (foldN_snoc (pvs pre) (x.1.val, x.2.val))
    obtain ⟨t1, t2, t3⟩ := hide (foldN_lt pre)
    have hi6 := x.1.isLt
    have hb256 := x.2.isLt
    have hpv := hide (pvs_snoc pre x)
    generalize foldN (pvs pre) = t at *
    obtain ⟨tn, ts, tl⟩ := t
    simp only at d0 d1 d2 t1 t2 t3
    clear h1 hstop
    generalize x.1.val = i at *
    generalize x.2.val = b at *
    have hi6' : (i : Int) ≤ 5 := by omega
    have hi0' : (0 : Int) ≤ (i : Int) := by omega
    have hb0' : (0 : Int) ≤ (b : Int) := by omega
    have hb1' : (b : Int) < 256 := by omega
    have hq1 : (b : Int).tmod 128 = ((b % 128 : Nat) : Int) := by rw [Int.tmod_eq_emod_of_nonneg (by omega)]; rfl
    have hsh := fun W => shl_i64 (b % 128) i hi6 (by omega) W
    obtain ⟨q, hq⟩ : ∃ q, q = b % 128 * 2 ^ (7 * i) := ⟨_, rfl⟩
    have hq42 : q < 2 ^ 42 := by
      have h1 : 2 ^ (7 * i) ≤ 2 ^ 35 := Nat.pow_le_pow_right (by omega) (by omega)
      have h2 := Nat.mul_le_mul (show b % 128 ≤ 127 by omega) h1
      omega
    have hor := or_i64 tn q t1 hq42
    have HQ : Hid (stepN (tn, ts, tl) (i, b) = (tn ||| q, i + 1, b)) := by rw [hq]; rfl
    rw [← hq, ← IntWalk.i64_in ((7 * i : Nat) : Int) (by omega), ← IntWalk.i64_in ((b % 128 : Nat) : Int) (by omega), ← hq1, show ((7 * i : Nat) : Int) = 7 * (i : Int) from by omega] at hsh
    obtain ⟨r, hr⟩ : ∃ r, r = tn ||| q := ⟨_, rfl⟩
    rw [← hr] at hor HQ
    clear hq hq1 hr
    gi_wp2
    have hfo : Tryz.prog.follows .mixedOrders = true := by kernel_rfl
    gi_region_o
    all_goals
      gi_wp2
      have hXs := h3.size
      have hKX : Kept (fun k => w.heap.size ≤ k) X (((X.setCell ⟨w.heap.size, 0, none⟩ (.int .i64 r)).setCell ⟨w.heap.size + 1, 0, none⟩ (.int .i64 ((i : Int) + 1))).setCell ⟨w.heap.size + 1 + 1, 0, none⟩ (.int .u8 b)).drew :=
        ((((Kept.refl _ X).setCell (p := ⟨w.heap.size, 0, none⟩) (.inl (Nat.le_refl _)) _).setCell (p := ⟨w.heap.size + 1, 0, none⟩) (.inl (Nat.le_succ _)) _).setCell (p := ⟨w.heap.size + 1 + 1, 0, none⟩) (.inl (by show w.heap.size ≤ w.heap.size + 1 + 1; omega)) _).drew
      refine ⟨hKX.keepsOthers, fun hb => hb.kept hKX (fun g o s e hle => ?_), ⟨?_, ?_, ?_⟩, h2.kept hKX (fun k hk hle => ?_), h3.trans hKX (fun k hk hle => ?_)⟩
      · have := hF g (hAF g o s e).1; omega
      · rw [hpv.out, HF.out, HQ.out]
        have e1 := heap_setCell_same X w.heap.size 0 _ _ (.int .i64 r) H1.out.1
        show (((X.setCell ⟨w.heap.size, 0, none⟩ (.int .i64 r)).setCell ⟨w.heap.size + 1, 0, none⟩ (.int .i64 ((i : Int) + 1))).setCell ⟨w.heap.size + 1 + 1, 0, none⟩ (.int .u8 b)).heap[w.heap.size]? = _
        rw [Below.heap_setCell _ _ _ _ (show w.heap.size ≠ w.heap.size + 1 + 1 by omega), Below.heap_setCell _ _ _ _ (show w.heap.size ≠ w.heap.size + 1 by omega)]
        exact e1
      · rw [hpv.out, HF.out, HQ.out]
        show (((X.setCell ⟨w.heap.size, 0, none⟩ (.int .i64 r)).setCell ⟨w.heap.size + 1, 0, none⟩ (.int .i64 ((i : Int) + 1))).setCell ⟨w.heap.size + 1 + 1, 0, none⟩ (.int .u8 b)).heap[w.heap.size + 1]? = _
        rw [Below.heap_setCell _ _ _ _ (show w.heap.size + 1 ≠ w.heap.size + 1 + 1 by omega)]
        exact heap_setCell_same _ (w.heap.size + 1) 0 _ _ (.int .i64 ((i : Int) + 1)) ((Below.heap_setCell _ _ _ _ (show w.heap.size + 1 ≠ w.heap.size by omega)).trans H1.out.2.1)
      · rw [hpv.out, HF.out, HQ.out]
        show (((X.setCell ⟨w.heap.size, 0, none⟩ (.int .i64 r)).setCell ⟨w.heap.size + 1, 0, none⟩ (.int .i64 ((i : Int) + 1))).setCell ⟨w.heap.size + 1 + 1, 0, none⟩ (.int .u8 b)).heap[w.heap.size + 1 + 1]? = _
        exact heap_setCell_same _ (w.heap.size + 1 + 1) 0 _ _ (.int .u8 b) ((Below.heap_setCell _ _ _ _ (show w.heap.size + 1 + 1 ≠ w.heap.size + 1 by omega)).trans ((Below.heap_setCell _ _ _ _ (show w.heap.size + 1 + 1 ≠ w.heap.size by omega)).trans H1.out.2.2))
      · have := hF k hk; omega
      · omega
  case done =>
    rintro D ys X hD hys ⟨h1, h2, h3⟩ hKD
    rw [hys] at h1
    have hg := getNum_of most L
    have hts : (foldN (sq L (yl 6 L))).2.1 ≤ L.length := by rw [foldN_sq]; exact (yl_le 6 L).1
    obtain ⟨t1, t2, t3⟩ := hide (foldN_lt ys)
    rw [hys] at t1 t2 t3
    generalize foldN (sq L (yl 6 L)) = t at *
    obtain ⟨tn, ts, tl⟩ := t
    simp only at hg hts t1 t2 t3
    obtain ⟨d0, e0⟩ := cells1 h1.1
    obtain ⟨d1, e1⟩ := cells1 h1.2.1
    obtain ⟨d2, e2⟩ := cells1 h1.2.2
    simp only at d0 d1 d2
    have hM : Marks w.heap.size [{ target := .collected D, args := #[] }] X := ⟨⟨D, rfl, by have := hK4.size; omega, hKD, fun _ h => by cases h⟩, trivial⟩
    have hend : ∀ (x : Nat) (S' : Option (List Nat)) (X1 : World) (tmps : Array Value), getNum most (some L) = (x, S') → tmps.getD 4 undef = .int .i64 x → Rd X1 p F S' → Kept (fun k => k = p) X X1 →
        LeavesInM Fence.wide n Tryz.prog Tryz.f58 tmps (fun e w' => e = .returned (.int .i64 ((getNum most (some L)).1 : Nat)) ∧ Rd w' p F (getNum most (some L)).2 ∧ Kept (fun k => k = p) w w') [{ target := .collected D, args := #[] }] .returning X1 := by
      intro x S' X1 tmps e1 e2 hR hK
      refine leaves_marks _ _ (hM.others hK.keepsOthers) (fun w' ht => ⟨_, results_tmp rfl _ _ _, ?_, ?_, ?_⟩)
      · rw [e1, e2]
      · rw [e1]; exact hR.cells ht.cells
      · exact ((h3.mono (fun _ _ h => h.elim)).trans hK (fun k hk h => h)).turned ht
    have hfl := callsIn_wide (n := n - 1).2 (rdFail_any p F _ X h2)
    clear h1 hstop hM h3 hys hKD hW3 hW4
    by_cases c1 : 128 ≤ tl
    · rw [if_pos (.inl c1)] at hg
      have hend' := hend 0 none
      clear hend
      have c1' : (128 : Int) ≤ (tl : Int) := by omega
      gi_wp2
      refine ⟨trivial, fun _ => by omega, hfl.mono ?_⟩
      rintro e X1 ⟨rfl, hR, hK⟩
      gi_wp2
      exact hend' X1 _ hg rfl hR hK
    · by_cases c2 : tl = 0 ∧ 1 < ts
      · rw [if_pos (.inr (.inl c2))] at hg
        have hend' := hend 0 none
        obtain ⟨rfl, c22⟩ := c2
        have c22' : (1 : Int) < (ts : Int) := by omega
        clear hend c1
        gi_wp2
        refine ⟨trivial, fun _ => by omega, hfl.mono ?_⟩
        rintro e X1 ⟨rfl, hR, hK⟩
        gi_wp2
        exact hend' X1 _ hg rfl hR hK
      · have hz : (((tl : Int) == 0) = true ∧ decide ((1 : Int) < (ts : Int)) = false) ∨ ((tl : Int) == 0) = false := by
          by_cases h0 : tl = 0
          · exact .inl ⟨by simp [h0], decide_eq_false (by omega)⟩
          · exact .inr (by simp; omega)
        have c1' : (tl : Int) < 128 := by omega
        by_cases c3 : (tn : Int) ≤ most ∧ tn ≤ maxNum
        · have hg' := hg
          rw [if_neg (by omega)] at hg'
          have hend' := hend tn (some (L.drop ts))
          have htk := callsIn_wide (n := n - 1).2 (take_some p F L ts X.drew h2 hts)
          have hfo : Tryz.prog.follows .mixedOrders = true := by kernel_rfl
          unfold maxNum at c3
          obtain ⟨c31, c32⟩ := c3
          clear hend hfl c1 c2 hg
          by_cases hmm : most ≤ 1099511627776
          · have c33 : ¬ (most < (tn : Int)) := by omega
            rcases hz with ⟨hz1, hz2⟩ | hz1
            all_goals
              gi_wp2
              refine wpIn_mono ?_ NoPanic.imp
              gi_region_with_o (refine ⟨trivial, fun _ => by omega, htk.mono ?_⟩; rintro e X1 ⟨A1, C1, rfl, _, _, _, _, _, hR, hK⟩)
              all_goals
                have d0' := hK.undrew.cell d0 (show ¬ (w.heap.size = p) by omega)
                refine NoPanic.normal ?_
                gi_wp2
                exact hend' X1 _ hg' rfl hR hK.undrew
          · have c33 : ¬ ((1099511627776 : Int) < (tn : Int)) := by omega
            rcases hz with ⟨hz1, hz2⟩ | hz1
            all_goals
              gi_wp2
              refine wpIn_mono ?_ NoPanic.imp
              gi_region_with_o (refine ⟨trivial, fun _ => by omega, htk.mono ?_⟩; rintro e X1 ⟨A1, C1, rfl, _, _, _, _, _, hR, hK⟩)
              all_goals
                have d0' := hK.undrew.cell d0 (show ¬ (w.heap.size = p) by omega)
                refine NoPanic.normal ?_
                gi_wp2
                exact hend' X1 _ hg' rfl hR hK.undrew
        · have hg' := hg
          rw [if_pos (.inr (.inr c3))] at hg'
          have hend' := hend 0 none
          unfold maxNum at c3
          clear hend c1 c2 hg
          by_cases hmm : most ≤ 1099511627776
          · have c33 : most < (tn : Int) := by omega
            clear c3
            rcases hz with ⟨hz1, hz2⟩ | hz1
            all_goals
              gi_wp2
              refine ⟨trivial, fun _ => by omega, hfl.mono ?_⟩
              rintro e X1 ⟨rfl, hR, hK⟩
              gi_wp2
              exact hend' X1 _ hg' rfl hR hK
          · have c33 : (1099511627776 : Int) < (tn : Int) := by omega
            clear c3
            rcases hz with ⟨hz1, hz2⟩ | hz1
            all_goals
              gi_wp2
              refine ⟨trivial, fun _ => by omega, hfl.mono ?_⟩
              rintro e X1 ⟨rfl, hR, hK⟩
              gi_wp2
              exact hend' X1 _ hg' rfl hR hK
  case stop =>
    rintro D c pre X _ _ h _
    exact h.elim
end Go.Proofs.YtppdbinppibjhaaGreatDoor
