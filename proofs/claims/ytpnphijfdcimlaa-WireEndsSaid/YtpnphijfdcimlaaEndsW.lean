/-
  WireEnds's walk.
-/
import Derived.Test.YtpnphijfdcimlaaEndsN
import Derived.Test.YtpnphijfdcimlaaEnds23
import Derived.Lib.SlBytesConst
namespace Go.Proofs.Ytpnphijfdcimlaa
open Go.RowKit

theorem w64 (x : Int) (h1 : -9223372036854775808 ≤ x) (h2 : x ≤ 9223372036854775807) : wrap64 x = x := by unfold wrap64; omega

/-- The row that is put. -/
def r3 (x y z : Int) (g : Nat) : Thg := ⟨3, 0, 0, [], none, 0, fun i => [x, y, z].getD i 0, 3, some ⟨g, 0, none⟩, 3⟩
theorem r3_ok (x y z : Int) (g : Nat) (w : World) (hx : (Lit.int .i64 x).wf = true) (hy : (Lit.int .i64 y).wf = true) (hz : (Lit.int .i64 z).wf = true) (hI : Ints w (some ⟨g, 0, none⟩) 3 (fun i => [x, y, z].getD i 0)) : (r3 x y z g).Ok w := by
  have h0 : (Lit.int .i64 0).wf = true := wf64 (by omega) (by omega)
  refine ⟨wf64 (by show (-9223372036854775808 : Int) ≤ 3; omega) (by show (3 : Int) ≤ _; omega), h0, h0, Nat.le_refl _, by show (0 : Nat) ≤ _; omega, fun _ => rfl, BL.mk (by intro b hb; cases hb) (.inl rfl), Nat.le_refl _, by show (3 : Nat) ≤ _; omega, (fun h => by cases h), hI, fun i => ?_⟩
  match i with
  | 0 => exact hx
  | 1 => exact hy
  | 2 => exact hz
  | k + 3 => exact h0

/-- What does tells, as bytes that are handed on. -/
theorem DoesP.bs {m : Nat} {w w' : World} {e : Ending} (h : DoesP m w e w') (hm : m ≤ 20000) : ∃ A C L, e = .returned (.tuple #[.slice A m C, .bool true]) ∧ Bs w' A m C L ∧ Below w.heap.size w w' := by
  obtain ⟨A, C, L, he, h1, h2, h3, h4, h5, h6, h7, h8⟩ := h
  refine ⟨A, C, L, he, ⟨h1, hm, h2, h3, h4, h5.imp id (fun ⟨b, h⟩ => ⟨b, 0, h⟩), fun g o s e => (h7 g o s e).2, h6⟩, h8⟩

theorem does_three (x P : Int) (w : World) (g g2 : Nat) (hg : g = w.heap.size) (hg2 : g2 = w.heap.size + 1) (h1 : (Lit.int .i64 (x - 1)).wf = true) (h2 : (Lit.int .i64 x).wf = true) (h3 : (Lit.int .i64 (x + P)).wf = true)
    (C1 C2 : Array Value) (hC1 : C1 = (li [x - 1, x, x + P]).toArray) (hC2 : C2 = (flatT [tn 0 x 0, r3 (x - 1) x (x + P) g, tn 1 x 0]).toArray) :
    Calls Try.prog 8 #[.slice (some ⟨g2, 0, none⟩) 3 3] ((w.alloc (.cells C1 3)).alloc (.cells C2 31)) fun e w' => ∃ A m C L, e = .returned (.tuple #[.slice A m C, .bool true]) ∧ Bs w' A m C L ∧ Below w.heap.size w w' := by
  have h0 : (Lit.int .i64 0).wf = true := wf64 (by omega) (by omega)
  have hI := ints_lit w [x - 1, x, x + P] C1 hC1 g hg
  have hb := below_alloc (w.alloc (.cells C1 3)) (.cells C2 31)
  have hT := things_lit (w.alloc (.cells C1 3)) _ C2 hC2 g2 (by rw [hg2]; simp) (fun t ht => by
    simp only [List.mem_cons, List.mem_nil_iff, or_false] at ht
    rcases ht with rfl | rfl | rfl
    · exact tn_ok _ _ _ _ h0 h2 h0
    · exact r3_ok _ _ _ _ _ h1 h2 h3 (hI.below hb)
    · exact tn_ok _ _ _ _ (wf64 (by omega) (by omega)) h2 h0)
  have hbk : bulk (TL [tn 0 x 0, r3 (x - 1) x (x + P) g, tn 1 x 0]) 3 = 3 := rfl
  have hsz := putAllT_sz (TL [tn 0 x 0, r3 (x - 1) x (x + P) g, tn 1 x 0]) 3
  refine (does_any (some ⟨g2, 0, none⟩) 3 3 _ _ hT (by rw [hbk]; omega)).mono fun e w' h => ?_
  obtain ⟨A, C, L, he, hbs, hw⟩ := h.bs (by rw [hbk] at hsz; omega)
  exact ⟨A, _, C, L, he, hbs, ((below_alloc w _).alloc (by simp) _).trans (hw.mono (by simp; omega))⟩

/-- A row, as far as h. -/
def rh (x y z : Int) (h g : Nat) : Thg := ⟨3, 0, 0, [], none, 0, fun i => [x, y, z].getD i 0, h, some ⟨g, 0, none⟩, 3⟩
theorem does_row (x y z : Int) (h : Nat) (hh : h ≤ 3) (w : World) (g g2 : Nat) (hg : g = w.heap.size) (hg2 : g2 = w.heap.size + 1) (h1 : (Lit.int .i64 x).wf = true) (h2 : (Lit.int .i64 y).wf = true) (h3 : (Lit.int .i64 z).wf = true)
    (C1 C2 : Array Value) (hC1 : C1 = (li [x, y, z]).toArray) (hC2 : C2 = (flatT [rh x y z h g, tn 0 4 0]).toArray) :
    Calls Try.prog 8 #[.slice (some ⟨g2, 0, none⟩) 2 2] ((w.alloc (.cells C1 3)).alloc (.cells C2 31)) fun e w' => ∃ A m C, e = .returned (.tuple #[.slice A m C, .bool true]) ∧ Below w.heap.size w w' := by
  have h0 : (Lit.int .i64 0).wf = true := wf64 (by omega) (by omega)
  have hI := ints_lit w [x, y, z] C1 hC1 g hg
  have hb := below_alloc (w.alloc (.cells C1 3)) (.cells C2 31)
  have hT := things_lit (w.alloc (.cells C1 3)) _ C2 hC2 g2 (by rw [hg2]; simp) (fun t ht => by
    simp only [List.mem_cons, List.mem_nil_iff, or_false] at ht
    rcases ht with rfl | rfl
    · have hr := r3_ok x y z g _ h1 h2 h3 (hI.below hb)
      exact ⟨hr.K, hr.N, hr.M, hr.lB, hr.mB, hr.nB, hr.bB, hh, hr.mR, hr.nR, (hr.bR).imp (fun h => by cases h) (fun ⟨b, o, e, hc⟩ => ⟨b, o, e, fun i hi => hc i (by show i < 3; have : i < h := hi; omega)⟩), hr.wR⟩
    · exact tn_ok _ _ _ _ h0 (wf64 (by omega) (by omega)) h0)
  have hbk : bulk (TL [rh x y z h g, tn 0 4 0]) 2 = h := by show 0 + (0 + h) + (0 + 0) = h; omega
  have hsz := putAllT_sz (TL [rh x y z h g, tn 0 4 0]) 2
  refine (does_any (some ⟨g2, 0, none⟩) 2 2 _ _ hT (by rw [hbk]; omega)).mono fun e w' h => ?_
  obtain ⟨A, C, L, he, _, hw⟩ := h.bs (by rw [hbk] at hsz; omega)
  exact ⟨A, _, C, he, ((below_alloc w _).alloc (by simp) _).trans (hw.mono (by simp; omega))⟩

set_option maxRecDepth 100000 in
set_option maxHeartbeats 4000000 in
theorem ends_walk (w : World) :
    Calls Try.prog 4 #[] w fun e w' => e = .returned (.bool true) ∧ Below w.heap.size w w' := by
  go_enter Try.func4, Try.ntmps4
  go_wp2_with fail
  go_loopg [1] 44 (fun q s1 wr => ∃ k : Nat, k + q = 44 ∧ s1 = .int .i64 (k : Nat) ∧ Below w.heap.size w wr)
  case atStart => exact ⟨0, by omega, rfl, Below.refl _ _⟩
  case round =>
    obtain ⟨k, hkq, rfl, hB⟩ := hrel
    have hs := hB.size
    cases gk with
    | zero =>
      obtain rfl : k = 44 := by omega
      have H8 : ∀ b ∈ [128, 128, 128, 128, 128, 128, 128, 128], b < 256 := by decide
      obtain ⟨i0, hi, hq0, hq1, hq2⟩ := info_parts info_u8
      go_wp2_with fail
      go_loopg [7] 9 (fun q s7 wr => ∃ k : Nat, k + q = 9 ∧ s7 = .int .i64 (k : Nat) ∧ Below w.heap.size w wr)
      case atStart => exact ⟨0, by omega, rfl, hB⟩
      case round =>
        obtain ⟨wz, rfl⟩ : ∃ wz : World, wz = wr := ⟨_, rfl⟩
        obtain ⟨k, hkq, rfl, hB⟩ := hrel
        have hs := hB.size
        have hk0 : (0 : Int) ≤ (k : Int) := by omega
        cases gk with
        | zero =>
          obtain rfl : k = 9 := by omega
          go_wp2_with fail
          go_loopg [11] 64 (fun q s11 wr => ∃ k : Nat, k + q = 64 ∧ s11 = .int .i64 (k : Nat) ∧ Below w.heap.size w wr)
          case atStart => exact ⟨0, by omega, rfl, hB⟩
          case round =>
            obtain ⟨wy, rfl⟩ : ∃ wy : World, wy = wr := ⟨_, rfl⟩
            obtain ⟨k, hkq, rfl, hB⟩ := hrel
            have hs := hB.size
            have hk0 : (0 : Int) ≤ (k : Int) := by omega
            cases gk with
            | zero =>
              obtain rfl : k = 64 := by omega
              have n1 := nil_number wy _ rfl
              go_wp2_with fail
              refine n1.mono ?_
              rintro e w1 ⟨rfl, hb1⟩
              have hB1 := hB.trans (hb1.mono hs)
              have n2 := nil_fixed w1
              clear n1 hb1 hB
              go_wp2_with fail
              refine n2.mono ?_
              rintro e w2 ⟨rfl, hb2⟩
              have hB2 := hB1.trans (hb2.mono hB1.size)
              have kc := fun (w : World) (C : Array Value) (n c : Nat) => Lib.run_convert_bytes_const (P := Try.prog) w 25 5 C n c Try.underlying25 Try.underlying5
              have n3 := nil_text ((w2.alloc (.cells #[.int .u8 97] 5 (1, 2))).alloc (.cells #[.slice (some ⟨w2.heap.size, 0, none⟩) 1 1] 25)) (w2.heap.size + 1) w2.heap.size (cell_at1 (by simp)) ((bl_mark w2 [97] (by decide) _ _ rfl _ rfl).below (below_alloc _ _))
              clear n2 hb2 hB1
              go_wp2_with fail
              refine n3.mono ?_
              rintro e w3 ⟨rfl, hb3⟩
              have hB3 := ((hB2.alloc hB2.size (.cells #[.int .u8 97] 5 (1, 2))).alloc (Nat.le_trans hB2.size (by simp)) (.cells #[.slice (some ⟨w2.heap.size, 0, none⟩) 1 1] 25)).trans (hb3.mono (Nat.le_trans hB2.size (by simp; omega)))
              have n4 := nil_rising w3 _ rfl
              clear n3 hb3 hB2 kc
              go_wp2_with fail
              refine n4.mono ?_
              rintro e w4 ⟨rfl, hb4⟩
              have hB4 := hB3.trans (hb4.mono hB3.size)
              have m1 := bytes_nil w4
              have m2 := nil_getnum w4
              have m3 := nil_getfix w4
              clear n4 hb4 hB3
              go_wp2_with fail
              refine m1.mono ?_
              rintro e w5 ⟨rfl, rfl⟩
              clear m1
              go_wp2_with fail
              refine m2.mono ?_
              rintro e w5 ⟨rfl, rfl⟩
              clear m2
              go_wp2_with fail
              refine m3.mono ?_
              rintro e w5 ⟨rfl, hb5⟩
              have hB5 := hB4.trans (hb5.mono hB4.size)
              have m4 := nil_gettext w5
              clear m3 hb5 hB4
              go_wp2_with fail
              refine m4.mono ?_
              rintro e w6 ⟨A6, C6, rfl, hb6⟩
              have hB6 := hB5.trans (hb6.mono hB5.size)
              have m5 := nil_getrising w6
              clear m4 hb6 hB5
              go_wp2_with fail
              refine m5.mono ?_
              rintro e w7 ⟨A7, C7, rfl, hb7⟩
              have hB7 := hB6.trans (hb7.mono hB6.size)
              have m6 := nil_left w7
              have m7 := nil_ok w7
              have m8 := awake_any w7
              clear m5 hb7 hB6
              go_wp2_with fail
              refine m6.mono ?_
              rintro e w8 ⟨rfl, rfl⟩
              clear m6
              go_wp2_with fail
              refine m7.mono ?_
              rintro e w8 ⟨rfl, rfl⟩
              clear m7
              go_wp2_with fail
              refine m8.mono ?_
              rintro e w8 ⟨rfl, hb8⟩
              clear m8
              go_wp2_with fail
              go_ret
              exact ⟨rfl, hB7.trans (hb8.mono hB7.size)⟩
            | succ q =>
              have hkz : (k : Int) < 64 := by omega
              obtain ⟨h, hh⟩ : ∃ h : Nat, (k : Int) % 4 = (h : Int) := ⟨k % 4, by omega⟩
              obtain ⟨a, ha⟩ : ∃ a : Int, (k : Int) / 4 % 4 = a := ⟨_, rfl⟩
              obtain ⟨b, hb⟩ : ∃ b : Int, (k : Int) / 16 = b := ⟨_, rfl⟩
              have hh3 : (h : Int) ≤ 3 := by omega
              have hh0 : (0 : Int) ≤ (h : Int) := by omega
              have hd := does_row (h : Int) a b h (by omega) wy _ _ rfl rfl (wf64 (by omega) (by omega)) (wf64 (by omega) (by omega)) (wf64 (by omega) (by omega)) _ _ rfl rfl
              go_wp2_with fail
              refine hd.mono ?_
              rintro e w1 ⟨A, m, C, rfl, hb1⟩
              clear hd
              go_wp2_with fail
              go_roundg q
              case measure => omega
              case rel => exact ⟨k + 1, by omega, by go_num, hB.trans (hb1.mono hs)⟩
        | succ q =>
          have hkz : (k : Int) < 9 := by omega
          have hk8 : (k : Int) ≤ 20 := by omega
          go_wp2_with (first
            | (at_make; go_must (refine wpList_make_own _ rfl (.const (.int .i64 0)) (.const (.int .i64 20)) 25 rfl wz.heap.size 5 i0 (.int .u8 0) 1 Try.underlying25 hi hq0 hq1 .i64 .i64 _ 20 rfl rfl (by simp) (by rw [hq2]; omega) (by unfold maxLen; omega) (Nat.le_refl _) ?_); intro w1 hown1 hg1; have hb1 := below_grown hg1)
            | (at_builtin; go_must (refine wpList_append_fits _ rfl (.tmp 112) (.tmp 113) 25 rfl wz.heap.size 5 i0 1 Try.underlying25 hi hq1 wz.heap.size 0 20 [] rfl (hown1.alloc _) ⟨w1.heap.size, 0, none⟩ 8 8 (lc [128, 128, 128, 128, 128, 128, 128, 128]) rfl rfl ((bl_new w1 _ H8 _ rfl _ rfl).news _ rfl) (lc_one _) (by omega) ?_); intro w2 hown2 hg2))
          have hb12 : Below wz.heap.size wz w2 := (hb1.alloc hb1.size _).grown hg2 (Nat.le_trans hb1.size (by simp)) (fun k e => by cases e; exact Nat.le_refl _)
          have hB2 : Below w.heap.size w w2 := hB.trans (hb12.mono hs)
          have hs2 := hB2.size
          have hsz := hb12.size
          have hbs0 : Bs w2 (some ⟨wz.heap.size, 0, none⟩) 8 20 [128, 128, 128, 128, 128, 128, 128, 128] := by
            obtain ⟨_, A, C, e, _, _, _, _, hbl, hf⟩ := owns_bl (L := [128, 128, 128, 128, 128, 128, 128, 128]) (by simpa using hown2) H8
            cases e
            exact ⟨rfl, by omega, by omega, by omega, (fun h => by cases h), .inr ⟨_, _, rfl⟩, fun h o s e => (hf h o s e).2.2.2, hbl⟩
          have HBS := hide hbs0
          clear hown1 hown2 hg1 hg2 hb1 hb12 hbs0
          go_loopg [9] 4 (fun p s9 wx => ∃ j : Nat, j + p = 4 ∧ s9 = .int .i64 (j : Nat) ∧ Below w2.heap.size w2 wx)
          case atStart => exact ⟨0, by omega, rfl, Below.refl _ _⟩
          case round =>
            obtain ⟨wy, rfl⟩ : ∃ wy : World, wy = wr := ⟨_, rfl⟩
            obtain ⟨j, hjp, rfl, hBy⟩ := hrel
            have hj0 : (0 : Int) ≤ (j : Int) := by omega
            cases gk with
            | zero =>
              obtain rfl : j = 4 := by omega
              go_wp2_with fail
              go_roundg q
              case measure => omega
              case rel => exact ⟨k + 1, by omega, by go_num, hB2.trans (hBy.mono hs2)⟩
            | succ p =>
              have hjz : (j : Int) < 4 := by omega
              have hsy := hBy.size
              have hbs := HBS.out.below hBy
              go_upto_region 23 with fail
              go_cut [10] (fun s wx => ∃ A m C L, s = .slice A m C ∧ Bs wx A m C L ∧ Below wy.heap.size wy wx)
              case first =>
                have hbk := hbs.bl.take k
                refine region23_lit wz.heap.size k j (List.take k [128, 128, 128, 128, 128, 128, 128, 128]) _ _ wy 229 rfl (by decide) rfl rfl (by omega) (by omega) (by rw [List.length_take]; simp; omega) hbk ?_
                intro vs w' A m C L hv10 hbs' hb'
                clear hbk hbs
                simp only [List.foldl_cons, List.foldl_nil, List.setIfInBounds_toArray, List.set_cons_succ, List.set_cons_zero, hv10]
                clear hv10
                generalize vs 121 = v121
                generalize vs 122 = v122
                generalize vs 123 = v123
                generalize vs 124 = v124
                generalize vs 125 = v125
                generalize vs 126 = v126
                generalize vs 127 = v127
                generalize vs 128 = v128
                generalize vs 129 = v129
                clear vs
                go_wp2_with fail
                go_meet
                exact ⟨A, m, C, L, rfl, hbs', hb'⟩
              case rest =>
                obtain ⟨A, m, C, L, rfl, hbs1, hb1⟩ := hcut
                have hg1 := gets_lit A m C L [(0, 1152921504606846976, 0), (0, 9, 0)] _ wc _ 2 hbs1 rfl rfl rfl (by omega) (by simp only [TrWf, and_true]; omega)
                have hB1 : Below w2.heap.size w2 wc := hBy.trans (hb1.mono hsy)
                clear hb1 hbs
                go_wp2_with fail
                refine hg1.mono ?_
                rintro e w3 ⟨rfl, hb3⟩
                have hB3 := hB1.trans (hb3.mono hB1.size)
                have hbs3 := hbs1.below hb3
                have hg3 := gets_lit A m C L [(2, 300, 0), (0, 0, 0)] _ w3 _ 2 hbs3 rfl rfl rfl (by omega) (by simp only [TrWf, and_true]; omega)
                clear hg1 hbs1 hb3 hB1
                go_wp2_with fail
                refine hg3.mono ?_
                rintro e w4 ⟨rfl, hb4⟩
                have hB4 := hB3.trans (hb4.mono hB3.size)
                have hbs4 := hbs3.below hb4
                have hg4 := gets_lit A m C L [(3, 1152921504606846976, 1152921504606846976), (0, 0, 0)] _ w4 _ 2 hbs4 rfl rfl rfl (by omega) (by simp only [TrWf, and_true]; omega)
                clear hg3 hbs3 hb4 hB3
                go_wp2_with fail
                refine hg4.mono ?_
                rintro e w5 ⟨rfl, hb5⟩
                have hB5 := hB4.trans (hb5.mono hB4.size)
                clear hg4 hbs4 hb5 hB4
                go_wp2_with fail
                go_roundg p
                case measure => omega
                case rel => exact ⟨j + 1, by omega, by go_num, hB5⟩
    | succ q =>
      have hkz : (k : Int) < 44 := by omega
      obtain ⟨P, hP⟩ : ∃ P : Nat, 2 ^ k = P := ⟨_, rfl⟩
      have hP1 : 1 ≤ P := by rw [← hP]; exact Nat.one_le_two_pow
      have hP2 : P ≤ 17592186044416 := by rw [← hP]; exact Nat.pow_le_pow_right (show 0 < 2 by omega) (show k ≤ 44 by omega)
      have hw : wrap64 (2 ^ k) = (P : Int) := by
        have hc : (2 : Int) ^ k = (P : Int) := by rw [← hP]; simp
        rw [hc]
        exact w64 _ (by omega) (by omega)
      clear hP
      go_wp2_with fail
      go_loopg [2] 5 (fun p s2 wx => ∃ j : Nat, j + p = 5 ∧ s2 = .int .i64 ((j : Int) - 2) ∧ Below w.heap.size w wx)
      case atStart => exact ⟨0, by omega, rfl, hB⟩
      case round =>
        obtain ⟨j, hjq, rfl, hBr⟩ := hrel
        have hsr := hBr.size
        cases gk with
        | zero =>
          obtain rfl : j = 5 := by omega
          go_wp2_with fail
          go_roundg q
          case measure => omega
          case rel => exact ⟨k + 1, by omega, by go_num, hBr⟩
        | succ p =>
          have hjz : (j : Int) - 2 < 3 := by omega
          clear hB hs
          have hj1 : (-2 : Int) ≤ (j : Int) - 2 ∧ (j : Int) - 2 ≤ 2 := by omega
          go_upto_region 8 with fail
          simp only [hw]
          generalize hx : (P : Int) + ((j : Int) - 2) = x at *
          have hx1 : -2 ≤ x ∧ x ≤ 17592186044420 := by omega
          have h1 : (Lit.int .i64 (x - 1)).wf = true := wf64 (by omega) (by omega)
          have h2 : (Lit.int .i64 x).wf = true := wf64 (by omega) (by omega)
          have h3 : (Lit.int .i64 (x + P)).wf = true := wf64 (by omega) (by omega)
          have hd := does_three x P wr _ _ rfl rfl h1 h2 h3 _ _ rfl rfl
          have w1 : wrap64 (x - 1) = x - 1 := w64 _ (by omega) (by omega)
          have w2 : wrap64 (x + (P : Int)) = x + (P : Int) := w64 _ (by omega) (by omega)
          have w3 : wrap64 (x + 1) = x + 1 := w64 _ (by omega) (by omega)
          clear hx
          go_wp2_with fail
          refine hd.mono ?_
          rintro e w1 ⟨A, m, C, L, rfl, hbs, hb1⟩
          have hB1 : Below w.heap.size w w1 := hBr.trans (hb1.mono hsr)
          have hg1 := gets_lit A m C L [(0, x, 0), (3, x + (P : Int), 3), (1, 0, 0)] _ w1 _ 3 hbs rfl rfl rfl (by omega) (by simp only [TrWf, and_true]; omega)
          clear hd hb1
          go_wp2_with fail
          refine hg1.mono ?_
          rintro e w2 ⟨rfl, hb2⟩
          have hB2 : Below w.heap.size w w2 := hB1.trans (hb2.mono hB1.size)
          have hbs2 := hbs.below hb2
          have hg2 := gets_lit A m C L [(0, x - 1, 0)] _ w2 _ 1 hbs2 rfl rfl rfl (by omega) (by simp only [TrWf, and_true]; omega)
          clear hg1 hbs hb2 hB1
          go_wp2_with fail
          refine hg2.mono ?_
          rintro e w3 ⟨rfl, hb3⟩
          have hB3 : Below w.heap.size w w3 := hB2.trans (hb3.mono hB2.size)
          have hbs3 := hbs2.below hb3
          have hg3 := gets_lit A m C L [(0, x + 1, 0), (3, x, 3)] _ w3 _ 2 hbs3 rfl rfl rfl (by omega) (by simp only [TrWf, and_true]; omega)
          clear hg2 hbs2 hb3 hB2
          go_wp2_with fail
          refine hg3.mono ?_
          rintro e w4 ⟨rfl, hb4⟩
          have hB4 : Below w.heap.size w w4 := hB3.trans (hb4.mono hB3.size)
          have hbs4 := hbs3.below hb4
          have hg4 := gets_lit A m C L [(0, x, 0), (3, 1125899906842624, 2)] _ w4 _ 2 hbs4 rfl rfl rfl (by omega) (by simp only [TrWf, and_true]; omega)
          clear hg3 hbs3 hb4 hB3
          go_wp2_with fail
          refine hg4.mono ?_
          rintro e w5 ⟨rfl, hb5⟩
          have hB5 : Below w.heap.size w w5 := hB4.trans (hb5.mono hB4.size)
          have hbs5 := hbs4.below hb5
          have hs5 := hB5.size
          clear hg4 hbs4 hb5 hB4
          have hmm := hbs5.small
          have hmc := hbs5.cap
          have hmx := hbs5.max
          have HBS := hide hbs5
          clear hbs5
          go_wp2_with fail
          go_loopg [6] m (fun r s6 wy => ∃ c : Nat, c + r = m ∧ s6 = .int .i64 (c : Nat) ∧ Below w5.heap.size w5 wy)
          case atStart => exact ⟨0, by omega, rfl, Below.refl _ _⟩
          case round =>
            obtain ⟨c, hcr, rfl, hBy⟩ := hrel
            have hc0 : (0 : Int) ≤ (c : Int) := by omega
            cases gk with
            | zero =>
              obtain rfl : c = m := by omega
              have hcz : ¬ ((c : Int) < (c : Int)) := by omega
              go_wp2_with fail
              go_roundg p
              case measure => omega
              case rel => exact ⟨j + 1, by omega, by go_num, hB5.trans (hBy.mono hs5)⟩
            | succ r =>
              have hcz : (c : Int) < (m : Int) := by omega
              have hsy := hBy.size
              obtain ⟨A1, hsl, hbs1⟩ := slice_head A c m C L wr (HBS.out.below hBy) (by omega)
              have hg5 := gets_lit A1 c C (L.take c) [(0, 2199023255552, 0), (3, 1125899906842624, 9), (1, 0, 0), (0, 0, 0)] _ wr _ 4 hbs1 rfl rfl rfl (by omega) (by simp only [TrWf, and_true]; omega)
              clear hbs1
              go_wp2_with fail
              refine hg5.mono ?_
              rintro e w6 ⟨rfl, hb6⟩
              clear hg5
              go_wp2_with fail
              go_roundg r
              case measure => omega
              case rel => exact ⟨c + 1, by omega, by go_num, hBy.trans (hb6.mono hsy)⟩
end Go.Proofs.Ytpnphijfdcimlaa
