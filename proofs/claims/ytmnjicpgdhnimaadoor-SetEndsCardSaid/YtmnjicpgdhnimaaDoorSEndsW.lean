/-
  SetEnds's walk.
-/
import Derived.Test.YtmnjicpgdhnimaaDoorSEndsS
namespace Go.Proofs.YtmnjicpgdhnimaaDoor
open Go.RowKit Go.Shelf

attribute [local go_sem] Oper.semAt_some

/-- The bytes at the ends. -/
def endsB (i : Nat) : Nat := ([0, 1, 62, 63, 64, 65, 89, 90, 91, 96, 97, 98, 122, 123, 127, 128, 129, 191, 192, 193, 254, 255] : List Nat).getD i 0
theorem endsB_lt (i : Nat) : endsB i < 256 := by
  unfold endsB
  by_cases h : i < 22
  · have key : ∀ j, j < 22 → ([0, 1, 62, 63, 64, 65, 89, 90, 91, 96, 97, 98, 122, 123, 127, 128, 129, 191, 192, 193, 254, 255] : List Nat).getD j 0 < 256 := by decide
    exact key i h
  · rw [List.getD_eq_getElem?_getD, List.getElem?_eq_none (by simp; omega)]
    decide

theorem bytOne (w : World) (g : Nat) (hg : g = w.heap.size) (x : Nat) (hx : x < 256) : Byt (w.alloc (.cells #[.int .u8 (x : Nat)] 5)) (some ⟨g, 0, none⟩) 1 (fun _ => x) := by
  subst hg
  refine ⟨fun _ => hx, .inr ⟨_, _, rfl, fun i hi => ?_⟩⟩
  obtain rfl : i = 0 := by omega
  rw [cell_of_row _ _ _ _ _ _ (World.alloc_heap_new w _)]
  rfl
theorem bytTwo (w : World) (g : Nat) (hg : g = w.heap.size) (x y : Nat) (hx : x < 256) (hy : y < 256) : Byt (w.alloc (.cells #[.int .u8 (x : Nat), .int .u8 (y : Nat)] 5)) (some ⟨g, 0, none⟩) 2 (fun i => if i = 0 then x else y) := by
  subst hg
  refine ⟨fun i => by show (if i = 0 then x else y) < 256; split <;> assumption, .inr ⟨_, _, rfl, fun i hi => ?_⟩⟩
  rw [cell_of_row _ _ _ _ _ _ (World.alloc_heap_new w _), Nat.zero_add]
  match i, hi with
  | 0, _ => rfl
  | 1, _ => rfl

set_option maxRecDepth 100000 in
set_option maxHeartbeats 4000000 in
theorem setEnds_any (w : World) (hT : Tab w) :
    Calls Tryd.prog 5 #[] w fun e w' => e = .returned (.bool true) ∧ Below w.heap.size w w' := by
  have HT := hide hT
  clear hT
  go_enter Tryd.func5, Tryd.ntmps5
  go_wp2_with fail
  obtain ⟨W1, hW1⟩ : ∃ W1, w.alloc (.cells #[.int .u8 0, .int .u8 1, .int .u8 62, .int .u8 63, .int .u8 64, .int .u8 65, .int .u8 89, .int .u8 90, .int .u8 91, .int .u8 96, .int .u8 97, .int .u8 98, .int .u8 122, .int .u8 123, .int .u8 127, .int .u8 128, .int .u8 129, .int .u8 191, .int .u8 192, .int .u8 193, .int .u8 254, .int .u8 255] 5) = W1 := ⟨_, rfl⟩
  have hE : Blk W1 w.heap.size 22 endsB := by
    rw [← hW1]
    refine ⟨endsB_lt, _, heap_alloc_new _ _, fun i hi => ?_⟩
    match i, hi with
    | 0, _ | 1, _ | 2, _ | 3, _ | 4, _ | 5, _ | 6, _ | 7, _ | 8, _ | 9, _ | 10, _ | 11, _ | 12, _ | 13, _ | 14, _ | 15, _ | 16, _ | 17, _ | 18, _ | 19, _ | 20, _ | 21, _ => rfl
    | n + 22, h => exact absurd h (by omega)
  have hB1 : Below w.heap.size w W1 := by rw [← hW1]; exact below_alloc _ _
  have H1 := hide (And.intro hB1 hE)
  rw [hW1]
  clear hB1 hE hW1
  go_loopg [2, 3, 4, 5] 22 (fun q s2 _ _ _ wr => ∃ i : Nat, i + q = 22 ∧ s2 = .int .i64 i ∧ Below W1.heap.size W1 wr)
  case atStart => exact ⟨0, by omega, rfl, Below.refl _ _⟩
  case round =>
    obtain ⟨i, hiq, rfl, hbr⟩ := hrel
    have HI := hide hbr
    clear hbr
    cases gk with
    | succ g =>
      have hi1 : (i : Int) < 22 := by omega
      have hil : i < 22 := by omega
      go_wp2_with fail
      go_loopg [3, 4, 5] 22 (fun q s3 _ _ wr => ∃ k : Nat, k + q = 22 ∧ s3 = .int .i64 k ∧ Below W1.heap.size W1 wr)
      case atStart => exact ⟨0, by omega, rfl, HI.out⟩
      case round =>
        obtain ⟨k, hkq, rfl, hbq⟩ := hrel
        have HK := hide hbq
        clear hbq
        cases gk with
        | succ q =>
          have hk1 : (k : Int) < 22 := by omega
          have hkl : k < 22 := by omega
          obtain ⟨r, hr⟩ : ∃ r, (i + k) % 22 = r := ⟨_, rfl⟩
          have hrl : r < 22 := by omega
          have HR := hide hr
          have hcx := hide (fun W (h : Below wr.heap.size wr W) => cell_thru (H1.out.2.cell hil) (HK.out.trans (h.mono HK.out.size)))
          have hcy := hide (fun W (h : Below wr.heap.size wr W) => cell_thru (H1.out.2.cell hkl) (HK.out.trans (h.mono HK.out.size)))
          have hcu := hide (fun W (h : Below wr.heap.size wr W) => cell_thru (H1.out.2.cell hrl) (HK.out.trans (h.mono HK.out.size)))
          have hh := hide (And.intro hil (And.intro hkl (And.intro hrl (And.intro (endsB_lt i) (And.intro (endsB_lt k) (endsB_lt r))))))
          clear hr
          go_wp2_with fail
          refine (wpIn_wide (n := 0)).1 (sen8 wide_plain w.heap.size i k r (endsB i) (endsB k) (endsB r) wr.heap.size _ _ _ _ rfl rfl rfl rfl hh hcx.out hcy.out hcu.out rfl ?_)
          intro vs w2 hb2 h28 h4
          obtain ⟨g4, e4, s4, l4⟩ := h4
          simp only [List.foldl_cons, List.foldl_nil, List.setIfInBounds_toArray, List.set_cons_succ, List.set_cons_zero]
          rw [h28, e4]
          refine op_store_row wide_plain (o := sen8_ops[10]) rfl rfl 24 (.tmp 4) (.tmp 28) rfl g4 (st (rng (endsB i) (endsB k))) rfl rfl 24 (st nobs) s4 (sizeSet _) rfl (st_one _) ?_
          have hw2 := HK.out.trans (hb2.mono HK.out.size)
          have t4 := s4.row (rng (endsB i) (endsB k))
          have hsz := HK.out.size
          have hb3 : Below wr.heap.size wr (w2.setRow g4 (st (rng (endsB i) (endsB k)))) := below_row hb2 (show wr.heap.size ≤ g4 from l4) (st (rng (endsB i) (endsB k)))
          have H3 := hide (And.intro hb3 t4)
          clear s4 t4 hb3 hw2 hb2 h28 e4 l4
          revert H3
          generalize w2.setRow g4 (st (rng (endsB i) (endsB k))) = W3
          intro H3
          simp only [sen8_ops]
          go_wp2_with fail
          refine (wpIn_wide (n := 0)).1 (sen9 wide_plain w.heap.size i k r (endsB i) (endsB k) (endsB r) W3.heap.size _ _ _ _ rfl rfl rfl rfl hh (fun W h => hcx.out W (H3.out.1.trans (h.mono H3.out.1.size))) (fun W h => hcy.out W (H3.out.1.trans (h.mono H3.out.1.size))) (fun W h => hcu.out W (H3.out.1.trans (h.mono H3.out.1.size))) HR rfl ?_)
          intro vs2 w4 hb4 h42 h5
          obtain ⟨g5, e5, s5, l5⟩ := h5
          simp only [List.foldl_cons, List.foldl_nil, List.setIfInBounds_toArray, List.set_cons_succ, List.set_cons_zero]
          rw [h42, e5]
          have s4b := H3.out.2.below hb4 H3.out.2.lt
          have hne : g4 ≠ g5 := by have := H3.out.2.lt; omega
          refine op_store_row wide_plain (o := sen9_ops[15]) rfl rfl 24 (.tmp 5) (.tmp 42) rfl g5 (st (rng (endsB k) (endsB r))) rfl rfl 24 (st nobs) s5 (sizeSet _) rfl (st_one _) ?_
          have t5 := s5.row (rng (endsB k) (endsB r))
          have t4 := s4b.row_other g5 (st (rng (endsB k) (endsB r))) hne
          have hb5 : Below wr.heap.size wr (w4.setRow g5 (st (rng (endsB k) (endsB r)))) := H3.out.1.trans ((below_row hb4 (show W3.heap.size ≤ g5 from l5) (st (rng (endsB k) (endsB r)))).mono H3.out.1.size)
          have H5 := hide (And.intro hb5 (And.intro t4 t5))
          clear s5 t4 t5 s4b hb5 hb4 h42 e5 l5 hne hsz
          revert H5
          generalize w4.setRow g5 (st (rng (endsB k) (endsB r))) = W5
          intro H5
          simp only [sen9_ops]
          go_wp2_with fail
          refine (wpIn_wide (n := 0)).1 (sen10 wide_plain w.heap.size i k r (endsB i) (endsB k) (endsB r) g4 g5 (rng (endsB i) (endsB k)) (rng (endsB k) (endsB r)) _ _ _ _ rfl rfl rfl rfl rfl rfl hh (fun W h => hcx.out W (H5.out.1.trans (h.mono H5.out.1.size))) (fun W h => hcy.out W (H5.out.1.trans (h.mono H5.out.1.size))) (fun W h => hcu.out W (H5.out.1.trans (h.mono H5.out.1.size))) H5.out.2.1 H5.out.2.2 (HT.out.below (H1.out.1.trans ((HK.out.trans (H5.out.1.mono HK.out.size)).mono H1.out.1.size))) ?_)
          intro vs3 w6 hb6 h87
          simp only [List.foldl_cons, List.foldl_nil, List.setIfInBounds_toArray, List.set_cons_succ, List.set_cons_zero]
          rw [h87]
          have H6 := hide (HK.out.trans ((H5.out.1.trans (hb6.mono H5.out.1.size)).mono HK.out.size))
          clear hb6 h87
          go_wp2_with fail
          go_roundg q
          case measure => omega
          case rel => exact ⟨k + 1, by omega, by go_num, H6.out⟩
        | zero =>
          obtain rfl : k = 22 := by omega
          go_wp2_with fail
          go_roundg g
          case measure => omega
          case rel => exact ⟨i + 1, by omega, by go_num, HK.out⟩
    | zero =>
      obtain rfl : i = 22 := by omega
      go_wp2_with fail
      go_loopg [6] 256 (fun q s6 wr => ∃ k : Nat, k + q = 256 ∧ s6 = .int .i64 k ∧ Below W1.heap.size W1 wr)
      case atStart => exact ⟨0, by omega, rfl, HI.out⟩
      case round =>
        obtain ⟨k, hkq, rfl, hbq⟩ := hrel
        have HK := hide (H1.out.1.trans (hbq.mono H1.out.1.size))
        have HK1 := hide hbq
        clear hbq
        cases gk with
        | succ q =>
          have hk1 : (k : Int) < 256 := by omega
          have hk8 : (k : Int) % 256 = (k : Int) := by omega
          have hk0 : (0 : Int) ≤ (k : Int) := by omega
          obtain ⟨c, hc⟩ : ∃ c : Nat, 255 - (k : Int) = (c : Int) := ⟨(255 - (k : Int)).toNat, by omega⟩
          have hc8 : (c : Int) % 256 = (c : Int) := by omega
          have hkl : k < 256 := by omega
          have hcl : c < 256 := by omega
          go_wp2_with fail
          have hb1 := below_alloc wr (.cells #[.int .u8 (k : Nat)] 5)
          refine (of_any (some ⟨wr.heap.size, 0, none⟩) 1 1 (fun _ => k) _ (by omega) (bytOne wr _ rfl k hkl)).mono ?_
          rintro e w2 ⟨rfl, hb2⟩
          have R2 := hide (hb1.trans (hb2.mono hb1.size))
          clear hb1 hb2
          go_wp2_with fail
          refine (one_any (inz (fun _ => k) 1) k w2 hkl (HT.out.below (HK.out.trans (R2.out.mono HK.out.size)))).mono ?_
          rintro e w3 ⟨rfl, hb3⟩
          have R3 := hide (R2.out.trans (hb3.mono R2.out.size))
          clear hb3
          go_wp2_with fail
          have hb4 := below_alloc w3 (.cells #[.int .u8 (k : Nat), .int .u8 (c : Nat)] 5)
          refine (of_any (some ⟨w3.heap.size, 0, none⟩) 2 2 (fun i => if i = 0 then k else c) _ (by omega) (bytTwo w3 _ rfl k c hkl hcl)).mono ?_
          rintro e w5 ⟨rfl, hb5⟩
          have R5 := hide (R3.out.trans ((hb4.trans (hb5.mono hb4.size)).mono R3.out.size))
          clear hb4 hb5
          go_wp2_with fail
          refine (one_any (inz (fun i => if i = 0 then k else c) 2) c w5 hcl (HT.out.below (HK.out.trans (R5.out.mono HK.out.size)))).mono ?_
          rintro e w6 ⟨rfl, hb6⟩
          have R6 := hide (HK1.out.trans ((R5.out.trans (hb6.mono R5.out.size)).mono HK1.out.size))
          clear hb6
          go_wp2_with fail
          go_roundg q
          case measure => omega
          case rel => exact ⟨k + 1, by omega, by go_num, R6.out⟩
        | zero =>
          obtain rfl : k = 256 := by omega
          go_wp2_with fail
          refine (setMakes_any none 0 0 (fun _ => 0) 255 0 none 0 0 (fun _ _ => false) wr (by omega) (fun _ => rfl) ⟨fun _ => by show 0 < 256; omega, .inl rfl⟩ (by omega) (by omega) (by omega) (fun _ => rfl) (by omega) (.inl rfl) (HT.out.below HK.out)).mono ?_
          rintro e w2 ⟨rfl, hb2⟩
          have R2 := hide (HK.out.trans (hb2.mono HK.out.size))
          clear hb2
          go_wp2_with fail
          have hz : Value.agg #[.int .u64 0, .int .u64 0, .int .u64 0, .int .u64 0] = sv nobs := by unfold sv; rw [st_nobs]
          rw [hz]
          refine (one_any nobs 0 w2 (by omega) (HT.out.below R2.out)).mono ?_
          rintro e w3 ⟨rfl, hb3⟩
          have R3 := hide (R2.out.trans (hb3.mono R2.out.size))
          clear hb3
          go_wp2_with fail
          refine (meet_any none 0 0 (fun _ _ => false) w3 (by omega) (.inl rfl) (HT.out.below R3.out)).mono ?_
          rintro e w4 ⟨rfl, hb4⟩
          have R4 := hide (R3.out.trans (hb4.mono R3.out.size))
          clear hb4
          go_wp2_with fail
          refine (one_any (allS (fun _ _ => false) 0) 255 w4 (by omega) (HT.out.below R4.out)).mono ?_
          rintro e w5 ⟨rfl, hb5⟩
          have R5 := hide (R4.out.trans (hb5.mono R4.out.size))
          clear hb5
          go_wp2_with fail
          refine (awake_any w5 (HT.out.below R5.out)).mono ?_
          rintro e w6 ⟨rfl, hb6⟩
          have R6 := hide (R5.out.trans (hb6.mono R5.out.size))
          clear hb6
          go_wp2_with fail
          go_ret
          exact ⟨rfl, R6.out⟩
end Go.Proofs.YtmnjicpgdhnimaaDoor
