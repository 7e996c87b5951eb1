/-
  GramSmall's walk.
-/
import Derived.Test.YtpdlapnliiengaaGreatGTellsW
import Derived.Test.YtpdlapnliiengaaGreatGSmallR
import Derived.Deep.DeepCutAuto
namespace Go.Proofs.YtpdlapnliiengaaGreat
open Go.RowKit

/-- How often a number is halved until it is 1 or less. -/
def hv (k : Nat) : Nat := if h : k ≤ 1 then 0 else hv (k / 2) + 1
termination_by k
decreasing_by omega
theorem hv_pos {k : Nat} (h : 1 < k) : hv k = hv (k / 2) + 1 := by rw [hv]; simp [show ¬ k ≤ 1 by omega]
theorem hv_eq0 {k : Nat} (h : hv k = 0) : k ≤ 1 := by
  rcases Nat.lt_or_ge 1 k with h0 | h0
  · rw [hv_pos h0] at h; omega
  · exact h0
theorem hv_one {k : Nat} (h : k ≤ 1) : hv k = 0 := by rw [hv]; simp [h]
/-- The two bytes; the five bytes. -/
def b2 (r : Nat) : Nat := ([97, 98] : List Nat).getD r 0
theorem b2_cell (w : World) (r : Nat) (hr : r < 2) : (w.alloc (.cells #[.int .u8 97, .int .u8 98] 5)).cell? ⟨w.heap.size, r, none⟩ = some (.int .u8 (b2 r : Nat)) := by
  rw [cell_of_row _ _ _ _ _ _ (heap_alloc_new _ _)]
  match r, hr with
  | 0, _ => rfl
  | 1, _ => rfl
theorem b2_lt (r : Nat) (hr : r < 2) : b2 r < 256 := by
  match r, hr with
  | 0, _ => decide
  | 1, _ => decide
def b5 (r : Nat) : Nat := ([0, 127, 128, 255, 10] : List Nat).getD r 0
theorem b5_cell {w : World} {G r : Nat} (h : w.heap[G]? = some (.cells #[.int .u8 0, .int .u8 127, .int .u8 128, .int .u8 255, .int .u8 10] 5 (0, 0))) (hr : r < 5) : w.cell? ⟨G, r, none⟩ = some (.int .u8 (b5 r : Nat)) := by
  rw [cell_of_row _ _ _ _ _ _ h]
  match r, hr with
  | 0, _ => rfl
  | 1, _ => rfl
  | 2, _ => rfl
  | 3, _ => rfl
  | 4, _ => rfl
theorem b5_lt (r : Nat) (hr : r < 5) : b5 r < 256 := by
  match r, hr with
  | 0, _ => decide
  | 1, _ => decide
  | 2, _ => decide
  | 3, _ => decide
  | 4, _ => decide
theorem str_size (L : List Nat) : (strOfNums (L.map fun x : Nat => (x : Int))).size = L.length := by
  simp [strOfNums, ByteArray.size]
theorem byt_four {w : World} {g c0 c1 c2 c3 : Nat} {fr : Nat × Nat} (h : w.heap[g]? = some (.cells #[.int .u8 (c0 : Nat), .int .u8 (c1 : Nat), .int .u8 (c2 : Nat), .int .u8 (c3 : Nat)] 5 fr)) (h0 : c0 < 256) (h1 : c1 < 256) (h2 : c2 < 256) (h3 : c3 < 256) :
    Byt w (some ⟨g, 0, none⟩) 4 (fun j => ([c0, c1, c2, c3] : List Nat).getD j 0) := by
  refine ⟨fun j => ?_, .inr ⟨g, 0, rfl, fun j hj => ?_⟩⟩
  · match j with
    | 0 => exact h0
    | 1 => exact h1
    | 2 => exact h2
    | 3 => exact h3
    | j + 4 => show (([c0, c1, c2, c3] : List Nat).getD (j + 4) 0) < 256; simp
  · rw [cell_of_row _ _ _ _ _ _ h]
    match j, hj with
    | 0, _ => rfl
    | 1, _ => rfl
    | 2, _ => rfl
    | 3, _ => rfl
theorem byt_zero (w : World) (n : Nat) : Byt (w.alloc (.cells (madeCells #[.int .u8 0] n) 5)) (some ⟨w.heap.size, 0, none⟩) n (fun _ => 0) := (made_blk w.heap.size n w rfl).byt

theorem mk_z (m : Nat) (w : World) (hm : m ≤ 1000) : ∃ w', (Instr.makeSlice 22 (.int .i64 (m : Nat)) (.int .i64 (m : Nat))).run Tryz.prog w = .ok (.slice (some ⟨w.heap.size, 0, none⟩) m m) w' ∧ Byt w' (some ⟨w.heap.size, 0, none⟩) m (fun _ => 0) ∧ Below w.heap.size w w' := by
  obtain ⟨i0, hi, hq0, hq1, hq2⟩ := info_parts info_u8
  have hr := run_make (P := Tryz.prog) w 22 5 i0 (.int .u8 0) Tryz.underlying22 hi hq0 .i64 .i64 (m : Nat) (m : Nat) (by omega) (by omega) (by rw [hq2]; omega) (by omega)
  rw [hq1] at hr
  simp only [Int.toNat_natCast, Nat.mul_one] at hr
  exact ⟨_, hr, byt_zero w m, below_alloc _ _⟩
set_option maxRecDepth 100000 in
set_option maxHeartbeats 8000000 in
theorem small_any (w : World) : Calls Tryz.prog 4 #[] w fun e w' => e = .returned (.bool true) ∧ Below w.heap.size w w' := by
  obtain ⟨i0, hi, hq0, hq1, hq2⟩ := info_parts info_u8
  go_enter Tryz.func4, Tryz.ntmps4
  go_wp2_with fail
  go_loopg [1, 2, 3, 4] 255 (fun q s1 s2 s3 s4 wr => ∃ n : Nat, n + q = 256 ∧ s1 = .int .i64 (n : Nat) ∧ Below w.heap.size w wr)
  case atStart => exact ⟨1, by omega, rfl, Below.refl _ _⟩
  case round =>
    obtain ⟨n, hnq, rfl, hB⟩ := hrel
    cases gk with
    | zero =>
      obtain rfl : n = 256 := by omega
      obtain ⟨W1, hW1⟩ : ∃ W1, wr.alloc (.cells #[.int .u8 0, .int .u8 127, .int .u8 128, .int .u8 255, .int .u8 10] 5) = W1 := ⟨_, rfl⟩
      have hb1 : Below wr.heap.size wr W1 := by rw [← hW1]; exact below_alloc _ _
      have hG1 : W1.heap[wr.heap.size]? = some (.cells #[.int .u8 0, .int .u8 127, .int .u8 128, .int .u8 255, .int .u8 10] 5 (0, 0)) := by rw [← hW1]; exact heap_alloc_new _ _
      obtain ⟨G, hG⟩ : ∃ G, wr.heap.size = G := ⟨_, rfl⟩
      have HB := hide (And.intro (hB.trans (hb1.mono hB.size)) hG1)
      rw [hG] at HB
      have HW := hide (And.intro hW1 hG)
      clear hB hb1 hG1 hW1 hG
      go_wp2_with fail
      rw [HW.out.1, HW.out.2]
      go_loopg [6, 7] 625 (fun q s6 s7 wx => ∃ n : Nat, n + q = 625 ∧ s6 = .int .i64 (n : Nat) ∧ Below w.heap.size w wx ∧ wx.heap[G]? = some (.cells #[.int .u8 0, .int .u8 127, .int .u8 128, .int .u8 255, .int .u8 10] 5 (0, 0)))
      case atStart => exact ⟨0, by omega, rfl, HB.out⟩
      case round =>
        obtain ⟨n, hnq, rfl, hB, hGx⟩ := hrel
        clear HB HW
        cases gk with
        | zero =>
          obtain rfl : n = 625 := by omega
          have HX := hide hB
          obtain ⟨W1, hmk, hz1, hB1⟩ := mk_z 1000 wr (by omega)
          have hmk' : (Instr.makeSlice 22 (.int .i64 1000) (.int .i64 1000)).run Tryz.prog wr = .ok (.slice (some ⟨wr.heap.size, 0, none⟩) 1000 1000) W1 := hmk
          have hte := tells_any (some ⟨wr.heap.size, 0, none⟩) 1000 1000 (fun _ => 0) 997 ⟨#[]⟩ W1 (fun e => by cases e) (Nat.le_refl _) hz1 (by omega) (by decide) (by omega)
          have hs0 := hB.size
          have HB1 := hide hB1
          clear hB hGx hmk hz1 hB1
          go_wp2_with fail
          refine hte.mono ?_
          rintro e w2 ⟨rfl, hB2⟩
          have hte2 := tells_any none 0 0 (fun _ => 0) (-9223372036854775808) ⟨#[97, 98]⟩ w2 (fun _ => rfl) (Nat.le_refl _) ⟨fun _ => (by show 0 < 256; decide), .inl rfl⟩ (by omega) (by decide) (by omega)
          have hBr2 : Below wr.heap.size wr w2 := HB1.out.trans (hB2.mono HB1.out.size)
          have HB2 := hide hBr2
          clear hte hB2 hBr2 hmk'
          go_wp2_with fail
          refine hte2.mono ?_
          rintro e w3 ⟨rfl, hB3⟩
          have hBr3 : Below wr.heap.size wr w3 := HB2.out.trans (hB3.mono HB2.out.size)
          have kc := fun (w : World) (C : Array Value) (n c : Nat) => Lib.run_convert_bytes_const (P := Tryz.prog) w 22 5 C n c Tryz.underlying22 Tryz.underlying5
          obtain ⟨W4, hW4⟩ : ∃ W4, w3.alloc (.cells #[.int .u8 97, .int .u8 98, .int .u8 99] 5 (3, 4)) = W4 := ⟨_, rfl⟩
          have hn4 : W4.heap[w3.heap.size]? = some (.cells #[.int .u8 97, .int .u8 98, .int .u8 99] 5 (3, 4)) := by rw [← hW4]; exact World.alloc_heap_new _ _
          have hB4 : Below w3.heap.size w3 W4 := by rw [← hW4]; exact below_alloc _ _
          have hz4 : Byt W4 (some ⟨w3.heap.size, 0, none⟩) 3 (fun j => ([97, 98, 99] : List Nat).getD j 0) := ⟨fun j => (by
            match j with
            | 0 => decide
            | 1 => decide
            | 2 => decide
            | j + 3 => show (([97, 98, 99] : List Nat).getD (j + 3) 0) < 256; simp), .inr ⟨_, _, rfl, fun j hj => by
            rw [cell_of_row _ _ _ _ _ _ hn4]
            match j, hj with
            | 0, _ => rfl
            | 1, _ => rfl
            | 2, _ => rfl⟩⟩
          have hte3 := tells_any (some ⟨w3.heap.size, 0, none⟩) 3 3 _ 9223372036854775807 ⟨#[97, 98, 99]⟩ W4 (fun e => by cases e) (Nat.le_refl _) hz4 (by omega) (by decide) (by omega)
          have hBr4 : Below wr.heap.size wr W4 := hBr3.trans (hB4.mono hBr3.size)
          have HB4 := hide hBr4
          have HW4 := hide hW4
          clear hte2 hB3 hBr3 hB4 hz4 hn4 hBr4 hW4 HB1 HB2
          go_wp2_with fail
          rw [HW4.out]
          refine hte3.mono ?_
          rintro e w5 ⟨rfl, hB5⟩
          have HB5 := hide (HB4.out.trans (hB5.mono HB4.out.size))
          clear hte3 hB5 kc
          go_wp2_with fail
          refine (awake_any w5).mono ?_
          rintro e w6 ⟨rfl, hB6⟩
          have HB6 := hide (HB5.out.trans (hB6.mono HB5.out.size))
          clear hB6
          go_wp2_with fail
          go_ret
          exact ⟨rfl, HX.out.trans (HB6.out.mono hs0)⟩
        | succ g =>
          have hnz : (n : Int) < 625 := by omega
          have hn0 : (0 : Int) ≤ (n : Int) := by omega
          have hn6 : n < 625 := by omega
          obtain ⟨r0, hr0⟩ : ∃ r, n % 5 = r := ⟨_, rfl⟩
          obtain ⟨q1, hq1'⟩ : ∃ r, n / 5 = r := ⟨_, rfl⟩
          obtain ⟨r1, hr1⟩ : ∃ r, q1 % 5 = r := ⟨_, rfl⟩
          obtain ⟨q2, hq2'⟩ : ∃ r, n / 25 = r := ⟨_, rfl⟩
          obtain ⟨r2, hr2⟩ : ∃ r, q2 % 5 = r := ⟨_, rfl⟩
          obtain ⟨q3, hq3'⟩ : ∃ r, n / 125 = r := ⟨_, rfl⟩
          obtain ⟨r4, hr4⟩ : ∃ r, n % 4 = r := ⟨_, rfl⟩
          have l0 : r0 < 5 := by omega
          have l1 : r1 < 5 := by omega
          have l2 : r2 < 5 := by omega
          have l3 : q3 < 5 := by omega
          have hm4 : Int.tmod (n : Int) 4 = (r4 : Int) := by rw [Int.tmod_eq_emod_of_nonneg (by omega)]; omega
          have hm42 : (n : Int) % 4 = (r4 : Int) := by omega
          have e0 := b5_cell hGx l0
          have e1 := b5_cell hGx l1
          have e2 := b5_cell hGx l2
          have e3 := b5_cell hGx l3
          have m0 := b5_lt r0 l0
          have m1 := b5_lt r1 l1
          have m2 := b5_lt r2 l2
          have m3 := b5_lt q3 l3
          generalize b5 r0 = c0 at *
          generalize b5 r1 = c1 at *
          generalize b5 r2 = c2 at *
          generalize b5 q3 = c3 at *
          have hr44 : r4 < 4 := by omega
          have HB := hide (And.intro hB hGx)
          have HN := hide hn6
          have H0 := hide hr0
          have H1 := hide hq1'
          have H2 := hide hr1
          have H3 := hide hq2'
          have H4 := hide hr2
          have H5 := hide hq3'
          have hBs := hB.size
          clear hB hGx hr0 hq1' hr1 hq2' hr2 hq3' hr4 hn6
          go_upto_region 18 with fail
          refine (wpIn_wide (n := 0)).1 (gsmR wide_plain G n r0 q1 r1 q2 r2 q3 c0 c1 c2 c3 _ _ _ wr rfl rfl rfl HN H0 H1 H2 H3 H4 H5 e0 e1 e2 e3 ?_)
          intro vs W hb h65
          obtain ⟨g4, h65, hg4⟩ := h65
          simp only [List.foldl_cons, List.foldl_nil, List.setIfInBounds_toArray, List.set_cons_succ, List.set_cons_zero]
          rw [h65]
          generalize vs 43 = z43
          generalize vs 44 = z44
          generalize vs 45 = z45
          generalize vs 46 = z46
          generalize vs 47 = z47
          generalize vs 48 = z48
          generalize vs 49 = z49
          generalize vs 50 = z50
          generalize vs 51 = z51
          generalize vs 52 = z52
          generalize vs 53 = z53
          generalize vs 54 = z54
          generalize vs 55 = z55
          generalize vs 56 = z56
          generalize vs 57 = z57
          generalize vs 58 = z58
          generalize vs 59 = z59
          generalize vs 60 = z60
          generalize vs 61 = z61
          generalize vs 62 = z62
          generalize vs 63 = z63
          generalize vs 64 = z64
          refine wpOpIn_plain (o := gsmR_o23) rfl rfl (oper_inK (fun _ => trivial) (fun K hK => ?_))
          rw [Oper.semAt_plain Fence.wide _ _ (by intro c h; cases h)]
          simp only [gsmR_o23]
          go_simp
          refine hK _ _ ?_
          clear hK K vs h65 e0 e1 e2 e3 H0 H1 H2 H3 H4 H5
          have hbt := byt_four hg4 m0 m1 m2 m3
          obtain ⟨A1, A2, _, hsl, _, hb3⟩ := slices_at (some ⟨g4, 0, none⟩) 4 1 4 _ W (by omega) (by omega) (.inr ⟨_, _, rfl⟩) hbt
          have hsl' : ∀ wx, (Instr.slice 22 (.slice (some ⟨g4, 0, none⟩) 4 4) (some (.int .i64 1)) none none).run Tryz.prog wx = .ok (.slice A2 3 3) wx := hsl
          have hcv := conv_byt (c := 3) (n := 3) hb3
          obtain ⟨zz, hzz⟩ : ∃ zz : Nat → Nat, (fun i => ([c0, c1, c2, c3] : List Nat).getD (1 + i) 0) = zz := ⟨_, rfl⟩
          rw [hzz] at hcv
          have hcv' : (convert 22 9 (.slice A2 3 3)).run Tryz.prog W = .ok (.string (strOfNums ((tx zz 3).map fun x : Nat => (x : Int)))) W := hcv
          have hss := str_size (tx zz 3)
          rw [tx_length] at hss
          generalize strOfNums ((tx zz 3).map fun x : Nat => (x : Int)) = S at hcv' hss
          have hte := tells_any (some ⟨g4, 0, none⟩) 4 4 _ (r4 : Int) S W (fun e => by cases e) (Nat.le_refl _) hbt (by omega) (by omega) (by omega)
          have HX := hide (And.intro hb hg4)
          clear hbt hsl hb3 hcv hss hb hg4 hzz
          go_wp2_with fail
          refine hte.mono ?_
          rintro e w2 ⟨rfl, hB2⟩
          have hbx : Below wr.heap.size wr w2 := HX.out.1.trans (hB2.mono HX.out.1.size)
          have HX2 := hide (And.intro (HB.out.1.trans (hbx.mono hBs)) ((hbx.block G (block_lt HB.out.2)).trans HB.out.2))
          clear hte hbx hB2 hcv' hsl'
          go_wp2_with fail
          go_roundg g
          case measure => omega
          case rel => exact ⟨n + 1, by omega, by go_num, HX2.out.1, HX2.out.2⟩
    | succ g =>
      have hnz : (n : Int) < 256 := by omega
      have hn0 : (0 : Int) ≤ (n : Int) := by omega
      have HB := hide hB
      clear hB
      go_wp2_with fail
      go_loopg [2, 3] (hv n) (fun q s2 s3 wx => ∃ (k : Nat) (L : List Nat) (A : Option Addr) (C : Nat), hv k = q ∧ s3 = .int .i64 (k : Nat) ∧ s2 = .slice A L.length C ∧ wx.ownsRow w.heap.size 5 1 (.slice A L.length C) L.length (lc L) ∧ (∀ b ∈ L, b < 256) ∧ L.length + k ≤ 256 ∧ Below w.heap.size w wx)
      case atStart => exact ⟨n, [], none, 0, rfl, rfl, rfl, World.ownsRow_nil _ _ _ _, (fun b hb => by cases hb), by simp; omega, HB.out⟩
      case round =>
        obtain ⟨k, L, A, C, hq, rfl, rfl, hown, hL, hLk, hBx⟩ := hrel
        clear HB
        cases gk with
        | zero =>
          have hk1 := hv_eq0 hq
          have hkz : ¬ ((1 : Int) < (k : Int)) := by omega
          obtain ⟨_, a', c', e', hac2, hac3, hac1, _, hbl, _⟩ := owns_bl hown hL
          simp only [Value.slice.injEq, true_and] at e'
          obtain ⟨rfl, rfl⟩ := e'
          have hac : (A = none → C = 0) ∧ L.length ≤ C := ⟨hac1, hac2⟩
          have HO := hide (And.intro hac (And.intro hbl hBx))
          have hll : L.length ≤ 256 := by omega
          obtain ⟨la, hla⟩ : ∃ la, L.length = la := ⟨_, rfl⟩
          rw [hla] at hll HO ⊢
          have HLA := hide hla
          clear hown hL hLk hBx hac hac1 hac2 hac3 hbl hq hla
          go_wp2_with fail
          go_loopg [4] (la + 3) (fun q s4 wx => ∃ (t : Nat) (x : Int), t + q = la + 3 ∧ x + 2 = (t : Int) ∧ s4 = .int .i64 x ∧ Below w.heap.size w wx ∧ BL wx A L)
          case atStart => exact ⟨0, -2, by omega, by omega, rfl, HO.out.2.2, HO.out.2.1⟩
          case round =>
            obtain ⟨t, x, htq, hx, rfl, hBx, hbl⟩ := hrel
            cases gk with
            | zero =>
              have hz1 : ¬ (x < (la : Int) + 1) := by omega
              have HBX := hide hBx
              have hx3 : -2 ≤ x ∧ x ≤ 300 := by omega
              clear hBx hbl hx htq HO
              go_wp2_with fail
              go_roundg g
              case measure => omega
              case rel => exact ⟨n + 1, by omega, by go_num, HBX.out⟩
            | succ g3 =>
              have hz1 : x < (la : Int) + 1 := by omega
              have hx3 : -2 ≤ x := by omega
              have hbt : Byt wr A la (fun i => L.getD i 0) := by
                have := hbl
                unfold BL at this
                rwa [HLA.out] at this
              have hcv := conv_byt (c := C) hbt
              have hcv' : (convert 22 9 (.slice A la C)).run Tryz.prog wr = .ok (.string (strOfNums ((tx (fun i => L.getD i 0) la).map fun x : Nat => (x : Int)))) wr := hcv
              have hss := str_size (tx (fun i => L.getD i 0) la)
              rw [tx_length] at hss
              generalize strOfNums ((tx (fun i => L.getD i 0) la).map fun x : Nat => (x : Int)) = S at hcv' hss
              have hte := tells_any A la C (fun i => L.getD i 0) x S wr HO.out.1.1 HO.out.1.2 hbt (by omega) (by omega) (by omega)
              have HX := hide (And.intro hBx hbl)
              clear hBx hbl hbt hcv hss HO
              go_wp2_with fail
              refine hte.mono ?_
              rintro e w2 ⟨rfl, hB2⟩
              obtain ⟨hBx, hbl⟩ := HX.out
              have HX2 := hide (And.intro (hBx.trans (hB2.mono hBx.size)) (hbl.below hB2))
              obtain ⟨x', hx'⟩ : ∃ x' : Int, x + 1 = x' := ⟨_, rfl⟩
              clear hte hBx hbl hB2 hcv' HX
              go_wp2_with fail
              go_roundg g3
              case measure => omega
              case rel => exact ⟨t + 1, x', by omega, by omega, by go_num, HX2.out.1, HX2.out.2⟩
        | succ g2 =>
          have hk0 : 1 < k := by
            rcases Nat.lt_or_ge 1 k with h | h
            · exact h
            · rw [hv_one h] at hq; omega
          have hk1 : (1 : Int) < (k : Int) := by omega
          have hdg : hv (k / 2) = g2 := by rw [hv_pos hk0] at hq; omega
          obtain ⟨r, hr⟩ : ∃ r, k % 2 = r := ⟨_, rfl⟩
          have hr4 : r < 2 := by omega
          have hmod : Int.tmod (k : Int) 2 = (r : Int) := by rw [Int.tmod_eq_emod_of_nonneg (by omega)]; omega
          have hmod2 : (k : Int) % 2 = (r : Int) := by omega
          obtain ⟨k2, hk2⟩ : ∃ k2, k / 2 = k2 := ⟨_, rfl⟩
          have hdiv : (k : Int) / 2 = (k2 : Int) := by omega
          have hc := b2_cell wr r hr4
          have hx := b2_lt r hr4
          have hLk2 : L.length + 1 + k2 ≤ 256 := by omega
          rw [hk2] at hdg
          have hk2b : (k2 : Int) ≤ 256 := by omega
          have hk20 : (0 : Int) ≤ (k2 : Int) := by omega
          have hll : L.length ≤ 255 := by omega
          generalize b2 r = x at hc hx
          have hbx := hBx.size
          have hrA := owns_thru (owns_thru hown (below_alloc wr (.cells #[.int .u8 97, .int .u8 98] 5))) (below_alloc _ (.cells #[.int .u8 (x : Nat)] 5))
          have hnew := cell_one_new (wr.alloc (.cells #[.int .u8 97, .int .u8 98] 5)) (.int .u8 (x : Nat)) 5
          rw [World.size_alloc] at hnew
          have HH := hide (And.intro hown (And.intro hL (And.intro hLk2 (And.intro hBx (And.intro hdg hx)))))
          clear hown hL hLk2 hBx hdg hq hk2 hr hLk hk0
          go_wp2_with (at_builtin; go_must (refine wpList_append_foot _ rfl (.tmp 17) (.tmp 23) 22 rfl 5 i0 (.int .u8 0) 1 Tryz.underlying22 hi hq0 hq1 hq2 rfl w.heap.size _ L.length (lc L) rfl hrA (some ⟨wr.heap.size + 1, 0, none⟩) 1 1 [.int .u8 (x : Nat)] rfl rfl (fun e => by cases e) (fun ad e => by cases e; exact hnew) (by simp [Value.oneCell']) (by unfold maxLen; omega) (by omega) (by simp; omega) ?_); intro A' C' w1 hown' hG')
          have hG2 : Grew ((wr.alloc (.cells #[.int .u8 97, .int .u8 98] 5)).alloc (.cells #[.int .u8 (x : Nat)] 5)) w1 (.slice A L.length C) (.slice A' (L.length + 1) C') := hG'
          have hb2 : Below w.heap.size ((wr.alloc (.cells #[.int .u8 97, .int .u8 98] 5)).alloc (.cells #[.int .u8 (x : Nat)] 5)) w1 := (hG2.kept (F := fun y => (Value.slice A L.length C).ownBlock = some y) (fun _ h => h)).below (fun y hy => (owns_cells HH.out.1 y hy).2.1) (by simp; omega)
          have hb3 : Below w.heap.size w w1 := (below_step (below_step HH.out.2.2.2.1 _) _).trans hb2
          clear hG' hG2 hb2
          go_roundg g2
          case measure => omega
          case rel =>
            obtain ⟨_, hL, hLk2, _, hdg, hx⟩ := HH.out
            refine ⟨k2, L ++ [x], A', C', hdg, by go_num, by rw [List.length_append]; rfl, ?_, fun b hb => ?_, by rw [List.length_append]; exact hLk2, hb3⟩
            · rw [List.length_append, lc_append]; exact hown'
            · rcases List.mem_append.1 hb with h | h
              · exact hL b h
              · simp only [List.mem_singleton] at h; rw [h]; exact hx
end Go.Proofs.YtpdlapnliiengaaGreat
