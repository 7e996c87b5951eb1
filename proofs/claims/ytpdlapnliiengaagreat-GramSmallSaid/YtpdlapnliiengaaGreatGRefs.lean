/-
  The reference's Places.
-/
import Derived.Test.YtpdlapnliiengaaGreatGRefM
import Derived.Test.YtpdlapnliiengaaGreatGRun
import Derived.Deep.CutBlock
import Derived.Deep.DeepCutAuto
import Derived.Deep.DeepMust
import Derived.Deep.LoopGhost
namespace Go.Proofs.YtpdlapnliiengaaGreat
open Go.RowKit Go.Shelf

/-- Grams as texts stand as their numbers do. -/
theorem gts_less {a b : Nat} (ha : Okg a) (hb : Okg b) : Op.bytesLess (gts a).toList (gts b).toList = decide (a < b) := by
  rw [Lib.toList_data, Lib.toList_data, gts_data, gts_data]
  unfold Okg at ha hb
  have ea : a = a / 65536 * 65536 + a / 256 % 256 * 256 + a % 256 := by have := Nat.div_div_eq_div_mul a 256 256; omega
  have eb : b = b / 65536 * 65536 + b / 256 % 256 * 256 + b % 256 := by have := Nat.div_div_eq_div_mul b 256 256; omega
  have a0 : a / 65536 < 256 := by omega
  have b0 : b / 65536 < 256 := by omega
  have a1 : a / 256 % 256 < 256 := Nat.mod_lt _ (by decide)
  have b1 : b / 256 % 256 < 256 := Nat.mod_lt _ (by decide)
  have a2 : a % 256 < 256 := Nat.mod_lt _ (by decide)
  have b2 : b % 256 < 256 := Nat.mod_lt _ (by decide)
  generalize a / 65536 = x0 at *
  generalize a / 256 % 256 = x1 at *
  generalize a % 256 = x2 at *
  generalize b / 65536 = y0 at *
  generalize b / 256 % 256 = y1 at *
  generalize b % 256 = y2 at *
  have eqq : ∀ x y : Nat, x < 256 → y < 256 → ((UInt8.ofNat x == UInt8.ofNat y) = decide (x = y)) := fun x y hx hy => by
    rw [Bool.eq_iff_iff, beq_iff_eq, decide_eq_true_eq]
    constructor
    · intro h
      have f := congrArg UInt8.toNat h
      rw [UInt8.toNat_ofNat', UInt8.toNat_ofNat'] at f
      omega
    · rintro rfl; rfl
  simp only [Op.bytesLess, u8_lt a0 b0, u8_lt a1 b1, u8_lt a2 b2, eqq _ _ a0 b0, eqq _ _ a1 b1, eqq _ _ a2 b2, Bool.and_false, Bool.or_false]
  rw [Bool.eq_iff_iff]
  simp only [Bool.or_eq_true, Bool.and_eq_true, decide_eq_true_eq]
  omega
theorem gts_inj {a b : Nat} (ha : Okg a) (hb : Okg b) (h : gts a = gts b) : a = b := by
  have h1 := gts_less ha hb
  have h2 := gts_less hb ha
  rw [h] at h1 h2
  rw [h1, decide_eq_decide] at h2
  omega
theorem gts_beq {a b : Nat} (ha : Okg a) (hb : Okg b) : ((gts a).toList == (gts b).toList) = decide (a = b) := by
  rw [Lib.toList_data, Lib.toList_data, Bool.eq_iff_iff, beq_iff_eq, decide_eq_true_eq]
  constructor
  · intro h
    exact gts_inj ha hb (ByteArray.ext (Array.toList_inj.1 h))
  · rintro rfl; rfl
theorem getD_mem {l : List Nat} {i : Nat} (h : i < l.length) : l.getD i 0 ∈ l := by
  rw [List.getD_eq_getElem?_getD, List.getElem?_eq_getElem h]
  exact List.getElem_mem h
theorem mem_take_lt {l : List Nat} {k x : Nat} (h : x ∈ l.take k) : ∃ j, j < k ∧ j < l.length ∧ l.getD j 0 = x := by
  obtain ⟨j, hj⟩ := List.mem_iff_getElem?.1 h
  have hl := (List.getElem?_eq_some_iff.1 hj).1
  rw [List.length_take] at hl
  rw [List.getElem?_take_of_lt (by omega)] at hj
  exact ⟨j, by omega, by omega, by rw [List.getD_eq_getElem?_getD, hj]; rfl⟩
theorem mem_drop_ge {l : List Nat} {k x : Nat} (h : x ∈ l.drop k) : ∃ j, k ≤ j ∧ j < l.length ∧ l.getD j 0 = x := by
  obtain ⟨j, hj⟩ := List.mem_iff_getElem?.1 h
  have hl := (List.getElem?_eq_some_iff.1 hj).1
  rw [List.length_drop] at hl
  rw [List.getElem?_drop] at hj
  exact ⟨k + j, by omega, by omega, by rw [List.getD_eq_getElem?_getD, hj]; rfl⟩
theorem asc_get {l : List Nat} (h : l.Pairwise (· < ·)) {i j : Nat} (hij : i < j) (hj : j < l.length) : l.getD i 0 < l.getD j 0 := by
  rw [List.getD_eq_getElem?_getD, List.getD_eq_getElem?_getD, List.getElem?_eq_getElem hj, List.getElem?_eq_getElem (show i < l.length by omega)]
  exact List.pairwise_iff_getElem.1 h i j (by omega) hj hij
/-- b[i:i+3] as a text. -/
theorem mid3 (a : Option Addr) (n cap i : Nat) (z : Nat → Nat) (w : World) (hi : i + 3 ≤ n) (hc : n ≤ cap) (hz : Byt w a n z) :
    ∃ A, (∀ wx, (Instr.slice 22 (.slice a n cap) (some (.int .i64 (i : Int))) (some (.int .i64 ((i : Int) + 3))) none).run Tryz.prog wx = .ok (.slice A 3 (cap - i)) wx) ∧ (convert 22 9 (.slice A 3 (cap - i))).run Tryz.prog w = .ok (.string (gts (gN z i))) w := by
  obtain ⟨A, hA, hB⟩ := mid_at a n cap i (i + 3) (by omega) hi hc
  have hcv := conv_byt (c := cap - i) (hB w z hz)
  rw [show tx (fun j => z (i + j)) (i + 3 - i) = gd (gN z i) from by rw [gd_gN hz.1]; rfl] at hcv
  rw [Nat.add_sub_cancel_left] at hcv
  refine ⟨A, fun wx => ?_, hcv⟩
  have h := hA wx
  rw [Nat.add_sub_cancel_left] at h
  rw [show ((i : Int) + 3) = ((i + 3 : Nat) : Int) by omega]
  exact h

theorem gset_zero (z : Nat → Nat) : gset z 0 = [] := List.eq_nil_of_length_eq_zero (Nat.le_zero.1 (gset_len z 0))
set_option maxRecDepth 100000 in
set_option maxHeartbeats 4000000 in
theorem refPlaces_any (a : Option Addr) (n cap : Nat) (z : Nat → Nat) (w : World) (hlen : n ≤ 1000000) (hcap : n ≤ cap) (hz : Byt w a n z) :
    Calls Tryz.prog 13 #[.slice a n cap] w fun e w' => ∃ v vf, e = .returned v ∧ PostR w' w.heap.size z (n - 2) v vf ∧ Below w.heap.size w w' := by
  obtain ⟨M, hM⟩ : ∃ M, n - 2 = M := ⟨_, rfl⟩
  rw [hM]
  have HZ := hide hz
  have hz0 := hz.1
  clear hz
  go_enter Tryz.func13, Tryz.ntmps13
  go_wp2_with fail
  go_loopg [3, 4, 5, 6, 7] M (fun q s3 s4 s5 s6 s7 wr => ∃ i : Nat, i + q = M ∧ s4 = .int .i64 (i : Nat) ∧ (∃ vf, PostM wr w.heap.size z i (gset z i) s3 vf) ∧ Below w.heap.size w wr)
  case atStart => exact ⟨0, by omega, rfl, ⟨fun _ => .slice none 0 0, by rw [gset_zero]; exact ⟨World.ownsRow_nil w _ _ 2, (fun g hg => by cases hg), (fun g hg => by cases hg)⟩⟩, Below.refl _ _⟩
  case round =>
    obtain ⟨i, hiq, rfl, ⟨vf, hP⟩, hB⟩ := hrel
    cases gk with
    | zero =>
      obtain rfl : i = M := by omega
      have hiz : ¬ ((i : Int) + 3 ≤ (n : Int)) := by omega
      have HH := hide (And.intro hP hB)
      clear hP hB
      go_wp2_with fail
      go_ret
      exact ⟨_, rfl, ⟨vf, ⟨HH.out.1.row, HH.out.1.places, HH.out.1.apart⟩⟩, HH.out.2⟩
    | succ q =>
      have hiz : ((i : Int) + 3 ≤ (n : Int)) := by omega
      have hi0 : (0 : Int) ≤ (i : Int) := by omega
      obtain ⟨A, hA, hcv⟩ := mid3 a n cap i z wr (by omega) hcap (HZ.out.below hB)
      have hNl := gset_len z i
      obtain ⟨a3, c3, h3⟩ := owns_slice hP.row
      obtain ⟨N, hN⟩ : ∃ N, (gset z i).length = N := ⟨_, rfl⟩
      rw [hN] at h3 hNl
      have HH := hide (And.intro hP hB)
      have H3 := hide h3
      clear hP hB
      subst h3
      have hok : ∀ j, j < N → Okg ((gset z i).getD j 0) := fun j hj => by
        obtain ⟨y, _, e⟩ := (gset_mem hz0 i _).1 (getD_mem (show j < (gset z i).length by omega))
        rw [← e]; exact gN_ok hz0 y
      have hg := gN_ok hz0 i
      have hget : ∀ k, k < N → ∃ g3, a3 = some ⟨g3, 0, none⟩ ∧ N ≤ c3 ∧ c3 ≤ 9223372036854775807 ∧ wr.cell? ⟨g3, k * 2, none⟩ = some (.string (gts ((gset z i).getD k 0))) := fun k hk => by
        have hrow := HH.out.1.row
        rw [hN] at hrow
        obtain ⟨g3, e, h1, h2, _, _⟩ := owns_addr hrow (by omega)
        subst e
        exact ⟨g3, rfl, h1, h2, (owns_at hrow (pocl_get _ vf k (by omega)).1).1⟩
      have HO := hide (And.intro hok (And.intro hg hget))
      clear hok hget hg
      go_upto_block 2 with fail
      go_cut [6] (fun s6 wx => wx = wr ∧ ∃ k : Nat, s6 = .int .i64 (k : Nat) ∧ k ≤ N ∧ (∀ j, j < k → (gset z i).getD j 0 < gN z i) ∧ (k < N → gN z i ≤ (gset z i).getD k 0))
      case first =>
        go_wp2_with fail
        go_loopg [6] N (fun q6 s6 wx => wr = wx ∧ ∃ k : Nat, k + q6 = N ∧ s6 = .int .i64 (k : Nat) ∧ ∀ j, j < k → (gset z i).getD j 0 < gN z i)
        case atStart => exact ⟨rfl, 0, by omega, rfl, fun j hj => by omega⟩
        case round =>
          obtain ⟨rfl, k, hkq, rfl, hlow⟩ := hrel
          cases gk with
          | zero =>
            obtain rfl : k = N := by omega
            have hkz : ¬ ((k : Int) < (k : Int)) := by omega
            go_wp2_with fail
            go_meet
            exact ⟨rfl, k, rfl, by omega, hlow, fun h => by omega⟩
          | succ q2 =>
            have hkN : k < N := by omega
            have hkz : (k : Int) < (N : Int) := by omega
            have hk0 : (0 : Int) ≤ (k : Int) := by omega
            obtain ⟨g3, rfl, hc1, hc2, hc3⟩ := HO.out.2.2 k hkN
            have hls := gts_less (HO.out.1 k hkN) HO.out.2.1
            obtain ⟨T, hT⟩ : ∃ T, gts ((gset z i).getD k 0) = T := ⟨_, rfl⟩
            rw [hT] at hc3 hls
            clear hT
            by_cases hlt : (gset z i).getD k 0 < gN z i
            · rw [decide_eq_true hlt] at hls
              have HL := hide (And.intro hlow hlt)
              clear hlow hlt
              go_wp2_with fail
              go_roundg q2
              case measure => omega
              case rel => exact ⟨rfl, k + 1, by omega, by go_num, fun j hj => by
                rcases Nat.lt_or_ge j k with h | h
                · exact HL.out.1 j h
                · obtain rfl : j = k := by omega
                  exact HL.out.2⟩
            · rw [decide_eq_false hlt] at hls
              have HL := hide (And.intro hlow hlt)
              clear hlow hlt
              go_wp2_with fail
              go_meet
              exact ⟨rfl, k, rfl, by omega, HL.out.1, fun _ => by have := HL.out.2; omega⟩
      case rest =>
        obtain ⟨rfl, k, rfl, hkN, hlow, hhigh⟩ := hcut
        obtain ⟨B, hBB⟩ : ∃ B : Bool, B = decide (k < N ∧ (gset z i).getD k 0 = gN z i) := ⟨_, rfl⟩
        have HL := hide (And.intro hlow hhigh)
        clear hlow hhigh
        go_upto_region 9 with fail
        go_cut [48] (fun s48 wx => s48 = .bool (!B) ∧ wc = wx)
        case first =>
          by_cases hk : k < N
          · have hkz : ¬ ((k : Int) = (N : Int)) := by omega
            have hkz2 : (k : Int) < (N : Int) := by omega
            have hk0 : (0 : Int) ≤ (k : Int) := by omega
            obtain ⟨g3, rfl, hc1, hc2, hc3⟩ := HO.out.2.2 k hk
            have hbe := gts_beq (HO.out.1 k hk) HO.out.2.1
            have hBe : decide ((gset z i).getD k 0 = gN z i) = B := by rw [hBB]; simp only [hk, true_and]
            rw [hBe] at hbe
            obtain ⟨T, hT⟩ : ∃ T, gts ((gset z i).getD k 0) = T := ⟨_, rfl⟩
            rw [hT] at hc3 hbe
            clear hT hBe hBB
            go_wp2_with fail
            go_meet
            exact ⟨by simp; intro h; exact absurd h hkz, rfl⟩
          · obtain rfl : k = N := by omega
            have hBf : B = false := by rw [hBB]; simp
            clear hBB
            go_wp2_with fail
            go_meet
            exact ⟨by rw [hBf]; rfl, rfl⟩
        case rest =>
          obtain ⟨rfl, rfl⟩ := hcut
          go_upto_if 48 with fail
          go_cut [3, 7] (fun s3 s7 wx => ∃ (ks' : List Nat) (vf' : Nat → Value), PostM wx w.heap.size z i ks' s3 vf' ∧ k < ks'.length ∧ ks'.getD k 0 = gN z i ∧ gset z (i + 1) = ks' ∧ Below w.heap.size w wx)
          case first =>
            cases B
            · obtain ⟨hP, hB⟩ := HH.out
              obtain ⟨hlow, hhigh⟩ := HL.out
              have hrow := hP.row
              rw [hN] at hrow
              have hac : N ≤ c3 ∧ c3 ≤ 9223372036854775807 ∧ (a3 = none → c3 = 0) ∧ ∀ b o s, a3 = some ⟨b, o, s⟩ → s = none ∧ o = 0 := by
                obtain ⟨_, ⟨h1, h2⟩ | ⟨g, c', cur, h1, h2, h3, h4, h5, h6, h7⟩⟩ := hrow
                · cases h1
                  exact ⟨by omega, by omega, (fun _ => rfl), (fun b o s h => by cases h)⟩
                · cases h1
                  unfold maxLen at h5
                  exact ⟨h4, h5, (fun h => by cases h), (fun b o s h => by cases h; exact ⟨rfl, rfl⟩)⟩
              obtain ⟨A2, hs1, hs2, hs3, hs4⟩ := slices_po a3 N k c3 hkN hac.1 hac.2.2.1 hac.2.2.2
              have hne : ¬ (k < N ∧ (gset z i).getD k 0 = gN z i) := of_decide_eq_false hBB.symm
              have hkz0 : (0 : Int) ≤ (k : Int) := by omega
              obtain ⟨i0, hi, hq0, hq1, hq2⟩ := info_parts info_posting
              obtain ⟨W1, hW1⟩ : ∃ W1, wc.alloc (.cells #[] 42) = W1 := ⟨_, rfl⟩
              have hB1 : Below wc.heap.size wc W1 := by rw [← hW1]; exact below_alloc _ _
              have hz1 : W1.ownsRow wc.heap.size 42 2 (.slice (some ⟨wc.heap.size, 0, none⟩) 0 0) 0 [] := by rw [← hW1]; exact ⟨rfl, .inr ⟨_, 0, #[], rfl, Nat.le_refl _, heap_alloc_new _ _, Nat.le_refl _, by unfold maxLen; omega, rfl, rfl⟩⟩
              have hr1 := owns_thruS hrow hB1
              have hn1 := fun ad had => hs4 ad had W1 w.heap.size _ hr1
              have h11 : ∀ u ∈ (pocl (gset z i) vf).drop (k * 2), u.oneCell' = true := fun u hu => pocl_one _ _ hP.one u (List.mem_of_mem_drop hu)
              have hl1 : ((pocl (gset z i) vf).drop (k * 2)).length = (N - k) * 2 := by rw [List.length_drop, pocl_len, hN]; omega
              have hs1z := hB1.size
              have HC := hide (And.intro hP (And.intro hB (And.intro hrow (And.intro hlow (And.intro hhigh (And.intro hne hr1))))))
              have HB1 := hide hB1
              have HA := hide hac
              clear hP hB hrow hlow hhigh hne hr1 hB1 hs4 hac hBB HO H3 HL
              go_upto_region 11 with (at_builtin; go_must (refine wpList_append_footO _ rfl (.tmp 49) (.tmp 52) 27 rfl 42 i0 _ 2 40 Tryz.underlying27 hi hq0 hq1 hq2 rfl (by decide) wc.heap.size (.slice (some ⟨wc.heap.size, 0, none⟩) 0 0) 0 [] rfl hz1 A2 (N - k) (c3 - k) ((pocl (gset z i) vf).drop (k * 2)) rfl hl1 hs3 hn1 h11 (by unfold maxLen; omega) (by omega) (by omega) ?_); intro A5 C5 w2 ho2 hg2)
              simp only [Nat.zero_add, List.nil_append] at ho2 hg2
              obtain ⟨hP, hB, hrow, hlow, hhigh, hne, hr1⟩ := HC.out
              have hB12 : Below wc.heap.size W1 w2 := (hg2.kept (F := fun b => b = wc.heap.size) (fun b hb => by cases hb; rfl)).below (fun b hb => by omega) hs1z
              have hs2z := hB12.size
              have hBw2 : Below wc.heap.size wc w2 := HB1.out.trans hB12
              obtain ⟨W3, hW3⟩ : ∃ W3, w2.alloc (.cells #[.string (gts (gN z i)), .slice none 0 0] 42) = W3 := ⟨_, rfl⟩
              have hB23 : Below w2.heap.size w2 W3 := by rw [← hW3]; exact below_alloc _ _
              have hs3z := hB23.size
              have hBw3 : Below wc.heap.size wc W3 := hBw2.trans (hB23.mono (by omega))
              have hr3 := owns_head (owns_thruS hrow hBw3) hkN
              have hn3 : ∀ ad, (some ⟨w2.heap.size, 0, none⟩ : Option Addr) = some ad → ∀ j u, ([.string (gts (gN z i)), .slice none 0 0] : List Value)[j]? = some u → W3.cell? (ad.add j) = some u := fun ad e j u h => by
                cases e
                rw [← hW3, Addr.add_mid, Nat.zero_add]
                match j, h with
                | 0, h => cases h; exact cell_at20 rfl
                | 1, h => cases h; exact cell_at21 rfl
              have ho3 := owns_thruS ho2 hB23
              have hac := HA.out
              have hsw := hB.size
              have HC := hide (And.intro hP (And.intro hB (And.intro hrow (And.intro hlow (And.intro hhigh hne)))))
              have HB3 := hide (And.intro hBw3 ho3)
              clear hP hB hrow hlow hhigh hne hr1 hB12 hBw2 hB23 hBw3 ho3 hz1 hn1 hW1 ho2 hg2 hs3 hs2 HB1
              have HX : Hid (∀ (A6 : Option Addr) (C6 : Nat) (w4 : World), Grew W3 w4 (.slice a3 k c3) (.slice A6 (k + 1) C6) → w4.ownsRow wc.heap.size 42 2 (.slice A5 (N - k) C5) (N - k) ((pocl (gset z i) vf).drop (k * 2))) := fun A6 C6 w4 hg => by
                refine owns_keptS HB3.out.2 (hg.kept (F := fun b => (Value.slice a3 k c3).ownBlock = some b) (fun _ h => h)) (fun b hb hf => ?_)
                have h1 := (owns_cells HB3.out.2 b hb).2.1
                have h2 := (owns_cells (owns_head HC.out.2.2.1 hkN) b hf).1
                omega
              go_upto_region 12 with (first | (at_builtin; refine wpList_append_footO _ rfl (.tmp 56) (.tmp 59) 27 rfl 42 i0 _ 2 40 Tryz.underlying27 hi hq0 hq1 hq2 rfl (by decide) w.heap.size (.slice a3 k c3) k _ rfl hr3 (some ⟨w2.heap.size, 0, none⟩) 1 1 [.string (gts (gN z i)), .slice none 0 0] rfl rfl (fun e => by cases e) hn3 (by intro u hu; simp at hu; rcases hu with rfl | rfl <;> rfl) (by unfold maxLen; omega) (by omega) (by omega) ?_; intro A6 C6 w4 ho4 hg4; have ho5 := HX.out _ _ _ hg4) | (at_builtin; go_must (refine wpList_append_footO _ rfl (.tmp 60) (.tmp 61) 27 rfl 42 i0 _ 2 40 Tryz.underlying27 hi hq0 hq1 hq2 rfl (by decide) w.heap.size (.slice A6 (k + 1) C6) (k + 1) _ rfl ho4 A5 (N - k) C5 ((pocl (gset z i) vf).drop (k * 2)) rfl hl1 (owns_news ho5).1 (owns_news ho5).2 h11 (by unfold maxLen; omega) (by omega) (by have := (hg4.kept (F := fun b => (Value.slice a3 k c3).ownBlock = some b) (fun _ h => h)).size; omega) ?_); intro A7 C7 w5 ho7 hg7))
              go_meet
              obtain ⟨hP, hB, hrow, hlow, hhigh, hne⟩ := HC.out
              have hoe : (Value.slice a3 k c3).ownBlock = (Value.slice a3 N c3).ownBlock := by cases a3 <;> rfl
              have hK4 := hg4.kept (F := fun b => (Value.slice a3 k c3).ownBlock = some b) (fun _ h => h)
              have hF4 := hg4.foot (F := fun b => (Value.slice a3 k c3).ownBlock = some b) (fun _ h => h)
              have hK7 := hg7.kept (F := fun b => (Value.slice A6 (k + 1) C6).ownBlock = some b) (fun _ h => h)
              have hKA : Kept (fun b => (Value.slice a3 N c3).ownBlock = some b) wc w5 := ((Kept.of_below HB3.out.1).trans hK4 (fun b _ h => by rw [← hoe]; exact h)).trans hK7 (fun b hb h => by
                rcases hF4 b h with h1 | h1
                · rw [← hoe]; exact h1
                · have := h1.1
                  omega)
              have hasc := gset_asc hz0 i
              have hgn : gN z i ∉ gset z i := fun hm => by
                obtain ⟨j, hj⟩ := List.mem_iff_getElem?.1 hm
                have hjl := (List.getElem?_eq_some_iff.1 hj).1
                have hjg : (gset z i).getD j 0 = gN z i := by rw [List.getD_eq_getElem?_getD, hj]; rfl
                rcases Nat.lt_trichotomy j k with h | h | h
                · have := hlow j h
                  omega
                · subst h
                  exact hne ⟨by omega, hjg⟩
                · have h1 := hhigh (by omega)
                  have h2 := asc_get hasc h hjl
                  omega
              have h2 : k + 1 + (N - k) = N + 1 := by omega
              rw [h2, pocl_take, pocl_drop] at ho7
              have hins := hP.insert (k := k) hgn (plL_none (fun h => hgn ((gset_mem hz0 i _).2 (by
                obtain ⟨j, hj, e⟩ := (ksL_mem z _ _).1 h
                exact ⟨j, List.mem_range.1 hj, e⟩)))) hKA (fun b h => h) (by rw [hN]; exact ho7)
              rw [h2]
              have hb0 := hB.size
              refine ⟨_, _, hins, ?_, ?_, gset_new hz0 (fun x hx => ?_) (fun x hx => ?_), hB.trans (hKA.below (fun b hb => (owns_cells hrow b hb).2.1) hb0)⟩
              · rw [List.length_append, List.length_cons, List.length_take, List.length_drop]; omega
              · have hlt : ((gset z i).take k).length = k := by rw [List.length_take]; omega
                rw [List.getD_eq_getElem?_getD, List.getElem?_append_right (by omega), hlt, Nat.sub_self]
                rfl
              · obtain ⟨j, hj, _, e⟩ := mem_take_lt hx
                rw [← e]
                exact hlow j hj
              · obtain ⟨j, hj, hjl, e⟩ := mem_drop_ge hx
                rw [← e]
                have h1 := hhigh (by omega)
                rcases Nat.lt_or_ge k j with h | h
                · have := asc_get hasc h hjl
                  omega
                · obtain rfl : j = k := by omega
                  rcases Nat.lt_or_ge (gN z i) ((gset z i).getD j 0) with h3 | h3
                  · exact h3
                  · exact absurd ⟨by omega, by omega⟩ hne
            · obtain ⟨hkN2, hkg⟩ := of_decide_eq_true hBB.symm
              clear hBB HO H3 HL
              go_wp2_with fail
              go_meet
              exact ⟨gset z i, vf, HH.out.1, by omega, hkg, gset_old hz0 (by rw [← hkg]; exact getD_mem (by omega)), HH.out.2⟩
          case rest =>
            obtain ⟨ks', vf', hP', hkl, hkg, hgs, hB'⟩ := hcut
            have hasc : ks'.Pairwise (· < ·) := by rw [← hgs]; exact gset_asc hz0 _
            have hnd : ks'.Nodup := hasc.imp (fun h e => by omega)
            have hkm : gN z i ∈ ks' := by rw [← hkg]; exact getD_mem hkl
            have hlen2 : ks'.length ≤ i + 1 := by rw [← hgs]; exact gset_len z (i + 1)
            obtain ⟨b3, d3, rfl⟩ := owns_slice hP'.row
            obtain ⟨g3, rfl, hc1, hc2, hc3, hc4⟩ := owns_addr hP'.row (by omega)
            have hpr := hP'.places _ hkm
            obtain ⟨aX, cX, hvX⟩ := owns_slice hpr
            obtain ⟨np, hnp⟩ : ∃ np, (plL z (List.range i) (gN z i)).length = np := ⟨_, rfl⟩
            have hnpl : np ≤ i := by
              rw [← hnp]
              have := List.length_filter_le (fun j => gN z j == gN z i) (List.range i)
              rwa [List.length_range] at this
            obtain ⟨e1, hf1⟩ := owns_at hP'.row (pocl_get ks' vf' k hkl).2
            rw [hkg, hvX, hnp] at e1
            rw [hvX, hnp] at hpr
            obtain ⟨W6, hW6⟩ : ∃ W6, wc.alloc (.cells #[.int .i64 0, .int .i64 (i : Nat)] 44) = W6 := ⟨_, rfl⟩
            have hB6 : Below wc.heap.size wc W6 := by rw [← hW6]; exact below_alloc _ _
            have hp6 := owns_thruS hpr hB6
            have hn6 : ∀ ad, (some ⟨wc.heap.size, 0, none⟩ : Option Addr) = some ad → ∀ j u, ([.int .i64 0, .int .i64 (i : Nat)] : List Value)[j]? = some u → W6.cell? (ad.add j) = some u := fun ad e j u h => by
              cases e
              rw [← hW6, Addr.add_mid, Nat.zero_add]
              match j, h with
              | 0, h => cases h; exact cell_at20 rfl
              | 1, h => cases h; exact cell_at21 rfl
            have hHY : ∀ (A7 : Option Addr) (C7 : Nat) (w7 : World), Grew W6 w7 (.slice aX np cX) (.slice A7 (np + 1) C7) → Kept (fun b => (Value.slice aX np cX).ownBlock = some b) wc w7 ∧ w7.cell? ⟨g3, k * 2 + 1, none⟩ = some (.slice aX np cX) ∧ w7.frozen? ⟨g3, k * 2 + 1, none⟩ = false := fun A7 C7 w7 hg => by
              have hk7 : Kept (fun b => (Value.slice aX np cX).ownBlock = some b) wc w7 := (Kept.of_below hB6).trans (hg.kept (F := fun b => (Value.slice aX np cX).ownBlock = some b) (fun _ h => h)) (fun _ _ h => h)
              have hng : ¬ (Value.slice aX np cX).ownBlock = some g3 := fun h => owns_apart hP'.row hpr (by decide) g3 rfl h
              exact ⟨hk7, hk7.cell e1 hng, hk7.unfrozen e1 hng hf1⟩
            have hsz6 := hB6.size
            have hsz' := hB'.size
            have HP := hide (And.intro hP' (And.intro hB' (And.intro hkl (And.intro hkg (And.intro hgs (And.intro hnd (And.intro hvX hnp)))))))
            have HY := hide hHY
            have HB6 := hide (And.intro hB6 hpr)
            obtain ⟨i0, hi, hq0, hq1, hq2⟩ := info_parts info_place
            have hkl2 : (k : Int) < (ks'.length : Int) := by omega
            have hkz0 : (0 : Int) ≤ (k : Int) := by omega
            obtain ⟨Nk, hNk⟩ : ∃ Nk, ks'.length = Nk := ⟨_, rfl⟩
            rw [hNk] at hkl2 hc1 hlen2 ⊢
            clear hP' hB' hasc hnd hkm hkl hkg hgs hHY hB6 hvX hBB HL HH HO H3 hNl hN hpr hnp
            go_wp2_with (at_builtin; go_must (refine wpList_append_footO _ rfl (.tmp 69) (.tmp 72) 40 rfl 44 i0 _ 2 16 Tryz.underlying40 hi hq0 hq1 hq2 rfl (by decide) w.heap.size (.slice aX np cX) np _ rfl hp6 (some ⟨wc.heap.size, 0, none⟩) 1 1 [.int .i64 0, .int .i64 (i : Nat)] rfl rfl (fun e => by cases e) hn6 (by intro u hu; simp at hu; rcases hu with rfl | rfl <;> rfl) (by unfold maxLen; omega) (by omega) (by omega) ?_); intro A7 C7 w7 ho7 hg7; obtain ⟨hk7, e7, f7⟩ := HY.out _ _ _ hg7)
            go_roundg q
            case measure => omega
            case rel =>
              obtain ⟨hP', hB', hkl, hkg, hgs, hnd, hvX, hnp⟩ := HP.out
              obtain ⟨hB6, hpr⟩ := HB6.out
              have hF7 := hg7.foot (F := fun b => (Value.slice aX np cX).ownBlock = some b) (fun _ h => h)
              have hpl := hP'.place (u := .slice A7 (np + 1) C7) hkl hkg hnd (by rw [hvX, hnp]; exact hk7) (by rw [hnp]; exact ho7) (fun b hb => by
                rw [hvX, hnp]
                rcases hF7 b hb with h | h
                · exact .inl h
                · exact .inr (by have := h.1; omega))
              rw [hNk] at hpl
              refine ⟨i + 1, by omega, by go_num, ⟨_, by rw [hgs]; exact hpl⟩, (hB'.trans (hk7.below (fun b hb => (owns_cells hpr b hb).2.1) hsz')).trans ?_⟩
              exact ((Kept.refl (fun b => b = g3) w7).setCell (p := ⟨g3, k * 2 + 1, none⟩) (.inl rfl) _).below (fun b hb => by rw [hb]; exact hc3) (by have := hk7.size; omega)
end Go.Proofs.YtpdlapnliiengaaGreat

/-
  The reference's At, Grams, Run.
-/
namespace Go.Proofs.YtpdlapnliiengaaGreat
open Go.RowKit Go.Shelf

set_option maxHeartbeats 1000000 in
theorem refAt_any (a : Option Addr) (len cap : Nat) (z : Nat → Nat) (i : Int) (w : World) (hlen : len ≤ 140737488355328) (hcap : len ≤ cap) (hz : Byt w a len z) (hi : -9223372036854775808 ≤ i ∧ i ≤ 9223372036854775807) :
    Calls Tryz.prog 8 #[.slice a len cap, .int .i64 i] w fun e w' => e = .returned (atV z len i) ∧ w' = w := by
  unfold atV
  by_cases h0 : i < 0
  · rw [if_neg (by omega)]
    go_enter Tryz.func8, Tryz.ntmps8
    go_wp2_with fail
    go_ret2
    exact ⟨rfl, rfl⟩
  · obtain ⟨k, rfl⟩ : ∃ k : Nat, i = (k : Int) := ⟨i.toNat, by omega⟩
    by_cases h1 : (k : Int) > (len : Int) - 3
    · rw [if_neg (by omega)]
      go_enter Tryz.func8, Tryz.ntmps8
      go_wp2_with fail
      go_ret2
      exact ⟨rfl, rfl⟩
    · rw [if_pos (by omega), Int.toNat_natCast, gtx_eq]
      obtain ⟨A, hA, hcv⟩ := mid3 a len cap k z w (by omega) hcap hz
      generalize gts (gN z k) = T at *
      clear hz
      go_enter Tryz.func8, Tryz.ntmps8
      go_wp2_with fail
      go_ret2
      exact ⟨rfl, rfl⟩

set_option maxRecDepth 100000 in
set_option maxHeartbeats 1000000 in
theorem refGrams_any (a : Option Addr) (n cap : Nat) (z : Nat → Nat) (w : World) (hlen : n ≤ 1000000) (hcap : n ≤ cap) (hz : Byt w a n z) :
    Calls Tryz.prog 15 #[.slice a n cap] w fun e w' => ∃ v, e = .returned v ∧ w'.ownsRow w.heap.size 9 1 v (gset z (n - 2)).length ((gset z (n - 2)).map gtx) ∧ Below w.heap.size w w' := by
  have hpl := refPlaces_any a n cap z w hlen hcap hz
  have hml := gset_len z (n - 2)
  clear hz
  go_enter Tryz.func15, Tryz.ntmps15
  go_wp2_with fail
  refine hpl.mono ?_
  rintro e w1 ⟨v, vf, rfl, hP, hB⟩
  have hrow := hP.row
  obtain ⟨N, hN⟩ : ∃ N, (gset z (n - 2)).length = N := ⟨_, rfl⟩
  rw [hN] at hrow hml
  obtain ⟨aP, cP, rfl⟩ := owns_slice hrow
  have HH := hide (And.intro hrow (And.intro hB hN))
  clear hpl hP hrow hB hN
  go_wp2_with fail
  go_loopg [3, 5] N (fun q s3 s5 wr => ∃ k : Nat, k + q = N ∧ s5 = .int .i64 (k : Nat) ∧ wr.ownsRow w1.heap.size 9 1 s3 k (((gset z (n - 2)).take k).map gtx) ∧ Below w1.heap.size w1 wr)
  case atStart => exact ⟨0, by omega, rfl, World.ownsRow_nil _ _ _ _, Below.refl _ _⟩
  case round =>
    obtain ⟨k, hkq, rfl, hr, hb⟩ := hrel
    obtain ⟨hrow, hB, hN⟩ := HH.out
    cases gk with
    | zero =>
      obtain rfl : k = N := by omega
      have hkz : ¬ ((k : Int) < (k : Int)) := by omega
      rw [List.take_of_length_le (by omega)] at hr
      have HR := hide (And.intro hr hb)
      clear hr hb hrow hB hN
      go_wp2_with fail
      go_ret
      have h1 := HR.out.1
      have h2 := HH.out.2.1.size
      exact ⟨_, rfl, by rw [HH.out.2.2]; exact ⟨h1.1, h1.2.imp (fun h => h) (fun ⟨g, c, u, h1, h2, h3⟩ => ⟨g, c, u, h1, by omega, h3⟩)⟩, HH.out.2.1.trans (HR.out.2.mono h2)⟩
    | succ q =>
      have hkN : k < N := by omega
      have hkz : (k : Int) < (N : Int) := by omega
      have hk0 : (0 : Int) ≤ (k : Int) := by omega
      obtain ⟨gP, rfl, hc1, hc2, _, _⟩ := owns_addr hrow (by omega)
      have c0 := cell_thru (owns_at hrow (pocl_get _ vf k (by omega)).1).1 hb
      have htk : ((gset z (n - 2)).take (k + 1)).map gtx = ((gset z (n - 2)).take k).map gtx ++ [.string (gts ((gset z (n - 2)).getD k 0))] := by
        rw [List.take_add_one, List.map_append, List.getD_eq_getElem?_getD, List.getElem?_eq_getElem (by omega)]; rfl
      obtain ⟨T, hT⟩ : ∃ T, gts ((gset z (n - 2)).getD k 0) = T := ⟨_, rfl⟩
      rw [hT] at c0 htk
      have hrA : (wr.alloc (.cells #[.string T] 9)).ownsRow w1.heap.size 9 1 u3 k (((gset z (n - 2)).take k).map gtx) := owns_thru hr (below_alloc _ _)
      have hnew : ∀ j u, ([.string T] : List Value)[j]? = some u → (wr.alloc (.cells #[.string T] 9)).cell? ((⟨wr.heap.size, 0, none⟩ : Addr).add j) = some u := fun j u h => by
        match j, h with
        | 0, h => cases h; exact (cell_new_l _ _ _).1
      have hsz := hb.size
      have HR := hide (And.intro hr (And.intro hb htk))
      obtain ⟨i0, hi, hq0, hq1, hq2⟩ := info_parts info_string
      clear hr hb htk hrow hB hN hT
      go_wp2_with (at_builtin; go_must (refine wpList_append_foot _ rfl (.tmp 14) (.tmp 20) 29 rfl 9 i0 (.string ⟨#[]⟩) 16 Tryz.underlying29 hi hq0 hq1 hq2 rfl w1.heap.size _ k (((gset z (n - 2)).take k).map gtx) rfl hrA (some ⟨wr.heap.size, 0, none⟩) 1 1 [.string T] rfl rfl (fun e => by cases e) (fun ad e => by cases e; exact hnew) (by simp [Value.oneCell']) (by unfold maxLen; omega) (by omega) (by simp; omega) ?_); intro A' C' w6 hown' hG')
      go_roundg q
      case measure => omega
      case rel =>
        exact ⟨k + 1, by omega, by go_num, by rw [HR.out.2.2]; exact hown', HR.out.2.1.trans (((below_alloc _ _).mono hsz).trans ((hG'.kept (F := fun g => u3.ownBlock = some g) (fun _ h => h)).below (fun g hg => (owns_cells HR.out.1 g hg).2.1) (by simp; omega)))⟩

theorem extract3 (B : ByteArray) (i : Nat) (h : i + 3 ≤ B.size) : B.extract i (i + 3) = gts (gN (zS B) i) := by
  apply ByteArray.ext
  apply Array.toList_inj.1
  have hl : B.data.toList.length = B.size := Array.length_toList
  have hg : ∀ j, j < B.size → B.data.toList[j]? = some (UInt8.ofNat (zS B j)) := fun j hj => by
    have h1 : j < B.data.toList.length := by omega
    unfold zS
    rw [List.getD_eq_getElem?_getD, List.getElem?_eq_getElem h1]
    simp
  rw [Lib.extract_data, Nat.add_sub_cancel_left, gts_data]
  have h0 := zS_lt B i
  have h1 := zS_lt B (i + 1)
  have h2 := zS_lt B (i + 2)
  have e1 : gN (zS B) i / 65536 = zS B i := by unfold gN; omega
  have e2 : gN (zS B) i / 256 % 256 = zS B (i + 1) := by unfold gN; omega
  have e3 : gN (zS B) i % 256 = zS B (i + 2) := by unfold gN; omega
  rw [e1, e2, e3]
  apply List.ext_getElem?
  intro j
  match j with
  | 0 => rw [List.getElem?_take_of_lt (by omega), List.getElem?_drop, hg _ (by omega)]; rfl
  | 1 => rw [List.getElem?_take_of_lt (by omega), List.getElem?_drop, hg _ (by omega)]; rfl
  | 2 => rw [List.getElem?_take_of_lt (by omega), List.getElem?_drop, hg _ (by omega)]; rfl
  | j + 3 => rw [List.getElem?_eq_none (by rw [List.length_take]; omega), List.getElem?_eq_none (by simp)]

set_option maxRecDepth 100000 in
set_option maxHeartbeats 1000000 in
theorem refRun_any (B : ByteArray) (w : World) (hlen : B.size ≤ 1000000) :
    Calls Tryz.prog 16 #[.string B] w fun e w' => ∃ v, e = .returned v ∧ w'.ownsRow w.heap.size 9 1 v (B.size - 2) (rnl (zS B) (List.range (B.size - 2))) ∧ Below w.heap.size w w' := by
  obtain ⟨s, hs⟩ : ∃ s, B.size = s := ⟨_, rfl⟩
  obtain ⟨M, hM⟩ : ∃ M, s - 2 = M := ⟨_, rfl⟩
  rw [hs, hM]
  rw [hs] at hlen
  go_enter Tryz.func16, Tryz.ntmps16
  go_wp2_with fail
  go_loopg [3, 4] M (fun q s3 s4 wr => ∃ k : Nat, k + q = M ∧ s4 = .int .i64 (k : Nat) ∧ wr.ownsRow w.heap.size 9 1 s3 k (rnl (zS B) (List.range k)) ∧ Below w.heap.size w wr)
  case atStart => exact ⟨0, by omega, rfl, World.ownsRow_nil _ _ _ _, Below.refl _ _⟩
  case round =>
    obtain ⟨k, hkq, rfl, hr, hb⟩ := hrel
    cases gk with
    | zero =>
      obtain rfl : k = M := by omega
      have hkz : ¬ ((k : Int) + 3 ≤ (s : Int)) := by omega
      have HR := hide (And.intro hr hb)
      clear hr hb
      go_wp2_with fail
      go_ret
      exact ⟨_, rfl, HR.out.1, HR.out.2⟩
    | succ q =>
      have hkN : k < M := by omega
      have hkz : (k : Int) + 3 ≤ (s : Int) := by omega
      have hk0 : (0 : Int) ≤ (k : Int) := by omega
      have htk := rnl_snoc (zS B) (List.range k) k
      rw [← List.range_succ, gtx_eq, ← extract3 B k (by omega)] at htk
      obtain ⟨T, hT⟩ : ∃ T, B.extract k (k + 3) = T := ⟨_, rfl⟩
      rw [hT] at htk
      have hsl : ∀ wx, (Instr.slice 9 (.string B) (some (.int .i64 (k : Int))) (some (.int .i64 ((k : Int) + 3))) none).run Tryz.prog wx = .ok (.string T) wx := fun wx => by
        have h := run_slice_string (P := Tryz.prog) (w := wx) 9 B .i64 .i64 (k : Int) ((k : Int) + 3) Tryz.underlying9 (by omega) (by omega) (by omega)
        rw [h, show ((k : Int) + 3).toNat = k + 3 by omega, Int.toNat_natCast, hT]
      have hrA : (wr.alloc (.cells #[.string T] 9)).ownsRow w.heap.size 9 1 u3 k (rnl (zS B) (List.range k)) := owns_thru hr (below_alloc _ _)
      have hnew : ∀ j u, ([.string T] : List Value)[j]? = some u → (wr.alloc (.cells #[.string T] 9)).cell? ((⟨wr.heap.size, 0, none⟩ : Addr).add j) = some u := fun j u h => by
        match j, h with
        | 0, h => cases h; exact (cell_new_l _ _ _).1
      have hsz := hb.size
      have HR := hide (And.intro hr (And.intro hb htk))
      obtain ⟨i0, hi, hq0, hq1, hq2⟩ := info_parts info_string
      clear hr hb htk hT
      go_wp2_with (at_builtin; go_must (refine wpList_append_foot _ rfl (.tmp 12) (.tmp 18) 29 rfl 9 i0 (.string ⟨#[]⟩) 16 Tryz.underlying29 hi hq0 hq1 hq2 rfl w.heap.size _ k (rnl (zS B) (List.range k)) rfl hrA (some ⟨wr.heap.size, 0, none⟩) 1 1 [.string T] rfl rfl (fun e => by cases e) (fun ad e => by cases e; exact hnew) (by simp [Value.oneCell']) (by unfold maxLen; omega) (by omega) (by simp; omega) ?_); intro A' C' w6 hown' hG')
      go_roundg q
      case measure => omega
      case rel =>
        exact ⟨k + 1, by omega, by go_num, by rw [HR.out.2.2]; exact hown', HR.out.2.1.trans (((below_alloc _ _).mono hsz).trans ((hG'.kept (F := fun g => u3.ownBlock = some g) (fun _ h => h)).below (fun g hg => (owns_cells HR.out.1 g hg).2.1) (by simp; omega)))⟩
end Go.Proofs.YtpdlapnliiengaaGreat
