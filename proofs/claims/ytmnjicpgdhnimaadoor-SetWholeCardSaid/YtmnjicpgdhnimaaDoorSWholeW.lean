/-
  SetWhole's walk.
-/
import Derived.Test.YtmnjicpgdhnimaaDoorSWholeR
namespace Go.Proofs.YtmnjicpgdhnimaaDoor
open Go.RowKit Go.Shelf

attribute [local go_sem] Oper.semAt_some

/-- The cells of the first n sets. -/
def setsC (F : Nat → Nat → Bool) : Nat → List Value
  | 0 => []
  | n + 1 => setsC F n ++ [.int .u64 (wd (F n) 0 : Nat), .int .u64 (wd (F n) 1 : Nat), .int .u64 (wd (F n) 2 : Nat), .int .u64 (wd (F n) 3 : Nat)]
theorem setsC_length (F : Nat → Nat → Bool) : ∀ n, (setsC F n).length = n * 4
  | 0 => rfl
  | n + 1 => by
    unfold setsC
    rw [List.length_append, setsC_length F n]
    simp only [List.length_cons, List.length_nil]
    omega
theorem setsC_get (F : Nat → Nat → Bool) : ∀ n i j, i < n → j < 4 → (setsC F n)[i * 4 + j]? = some (.int .u64 (wd (F i) j : Nat))
  | n + 1, i, j, hi, hj => by
    unfold setsC
    rcases Nat.lt_or_ge i n with h | h
    · rw [List.getElem?_append_left (by rw [setsC_length]; omega)]
      exact setsC_get F n i j h hj
    · obtain rfl : i = n := by omega
      rw [List.getElem?_append_right (by rw [setsC_length]; omega), setsC_length, show i * 4 + j - i * 4 = j by omega]
      match j, hj with
      | 0, _ => rfl
      | 1, _ => rfl
      | 2, _ => rfl
      | 3, _ => rfl
theorem owns_sets {w : World} {B n : Nat} {A : Option Addr} {C : Nat} {F : Nat → Nat → Bool} (h : w.ownsRow B 24 4 (.slice A n C) n (setsC F n)) : Sets w A n F := by
  rcases Nat.eq_zero_or_pos n with h0 | h0
  · exact .inl h0
  · obtain ⟨g, C', e, _⟩ := owns_cellS h (setsC_get F n 0 0 h0 (by omega))
    cases e
    refine .inr ⟨g, 0, rfl, fun i hi j hj => ?_⟩
    obtain ⟨g1, C1, e1, c1, _⟩ := owns_cellS h (setsC_get F n i j hi hj)
    cases e1
    rw [Nat.zero_add]
    exact c1
theorem info_set : (Tryd.prog.info? 24).map (fun i => (i.zero, i.size, i.bytes)) = some (some (.agg #[.int .u64 0, .int .u64 0, .int .u64 0, .int .u64 0]), 4, 32) := by kernel_rfl
theorem box_news {w : World} {g : Nat} {S : Nat → Bool} (h : SBox w g S) : ∀ j u, [Value.int .u64 (wd S 0 : Nat), .int .u64 (wd S 1 : Nat), .int .u64 (wd S 2 : Nat), .int .u64 (wd S 3 : Nat)][j]? = some u → w.cell? ((⟨g, 0, none⟩ : Addr).add j) = some u := by
  intro j u hj
  have hlt : j < 4 := (List.getElem?_eq_some_iff.1 hj).1
  have e : (⟨g, 0, none⟩ : Addr).add j = ⟨g, j, none⟩ := by
    unfold Addr.add
    split
    · rename_i e; rw [e]
    · simp
  rw [e, h.cell j hlt]
  match j, hlt with
  | 0, _ => simpa using hj
  | 1, _ => simpa using hj
  | 2, _ => simpa using hj
  | 3, _ => simpa using hj
theorem rsum_take_le (R : List (Nat × Nat)) (k : Nat) : rsum (R.take k) ≤ rsum R := by
  have h := rsum_append (R.take k) (R.drop k)
  rw [List.take_append_drop] at h
  omega

set_option maxRecDepth 100000 in
set_option maxHeartbeats 4000000 in
theorem setWhole_any (H : Nat → Bool) (w : World) (hT : Tab w) :
    Calls Tryd.prog 7 #[sv H] w fun e w' => e = .returned (.bool true) ∧ Below w.heap.size w w' := by
  obtain ⟨W1, hW1⟩ : ∃ W1, w.alloc (.cells (st H) 24) = W1 := ⟨_, rfl⟩
  have hB1 : Below w.heap.size w W1 := by rw [← hW1]; exact below_alloc _ _
  have hS1 : SBox W1 w.heap.size H := by rw [← hW1]; exact SBox.new _ _ _ rfl
  have HW1 := hide hW1
  have H1 := hide (And.intro hB1 hS1)
  have HT := hide hT
  clear hB1 hS1 hW1 hT
  unfold sv
  go_enter Tryd.func7, Tryd.ntmps7
  go_wp2_with fail
  rw [HW1.out]
  refine (awake_any W1 (HT.out.below H1.out.1)).mono ?_
  rintro e W2 ⟨rfl, hb2⟩
  have H2 := hide (And.intro (H1.out.1.trans (hb2.mono H1.out.1.size)) (H1.out.2.below hb2 H1.out.2.lt))
  have c0 := H2.out.2.cell 0 (by omega)
  have c1 := H2.out.2.cell 1 (by omega)
  have c2 := H2.out.2.cell 2 (by omega)
  have c3 := H2.out.2.cell 3 (by omega)
  clear hb2
  go_wp2_with fail
  refine (ranges_any H W2 (HT.out.below H2.out.1)).mono ?_
  rintro e W3 ⟨v, rfl, ho, hb3⟩
  clear c0 c1 c2 c3
  have hgood := hide (good H 256)
  have hany := hide (whole_any H)
  have hRl : (rl (bl H 256)).length ≤ 256 := Nat.le_trans (rl_length _) (bl_length_le H 256)
  have hRs := hide (rl_small 256 (bl H 256) (fun b hb => (mem_bl.1 hb).1))
  obtain ⟨R, hR⟩ : ∃ R, rl (bl H 256) = R := ⟨_, rfl⟩
  rw [hR] at ho hgood hany hRl hRs
  obtain ⟨m, hm⟩ : ∃ m, R.length = m := ⟨_, rfl⟩
  rw [hm] at ho hany hRl
  obtain ⟨AR, CR, rfl⟩ := owns_slice ho
  have H3 := hide (And.intro (H2.out.1.trans (hb3.mono H2.out.1.size)) (And.intro (H2.out.2.below hb3 H2.out.2.lt) (owns_lower ho (Nat.zero_le _))))
  have HM := hide hm
  clear ho hb3 hR hm
  go_wp2_with fail
  go_loopg [4, 5, 6] m (fun q s4 s5 s6 wr => ∃ (k : Nat) (A : Option Addr) (C : Nat), k + q = m ∧ s6 = .int .i64 k ∧ s5 = .int .i64 (rsum (R.take k) : Nat) ∧ s4 = .slice A k C ∧ wr.ownsRow W3.heap.size 24 4 (.slice A k C) k (setsC (rset R) k) ∧ Below W3.heap.size W3 wr)
  case atStart => exact ⟨0, none, 0, by omega, rfl, rfl, rfl, ⟨rfl, .inl ⟨rfl, rfl⟩⟩, Below.refl _ _⟩
  case round =>
    obtain ⟨k, A, C, hkq, rfl, rfl, rfl, hown, hbr⟩ := hrel
    have HO := hide hown
    have HB := hide hbr
    clear hown hbr
    cases gk with
    | succ q =>
      have hkm : k < m := by omega
      have hk1 : (k : Int) < (m : Int) := by omega
      have hk0 : (0 : Int) ≤ (k : Int) := by omega
      obtain ⟨g, rfl, hgC, hcc⟩ := owns_pair H3.out.2.2 HM.out (by omega)
      obtain ⟨hlh, _⟩ := hgood.out.each k (by rw [HM.out]; exact hkm)
      have hpm : R.getD k (0, 0) ∈ R := by rw [List.getD_eq_getElem?_getD, List.getElem?_eq_getElem (by rw [HM.out]; exact hkm)]; exact List.getElem_mem _
      obtain ⟨hl8, hh8⟩ := hRs.out _ hpm
      have hst := rsum_take R k (by rw [HM.out]; exact hkm)
      have hsl := rsum_take_le R k
      have hsl2 := rsum_take_le R (k + 1)
      have hsum : rsum R ≤ 256 := by rw [hgood.out.sum]; exact bl_length_le H 256
      have hsetk : rset R k = rng (R.getD k (0, 0)).1 (R.getD k (0, 0)).2 := rfl
      have hcl := fun W (h : Below wr.heap.size wr W) => cell_thru (cell_thru (hcc k hkm).1 HB.out) h
      have hch := fun W (h : Below wr.heap.size wr W) => cell_thru (cell_thru (hcc k hkm).2 HB.out) h
      have hprev : Hid (∀ k', k = k' + 1 → ∃ pv : Nat, pv < 256 ∧ pv + 1 < (R.getD k (0, 0)).1 ∧ ∀ W, Below W3.heap.size W3 W → W.cell? ⟨g, k' * 2 + 1, none⟩ = some (.int .u8 (pv : Nat))) := fun k' e => by
        have hk'm : k' < m := by omega
        have hp2 : R.getD k' (0, 0) ∈ R := by rw [List.getD_eq_getElem?_getD, List.getElem?_eq_getElem (by rw [HM.out]; exact hk'm)]; exact List.getElem_mem _
        refine ⟨(R.getD k' (0, 0)).2, (hRs.out _ hp2).2, ?_, fun W h => cell_thru (hcc k' hk'm).2 h⟩
        have := hgood.out.gap k' (by rw [HM.out]; omega)
        rw [e]; exact this
      generalize (R.getD k (0, 0)).1 = lo at *
      generalize (R.getD k (0, 0)).2 = hi at *
      obtain ⟨sm, hsm⟩ : ∃ sm, rsum (R.take k) = sm := ⟨_, rfl⟩
      rw [hsm] at hst hsl ⊢
      have HST := hide (And.intro hst hsetk)
      have hs300 : sm + (hi - lo + 1) ≤ 256 := by omega
      have hlo0 : (0 : Int) ≤ (lo : Int) := by omega
      have hle : (lo : Int) ≤ (hi : Int) := by omega
      have hhi1 : (hi : Int) < 256 := by omega
      have hsm0 : (0 : Int) ≤ (sm : Int) := by omega
      have hsm1 : (sm : Int) ≤ 256 := by omega
      clear hcc hst hsl hsl2 hsum hsetk hpm hsm
      go_wp2_with fail
      refine (wpIn_wide (n := 0)).1 (swh9 wide_plain g m CR k lo hi _ _ _ _ rfl rfl rfl ⟨hkm, hl8, hh8⟩ hcl hch ?_)
      intro vs W4 hb4 h7 h8
      simp only [List.foldl_cons, List.foldl_nil, List.setIfInBounds_toArray, List.set_cons_succ, List.set_cons_zero]
      rw [h7, h8]
      have HB4 := hide hb4
      clear h7 h8 hb4
      have hgt : decide ((hi : Int) < (lo : Int)) = false := by simp; omega
      have hgt2 : decide (hi < lo) = false := by simp; omega
      have hcase : (k = 0 ∧ decide (0 < k) = false) ∨ (∃ k' pv : Nat, (k : Int) - 1 = (k' : Int) ∧ (k' : Int) < (m : Int) ∧ (0 : Int) ≤ (k' : Int) ∧ decide (0 < k) = true ∧ (pv : Int) < 256 ∧ (0 : Int) ≤ (pv : Int) ∧ (pv : Int) + 1 < (lo : Int) ∧ W4.cell? ⟨g, k' * 2 + 1, none⟩ = some (.int .u8 (pv : Nat))) := by
        rcases Nat.eq_zero_or_pos k with h0 | h0
        · exact .inl ⟨h0, by simp [h0]⟩
        · obtain ⟨pv, p1, p2, p3⟩ := hprev.out (k - 1) (by omega)
          exact .inr ⟨k - 1, pv, by omega, by omega, by omega, by simp; omega, by omega, by omega, by omega, p3 W4 (HB.out.trans (HB4.out.mono HB.out.size))⟩
      have hcl4 := hide (fun W (h : Below W4.heap.size W4 W) => hcl W (HB4.out.trans (h.mono HB4.out.size)))
      have hch4 := hide (fun W (h : Below W4.heap.size W4 W) => hch W (HB4.out.trans (h.mono HB4.out.size)))
      have HH := hide (And.intro hkm (And.intro hl8 (And.intro hh8 hkq)))
      clear hcl hch hprev hkm hl8 hh8 hkq
      rcases hcase with ⟨h00, hd⟩ | ⟨k', pv, hsub, hk'm, hk'0, hd, hpv1, hpv0, hpv2, hpc⟩
      · clear h00
        go_wp2_with fail
        refine (wpIn_wide (n := 0)).1 (swh13 wide_plain g m CR k lo hi (.slice A k C) _ _ _ _ rfl rfl rfl rfl ⟨HH.out.1, HH.out.2.1, HH.out.2.2.1⟩ hcl4.out hch4.out ?_)
        intro vs W5 hb5 h56 h68
        obtain ⟨g5, h68, hs5⟩ := h68
        simp only [List.foldl_cons, List.foldl_nil, List.setIfInBounds_toArray, List.set_cons_succ, List.set_cons_zero]
        rw [h56, h68]
        have hB5 : Below wr.heap.size wr W5 := HB4.out.trans (hb5.mono HB4.out.size)
        have hsz5 : W3.heap.size ≤ W5.heap.size := Nat.le_trans HB.out.size hB5.size
        have hcn : [Value.int .u64 (wd (rng lo hi) 0 : Nat), .int .u64 (wd (rng lo hi) 1 : Nat), .int .u64 (wd (rng lo hi) 2 : Nat), .int .u64 (wd (rng lo hi) 3 : Nat)].length = 1 * 4 := rfl
        have hkm9 := HH.out.1
        obtain ⟨i0, hi0, hq0, hq1, hq2⟩ := info_parts info_set
        refine op_appendS wide_plain (o := swh13_ops[13]) rfl rfl (.tmp 56) (.tmp 68) 31 rfl 24 i0 (.agg #[.int .u64 0, .int .u64 0, .int .u64 0, .int .u64 0]) 4 32 Tryd.underlying31 hi0 hq0 hq1 hq2 rfl (by omega) W3.heap.size (.slice A k C) k (setsC (rset R) k) rfl (owns_thruS HO.out hB5) ⟨g5, 0, none⟩ 1 1 _ rfl hcn (box_news hs5) (by simp [Value.oneCell']) (by unfold maxLen; omega) (by omega) hsz5 ?_
        intro A' C' W6 hown' hG' _
        have hk6 := (Kept.of_below (F := fun y => (Value.slice A k C).ownBlock = some y) hB5).trans (hG'.kept (F := fun y => (Value.slice A k C).ownBlock = some y) (fun _ h => h)) (fun _ _ h => h)
        have H6 := hide (And.intro hown' (HB.out.trans (hk6.below (fun y hy => (owns_cells HO.out y hy).2.1) HB.out.size)))
        clear hown' hG' hk6 hb5 h56 h68 hB5 hsz5 hs5 hi0 hq0 hq1 hq2 hcl4 hch4 hcn
        refine wpOpIn_plain (o := swh13_ops[14]) rfl rfl (oper_inK (fun _ => trivial) (fun K hK => ?_))
        rw [Oper.semAt_plain Fence.wide _ _ (by intro c h; cases h)]
        simp only [swh13_ops, swh13_o14]
        go_simp
        refine hK _ _ ?_
        clear hK K
        go_wp2_with fail
        go_roundg q
        case measure => omega
        case rel =>
          have hkq9 := HH.out.2.2.2
          refine ⟨k + 1, A', C', by omega, by go_num, ?_, rfl, ?_, H6.out.2⟩
          · rw [HST.out.1]
            have : (((sm + (hi - lo + 1) : Nat)) : Int) = (sm : Int) + (hi : Int) - (lo : Int) + 1 := by omega
            rw [this]
          · have h := H6.out.1
            unfold setsC
            rw [HST.out.2]
            exact h
      · have hge : decide ((lo : Int) ≤ (pv : Int) + 1) = false := by simp; omega
        have hge2 : decide (lo ≤ pv + 1) = false := by simp; omega
        go_wp2_with fail
        refine (wpIn_wide (n := 0)).1 (swh13 wide_plain g m CR k lo hi (.slice A k C) _ _ _ _ rfl rfl rfl rfl ⟨HH.out.1, HH.out.2.1, HH.out.2.2.1⟩ hcl4.out hch4.out ?_)
        intro vs W5 hb5 h56 h68
        obtain ⟨g5, h68, hs5⟩ := h68
        simp only [List.foldl_cons, List.foldl_nil, List.setIfInBounds_toArray, List.set_cons_succ, List.set_cons_zero]
        rw [h56, h68]
        have hB5 : Below wr.heap.size wr W5 := HB4.out.trans (hb5.mono HB4.out.size)
        have hsz5 : W3.heap.size ≤ W5.heap.size := Nat.le_trans HB.out.size hB5.size
        have hcn : [Value.int .u64 (wd (rng lo hi) 0 : Nat), .int .u64 (wd (rng lo hi) 1 : Nat), .int .u64 (wd (rng lo hi) 2 : Nat), .int .u64 (wd (rng lo hi) 3 : Nat)].length = 1 * 4 := rfl
        have hkm9 := HH.out.1
        obtain ⟨i0, hi0, hq0, hq1, hq2⟩ := info_parts info_set
        refine op_appendS wide_plain (o := swh13_ops[13]) rfl rfl (.tmp 56) (.tmp 68) 31 rfl 24 i0 (.agg #[.int .u64 0, .int .u64 0, .int .u64 0, .int .u64 0]) 4 32 Tryd.underlying31 hi0 hq0 hq1 hq2 rfl (by omega) W3.heap.size (.slice A k C) k (setsC (rset R) k) rfl (owns_thruS HO.out hB5) ⟨g5, 0, none⟩ 1 1 _ rfl hcn (box_news hs5) (by simp [Value.oneCell']) (by unfold maxLen; omega) (by omega) hsz5 ?_
        intro A' C' W6 hown' hG' _
        have hk6 := (Kept.of_below (F := fun y => (Value.slice A k C).ownBlock = some y) hB5).trans (hG'.kept (F := fun y => (Value.slice A k C).ownBlock = some y) (fun _ h => h)) (fun _ _ h => h)
        have H6 := hide (And.intro hown' (HB.out.trans (hk6.below (fun y hy => (owns_cells HO.out y hy).2.1) HB.out.size)))
        clear hown' hG' hk6 hb5 h56 h68 hB5 hsz5 hs5 hi0 hq0 hq1 hq2 hcl4 hch4 hcn
        refine wpOpIn_plain (o := swh13_ops[14]) rfl rfl (oper_inK (fun _ => trivial) (fun K hK => ?_))
        rw [Oper.semAt_plain Fence.wide _ _ (by intro c h; cases h)]
        simp only [swh13_ops, swh13_o14]
        go_simp
        refine hK _ _ ?_
        clear hK K
        go_wp2_with fail
        go_roundg q
        case measure => omega
        case rel =>
          have hkq9 := HH.out.2.2.2
          refine ⟨k + 1, A', C', by omega, by go_num, ?_, rfl, ?_, H6.out.2⟩
          · rw [HST.out.1]
            have : (((sm + (hi - lo + 1) : Nat)) : Int) = (sm : Int) + (hi : Int) - (lo : Int) + 1 := by omega
            rw [this]
          · have h := H6.out.1
            unfold setsC
            rw [HST.out.2]
            exact h
    | zero =>
      obtain rfl : k = m := by omega
      have hsum : rsum (R.take k) = (bl H 256).length := by
        rw [← hgood.out.sum, ← HM.out, List.take_length]
      rw [hsum]
      have hS := H3.out.2.1.below HB.out H3.out.2.1.lt
      have hSets := owns_sets HO.out
      have hT := HT.out.below (H3.out.1.trans (HB.out.mono H3.out.1.size))
      have HF := hide (And.intro hS (And.intro hSets hT))
      clear hS hSets hT hsum
      go_wp2_with fail
      refine (wpIn_wide (n := 0)).1 (swh14 wide_plain A k C w.heap.size (rset R) H _ _ _ _ _ rfl rfl rfl rfl HF.out.1 HF.out.2.1 (show k ≤ 1000 by omega) hany.out HF.out.2.2 rfl ?_)
      intro vs W5 hb5 h93
      simp only [List.foldl_cons, List.foldl_nil, List.setIfInBounds_toArray, List.set_cons_succ, List.set_cons_zero]
      rw [h93]
      have HB5 := hide ((H3.out.1.trans (HB.out.mono H3.out.1.size)).trans (hb5.mono (Nat.le_trans H3.out.1.size HB.out.size)))
      clear h93 hb5
      go_wp2_with fail
      go_ret
      exact ⟨rfl, HB5.out⟩
end Go.Proofs.YtmnjicpgdhnimaaDoor
