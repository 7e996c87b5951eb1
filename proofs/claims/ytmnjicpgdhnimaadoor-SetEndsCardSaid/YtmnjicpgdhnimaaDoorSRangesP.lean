/-
  set.Ranges.
-/
import Derived.Test.YtmnjicpgdhnimaaDoorSRgM
namespace Go.Proofs.YtmnjicpgdhnimaaDoor
open Go.RowKit Go.Shelf

attribute [local go_sem] Oper.semAt_some

/-- Between two rounds: the ranges so far, in a box. -/
def RgI (w0 : World) (B : Nat) (s : List Nat × (Nat → Prop)) (X : World) : Prop :=
  ∃ v, Boxed X B 43 v ∧ X.ownsRow w0.heap.size 45 2 v (rl s.1).length (rgc (rl s.1)) ∧ (∀ k, s.2 k ↔ k = B ∨ v.ownBlock = some k) ∧ Below w0.heap.size w0 X
theorem RgI.still {w0 : World} {B N : Nat} {s : List Nat × (Nat → Prop)} {X Y : World} (h : RgI w0 B s X) (hs : Still N X Y) (hN : w0.heap.size ≤ N) : RgI w0 B s Y := by
  obtain ⟨v, h1, h2, h3, h4⟩ := h
  exact ⟨v, Boxed.still h1 hs, owns_still h2 hs, h3, h4.trans (hs.below hN h4.size)⟩
theorem RgI.kept {w0 : World} {B N : Nat} {s : List Nat × (Nat → Prop)} {X Y : World} (h : RgI w0 B s X) (hs : KeptS N X Y) (hN : w0.heap.size ≤ N) : RgI w0 B s Y := by
  obtain ⟨v, h1, h2, h3, h4⟩ := h
  exact ⟨v, boxed_kept h1 hs (fun _ _ e => by cases e), owns_setsKept h2 hs (by decide), h3, h4.trans (hs.below hN h4.size)⟩
theorem RgI.own {w0 : World} {B N : Nat} (hN : w0.heap.size ≤ N) : OwnFrom N (RgI w0 B) := fun _ X _ _ h hg hr => h.still ((Still.refl N X).grown hg hr) hN
theorem RgI.turn {w0 X Y : World} {B N x : Nat} {v v' : Value} {pre : List Nat} {O : Nat → Prop} (hOO : ∀ k, O k ↔ k = B ∨ v.ownBlock = some k) (hB : Below w0.heap.size w0 X) (h2 : Boxed Y B 43 v') (hr : Y.ownsRow w0.heap.size 45 2 v' (rl (pre ++ [x])).length (rgc (rl (pre ++ [x]))))
    (hk : Kept (fun k => k = B ∨ v.ownBlock = some k) X Y) (ho : ∀ g, v'.ownBlock = some g → (v.ownBlock = some g ∨ X.heap.size ≤ g) ∧ g < Y.heap.size) (hown : ∀ k, v.ownBlock = some k → w0.heap.size ≤ k) (hBn : w0.heap.size ≤ B) :
    ownPostO N (RgI w0 B) (fun _ _ _ => False) (pre ++ [x]) O X .normal { tmps := #[], defers := [] } Y := by
  refine ⟨hk.keepsOthers.from _, fun k => k = B ∨ v'.ownBlock = some k, ⟨_, h2, hr, fun k => Iff.rfl, hB.trans (hk.below (fun k hk => ?_) hB.size)⟩, (KeptO.of_kept hk).mono (fun k h => (hOO k).2 h), fun k hk => ?_⟩
  · rcases hk with rfl | hk
    · exact hBn
    · exact hown k hk
  · rcases hk with rfl | hk
    · exact ⟨.inl ((hOO _).2 (.inl rfl)), h2.lt⟩
    · obtain ⟨h1 | h1, h2⟩ := ho k hk
      · exact ⟨.inl ((hOO _).2 (.inr h1)), h2⟩
      · exact ⟨.inr h1, h2⟩

set_option maxRecDepth 100000 in
set_option maxHeartbeats 4000000 in
theorem ranges_in (nn : Nat) (hnn : 20 ≤ nn) (H : Nat → Bool) (w : World) (hT : Tab w) :
    CallsIn Fence.wide nn Tryd.prog 26 #[sv H] w fun e w' => ∃ v, e = .returned v ∧ w'.ownsRow w.heap.size 45 2 v (rl (bl H 256)).length (rgc (rl (bl H 256))) ∧ Below w.heap.size w w' := by
  obtain ⟨i0, hi, hq0, hq1, hq2⟩ := info_parts info_pair
  have hw0 : 0 < w.heap.size := by have := block_lt_of_cell (hT 0 (by decide)); simpa using this
  obtain ⟨W1, hW1⟩ : ∃ W1, (w.alloc (.cells (st H) 24)).alloc (.cells #[.slice none 0 0] 43) = W1 := ⟨_, rfl⟩
  have hs1 : W1.heap.size = w.heap.size + 2 := by rw [← hW1]; simp
  have hB1 : Below w.heap.size w W1 := by rw [← hW1]; exact (((Below.refl _ _).alloc (Nat.le_refl _) _).alloc (by simp) _)
  have hbv : Boxed W1 (w.heap.size + 1) 43 (.slice none 0 0) := by rw [← hW1]; have := Boxed.new (w.alloc (.cells (st H) 24)) 43 (.slice none 0 0); rwa [World.size_alloc] at this
  have hbp := fun o => (SBox.new w w.heap.size H rfl).alloc o
  have b0 := fun o => (hbp o).cell 0 (by omega)
  have b1 := fun o => (hbp o).cell 1 (by omega)
  have b2 := fun o => (hbp o).cell 2 (by omega)
  have b3 := fun o => (hbp o).cell 3 (by omega)
  have HW1 := hide hW1
  have HS := hide (And.intro hs1 (And.intro hB1 hbv))
  clear hs1 hbv hbp hW1 hB1
  unfold sv
  refine callsIn_of_wp_marks Tryd.func26 rfl trivial ?_ rfl
  simp only [Tryd.ntmps26, List.size_toArray, List.length_cons, List.length_nil, Nat.reduceAdd, Nat.reduceSub, Array.replicate_succ, Array.replicate_zero, List.push_toArray, List.append_toArray, List.nil_append, List.cons_append]
  gi_wp2
  rw [HW1.out]
  clear b0 b1 b2 b3
  refine ⟨trivial, wide_deep, (bytesOf_in Fence.wide (nn - 1) trivial rfl H _).mono ?_⟩
  rintro e W2 ⟨rfl, rfl⟩
  obtain ⟨W2, hW2⟩ : ∃ W2, W1.alloc (.cells (st H) 24) = W2 := ⟨_, rfl⟩
  rw [hW2]
  gi_wp2
  have hs2 : W2.heap.size = W1.heap.size + 1 := by rw [← hW2]; simp
  have hB2 : Below W1.heap.size W1 W2 := by rw [← hW2]; exact below_alloc _ _
  have hBw : Below w.heap.size w W2 := HS.out.2.1.trans (hB2.mono HS.out.2.1.size)
  have hseq := bytes_seq (nn - 1) W1.heap.size H W2 (by rw [← hW2]; exact SBox.new _ _ _ rfl) (hT.below hBw)
  have hI0 : RgI w (w.heap.size + 1) ([], fun k => k = w.heap.size + 1) W2 := ⟨_, by rw [← hW2]; exact HS.out.2.2.alloc _, World.ownsRow_nil _ _ _ _, fun k => by simp [Value.ownBlock], hBw⟩
  have HSZ := hide (And.intro hs2 HS.out.1)
  have HBW := hide hBw
  clear hs2 hB2 hW2
  refine wpIn_rangeFunc_N rfl (by omega) (gf := 43) (lb := #[.pointer (some ⟨W1.heap.size, 0, none⟩)]) rfl trivial (enters_of Tryd.func43 (by kernel_rfl) rfl)
    hseq (fun pre x A B h => h.1.to) (fun xs A B h => h.1.to) (fun xs A B h => h.1.to) (Below.refl _ _) (fun _ => rfl)
    (RgI w (w.heap.size + 1)) (fun _ _ _ => False) (fun s x X => RgI w (w.heap.size + 1) s X ∧ s.1 = bl H x ∧ x < 256) (fun xs X => (∃ O, RgI w (w.heap.size + 1) (xs, O) X) ∧ xs = bl H 256) (fun _ _ _ => False)
    (RgI.own hBw.size) (fun _ _ _ _ _ h _ _ => h) ?ee (fun _ _ _ _ _ h _ _ => h) (fun pre O x A B h g => ⟨h.kept g.1 (by have := HBW.out.size; omega), g.2.1, g.2.2.2⟩) (fun xs O A B h g => ⟨⟨O, h.kept g.1 (by have := HBW.out.size; omega)⟩, g.2⟩) (fun _ _ _ _ h _ => h)
    (fun k => k = w.heap.size + 1) (fun k hk => ⟨fun h => by have := HSZ.out; rcases h with h | h <;> omega, by have := HSZ.out; omega⟩) hI0
    (fun s x a' X => a' = { tmps := #[.agg (st H), .pointer (some ⟨w.heap.size, 0, none⟩), .slice none 0 0, .pointer (some ⟨w.heap.size + 1, 0, none⟩), .int .u8 (x : Nat), undef, .agg #[.int .u64 (wd H 0 : Nat), .int .u64 (wd H 1 : Nat), .int .u64 (wd H 2 : Nat), .int .u64 (wd H 3 : Nat)], .func (.func 43) #[] #[.pointer (some ⟨W1.heap.size, 0, none⟩)], .int .u8 (x : Nat), undef, undef, undef, undef, undef, undef, undef, undef, undef, undef, undef, undef, undef, undef, undef, undef, undef, undef, undef, undef, undef, undef, undef, undef, undef, undef, undef], defers := [] } ∧ RgI w (w.heap.size + 1) s X ∧ s.1 = bl H x ∧ x < 256)
    ?m2 ?assign ?body ?done (fun _ _ _ _ _ h _ => h.elim)
  case ee =>
    rintro xs X Y row ⟨⟨O, h1⟩, h2⟩ hg hr
    exact ⟨⟨O, RgI.own hBw.size _ X Y row h1 hg hr⟩, h2⟩
  case m2 =>
    rintro x a' s X Y row ⟨h1, h2, h3⟩ hg hr
    exact ⟨h1, RgI.own hBw.size _ X Y row h2 hg hr, h3⟩
  case assign =>
    intro l' pre O x X K hM2 hK
    have HK := hide (hK _ X ((KeepsFrom.refl _ _)) (KeptO.refl _ _) ⟨rfl, hM2⟩)
    clear hK hM2 hI0 hseq
    simp only [encB]
    gi_wp2
    exact HK.out
  case body =>
    rintro l' pre O x a' X ⟨rfl, ⟨v, hv, hrow, hOO, hB⟩, hpre, hx⟩
    simp only at hrow hOO hpre
    have hsz := hB.size
    have hlen : (rl pre).length ≤ 256 := by have h1 := rl_length pre; have h2 := bl_length_le H x; rw [hpre] at h1 ⊢; omega
    have hlt := rl_small x pre (fun b hb => by rw [hpre] at hb; exact (mem_bl.1 hb).1)
    have hsn := rl_snoc pre x
    have hownb := fun k hk => (owns_cells hrow k hk).2.1
    obtain ⟨R, hR⟩ : ∃ R, rl pre = R := ⟨_, rfl⟩
    rw [hR] at hrow hlen hlt hsn
    obtain ⟨A, C, rfl⟩ := owns_slice hrow
    have hc0 := hv.cell
    have hf0 := hv.frozen
    have HX := hide (And.intro hv (And.intro hOO hB))
    have HSN := hide hsn
    have HOWN := hide hownb
    clear hI0 hseq hBw hT hv hOO hB hpre hR hsn hownb
    rcases List.eq_nil_or_concat R with rfl | ⟨R', ⟨lo, hb⟩, rfl⟩
    · have HR := hide hrow
      clear hrow hlt
      simp only [List.length_nil] at hc0 HX HR HOWN
      have hnew := cell_two_new X (.int .u8 (x : Nat)) (.int .u8 (x : Nat)) 45
      have hrA := owns_thruS HR.out (below_alloc X (.cells #[.int .u8 (x : Nat), .int .u8 (x : Nat)] 45))
      gi_wp2_with (gi_at_builtin; refine listIn_appendS _ rfl _ _ 43 rfl 45 i0 (.agg #[.int .u8 0, .int .u8 0]) 2 2 Tryd.underlying43 hi hq0 hq1 hq2 rfl (by omega) w.heap.size (.slice A 0 C) 0 (rgc []) rfl hrA ⟨X.heap.size, 0, none⟩ 1 1 [.int .u8 (x : Nat), .int .u8 (x : Nat)] rfl rfl hnew (by simp [Value.oneCell']) (by unfold maxLen; omega) (by omega) (by simp; omega) ?_; intro A' C' w1 hown' hG' _; obtain ⟨hv1, hv2, hr2, hk2, ho2⟩ := grow_postS HX.out.1 (by decide) HR.out hown' hG'; have hc1 := hv1.cell; have hf1 := hv1.frozen)
      exact RgI.turn HX.out.2.1 HX.out.2.2 hv2 (by rw [HSN.out, addR_nil]; exact hr2) hk2 ho2 HOWN.out (Nat.le_succ _)
    · rw [List.concat_eq_append] at *
      obtain ⟨q, hq⟩ : ∃ q, (R' ++ [(lo, hb)]).length = q := ⟨_, rfl⟩
      have hq1' : q = R'.length + 1 := by rw [← hq]; simp
      rw [hq] at hrow hlen hc0 HX HOWN
      have hlo := (hlt (lo, hb) (by simp)).1
      have hhi := (hlt (lo, hb) (by simp)).2
      simp only at hlo hhi
      obtain ⟨g, C', e, hcl, hfr, hqC, hCm⟩ := owns_cellS hrow (rgc_last R' lo hb)
      cases e
      have HR := hide hrow
      have hsub : (q : Int) - 1 = (R'.length : Int) := by omega
      have hr0 : (0 : Int) ≤ (R'.length : Int) := by omega
      have hr1 : (R'.length : Int) < (q : Int) := by omega
      have hw8 : IntKind.u8.wrap ((hb : Int) + 1) = (hb : Int) + 1 := by rw [IntKind.wrap_u8]; omega
      clear hrow hlt hq
      by_cases hh : hb + 1 = x
      · have hd : (((hb : Nat) : Int) + 1 == ((x : Nat) : Int)) = true := by simp; omega
        gi_wp2
        subst hq1'
        have hk : Kept (fun k => k = w.heap.size + 1 ∨ (Value.slice (some ⟨g, 0, none⟩) (R'.length + 1) C).ownBlock = some k) X (X.setCell ⟨g, R'.length * 2 + 1, none⟩ (.int .u8 (x : Nat))) := (Kept.refl _ X).setCell (p := ⟨g, R'.length * 2 + 1, none⟩) (.inl (.inr rfl)) _
        have hk1 : Kept (fun k => k = g) X (X.setCell ⟨g, R'.length * 2 + 1, none⟩ (.int .u8 (x : Nat))) := (Kept.refl (fun k => k = g) X).setCell (p := ⟨g, R'.length * 2 + 1, none⟩) (.inl rfl) _
        have hne : w.heap.size + 1 ≠ g := fun e => HX.out.1.not_row (by decide) HR.out (by rw [e]; rfl)
        have hs := owns_setS (i := R'.length * 2 + 1) HR.out rfl (.int .u8 (x : Nat))
        rw [rgc_set] at hs
        exact RgI.turn HX.out.2.1 HX.out.2.2 (hk1.heap HX.out.1 hne) (by rw [HSN.out, addR_yes _ _ _ _ hh]; simpa using hs) hk (fun k h => ⟨.inl h, (owns_cells hs k h).1⟩) HOWN.out (Nat.le_succ _)
      · have hd : (((hb : Nat) : Int) + 1 == ((x : Nat) : Int)) = false := by simp; omega
        have hnew := cell_two_new X (.int .u8 (x : Nat)) (.int .u8 (x : Nat)) 45
        subst hq1'
        have hrA := owns_thruS HR.out (below_alloc X (.cells #[.int .u8 (x : Nat), .int .u8 (x : Nat)] 45))
        gi_wp2_with (gi_at_builtin; refine listIn_appendS _ rfl _ _ 43 rfl 45 i0 (.agg #[.int .u8 0, .int .u8 0]) 2 2 Tryd.underlying43 hi hq0 hq1 hq2 rfl (by omega) w.heap.size (.slice (some ⟨g, 0, none⟩) (R'.length + 1) C) (R'.length + 1) (rgc (R' ++ [(lo, hb)])) rfl hrA ⟨X.heap.size, 0, none⟩ 1 1 [.int .u8 (x : Nat), .int .u8 (x : Nat)] rfl rfl hnew (by simp [Value.oneCell']) (by unfold maxLen; omega) (by omega) (by simp; omega) ?_; intro A' C' w1 hown' hG' _; obtain ⟨hv1, hv2, hr2, hk2, ho2⟩ := grow_postS HX.out.1 (by decide) HR.out hown' hG'; have hc1 := hv1.cell; have hf1 := hv1.frozen)
        exact RgI.turn HX.out.2.1 HX.out.2.2 hv2 (by rw [HSN.out, addR_no _ _ _ _ hh, rgc_append]; simp only [List.length_append, List.length_cons, List.length_nil, Nat.zero_add]; exact hr2) hk2 ho2 HOWN.out (Nat.le_succ _)
  case done =>
    rintro D xs X hD ⟨⟨O, v, hv, hrow, hOO, hB⟩, rfl⟩ hKD
    have hc0 := hv.cell
    have HR := hide hrow
    have HB := hide hB
    clear hI0 hv hrow hOO hB hT hseq hBw
    gi_wp2
    refine ⟨by simp, .inl ⟨D, _, rfl, run_takeDeferred hKD, ?_⟩⟩
    exact ⟨_, results_tmp rfl _ _ _, v, rfl, ownsRow_putObj HR.out _ hKD rfl, HB.out.trans (belowK_b (w := w) (Nat.le_refl _) X D _ _ (by have := HSZ.out; omega) hKD rfl rfl)⟩
theorem ranges_any (H : Nat → Bool) (w : World) (hT : Tab w) :
    Calls Tryd.prog 26 #[sv H] w fun e w' => ∃ v, e = .returned v ∧ w'.ownsRow w.heap.size 45 2 v (rl (bl H 256)).length (rgc (rl (bl H 256))) ∧ Below w.heap.size w w' := callsIn_wide.1 (ranges_in 20 (by omega) H w hT)
end Go.Proofs.YtmnjicpgdhnimaaDoor
