/-
  set.Fold.
-/
import Derived.Test.YtmnjicpgdhnimaaDoorSMeetP
import Derived.Test.YtmnjicpgdhnimaaDoorSFold
namespace Go.Proofs.YtmnjicpgdhnimaaDoor
open Go.RowKit Go.Shelf

attribute [local go_sem] Oper.semAt_some

/-- H, and the other cases of L. -/
def fo (H : Nat → Bool) (L : List Nat) (b : Nat) : Bool := H b || L.any fun x => decide (x ^^^ 32 = b)
theorem fo_nil (H : Nat → Bool) (b : Nat) : fo H [] b = H b := by simp [fo]
theorem fo_put (H : Nat → Bool) (L : List Nat) (x b : Nat) : plus (fo H L) (x ^^^ 32) b = fo H (L ++ [x]) b := by
  unfold plus fo
  rw [List.any_append]
  simp only [List.any_cons, List.any_nil, Bool.or_false]
  rw [show decide (b = x ^^^ 32) = decide (x ^^^ 32 = b) from decide_eq_decide.2 eq_comm]
  cases H b <;> cases (L.any fun x => decide (x ^^^ 32 = b)) <;> cases decide (x ^^^ 32 = b) <;> rfl
def letters : Nat → Bool := anyS (two (rng 65 90) (rng 97 122)) 2
theorem letters_eq (b : Nat) : letters b = (rng 65 90 b || rng 97 122 b) := by simp [letters, anyS, two]
theorem case_of (b : Nat) (h : b < 256) : b ^^^ 32 = if b / 32 % 2 = 1 then b - 32 else b + 32 := by
  have key : ∀ b : Fin 256, b.val ^^^ 32 = if b.val / 32 % 2 = 1 then b.val - 32 else b.val + 32 := by decide +kernel
  exact key ⟨b, h⟩
theorem fo_fold (H : Nat → Bool) (b : Nat) (hb : b < 256) : fo H (bl (fun c => H c && letters c) 256) b = fold H b := by
  have hx := case_of b hb
  have hxx : (b ^^^ 32) ^^^ 32 = b := by rw [Nat.xor_assoc, Nat.xor_self, Nat.xor_zero]
  have hany : ((bl (fun c => H c && letters c) 256).any fun x => decide (x ^^^ 32 = b)) = (H (b ^^^ 32) && letters (b ^^^ 32)) := by
    rw [Bool.eq_iff_iff, List.any_eq_true]
    constructor
    · rintro ⟨x, hm, hd⟩
      have h2 := (mem_bl.1 hm).2
      have h3 : x ^^^ 32 = b := by simpa using hd
      rw [← h3, Nat.xor_assoc, Nat.xor_self, Nat.xor_zero]
      exact h2
    · intro h
      refine ⟨b ^^^ 32, mem_bl.2 ⟨?_, h⟩, by simpa using hxx⟩
      rw [hx]
      split <;> omega
  unfold fo
  rw [hany, letters_eq, hx]
  unfold fold foB rng
  rcases (by omega : b < 65 ∨ (65 ≤ b ∧ b ≤ 90) ∨ (90 < b ∧ b < 97) ∨ (97 ≤ b ∧ b ≤ 122) ∨ 122 < b) with h | h | h | h | h
  · have e1 : ¬ 97 ≤ b := by omega
    have e2 : ¬ 65 ≤ b := by omega
    have e3 : ∀ c, (c = b - 32 ∨ c = b + 32) → b / 32 % 2 = 1 ∧ c = b - 32 ∨ b / 32 % 2 = 0 ∧ c = b + 32 → (decide (65 ≤ c) && decide (c ≤ 90) || decide (97 ≤ c) && decide (c ≤ 122)) = false := by
      intro c _ hc
      have : ¬ (65 ≤ c ∧ c ≤ 90) ∧ ¬ (97 ≤ c ∧ c ≤ 122) := by omega
      simp; omega
    split
    · rw [e3 (b - 32) (.inl rfl) (.inl ⟨by assumption, rfl⟩)]; simp [e1, e2]
    · rw [e3 (b + 32) (.inr rfl) (.inr ⟨by omega, rfl⟩)]; simp [e1, e2]
  · rw [if_neg (by omega)]
    have e1 : ¬ 97 ≤ b := by omega
    have e2 : 65 ≤ b := by omega
    have e3 : b + 32 < 123 := by omega
    have e4 : 97 ≤ b + 32 := by omega
    have e5 : b + 32 ≤ 122 := by omega
    simp [e1, e2, e3, e4, e5]
    cases H b <;> cases H (b + 32) <;> rfl
  · have e1 : ¬ 97 ≤ b := by omega
    have e2 : ¬ b + 32 < 123 := by omega
    have e3 : ∀ c, b / 32 % 2 = 1 ∧ c = b - 32 ∨ b / 32 % 2 = 0 ∧ c = b + 32 → (decide (65 ≤ c) && decide (c ≤ 90) || decide (97 ≤ c) && decide (c ≤ 122)) = false := by
      intro c hc
      simp; omega
    split
    · rw [e3 (b - 32) (.inl ⟨by assumption, rfl⟩)]; simp [e1, e2]
    · rw [e3 (b + 32) (.inr ⟨by omega, rfl⟩)]; simp [e1, e2]
  · rw [if_pos (by omega)]
    have e1 : 97 ≤ b := by omega
    have e2 : b < 123 := by omega
    have e3 : ¬ b + 32 < 123 := by omega
    have e4 : 65 ≤ b - 32 := by omega
    have e5 : b - 32 ≤ 90 := by omega
    simp [e1, e2, e3, e4, e5]
  · have e1 : ¬ b < 123 := by omega
    have e2 : ¬ b + 32 < 123 := by omega
    have e3 : ∀ c, b / 32 % 2 = 1 ∧ c = b - 32 ∨ b / 32 % 2 = 0 ∧ c = b + 32 → (decide (65 ≤ c) && decide (c ≤ 90) || decide (97 ≤ c) && decide (c ≤ 122)) = false := by
      intro c hc
      simp; omega
    split
    · rw [e3 (b - 32) (.inl ⟨by assumption, rfl⟩)]; simp [e1, e2]
    · rw [e3 (b + 32) (.inr ⟨by omega, rfl⟩)]; simp [e1, e2]

/-- Between two rounds. -/
def FoI (w0 : World) (bo br : Nat) (H : Nat → Bool) (s : List Nat × (Nat → Prop)) (X : World) : Prop :=
  SBox X bo (fo H s.1) ∧ SBox X br nobs ∧ (∀ k, s.2 k ↔ k = bo) ∧ Below w0.heap.size w0 X
theorem FoI.own {w0 : World} {bo br N : Nat} {H : Nat → Bool} (hN : w0.heap.size ≤ N) : OwnFrom N (FoI w0 bo br H) := fun _ X _ _ ⟨h1, h2, h4, h5⟩ hg hr => by
  have hs := (Still.refl N X).grown hg hr
  exact ⟨h1.still hs, h2.still hs, h4, h5.trans (hs.below hN h5.size)⟩
theorem FoI.kept {w0 : World} {bo br N : Nat} {H : Nat → Bool} {s : List Nat × (Nat → Prop)} {X Y : World} (h : FoI w0 bo br H s X) (hs : KeptS N X Y) (hN : w0.heap.size ≤ N) (hn : bo < N) (hr : br < N) : FoI w0 bo br H s Y := by
  obtain ⟨h1, h2, h4, h5⟩ := h
  exact ⟨hs.same _ _ h1 (.inl hn), hs.same _ _ h2 (.inl hr), h4, h5.trans (hs.below hN h5.size)⟩
theorem FoI.put {w0 X Y : World} {bo br x B : Nat} {H G : Nat → Bool} {pre : List Nat} {O : Nat → Prop} (h : FoI w0 bo br H (pre, O) X) (hb : Below X.heap.size X Y) (hG : ∀ b, b < 256 → G b = fo H (pre ++ [x]) b) (hn : w0.heap.size ≤ bo) (hne : br ≠ bo) :
    ownPostO B (FoI w0 bo br H) (fun _ _ _ => False) (pre ++ [x]) O X .normal { tmps := #[], defers := [] } ((((Y.setCell ⟨bo, 0, none⟩ (.int .u64 (wd G 0 : Nat))).setCell ⟨bo, 1, none⟩ (.int .u64 (wd G 1 : Nat))).setCell ⟨bo, 2, none⟩ (.int .u64 (wd G 2 : Nat))).setCell ⟨bo, 3, none⟩ (.int .u64 (wd G 3 : Nat))) := by
  obtain ⟨hO, hR, hOO, hB⟩ := h
  have hk := four_kept Y bo (.int .u64 (wd G 0 : Nat)) (.int .u64 (wd G 1 : Nat)) (.int .u64 (wd G 2 : Nat)) (.int .u64 (wd G 3 : Nat))
  refine ⟨(below_keepsFrom hb).trans (hk.keepsOthers.from _), O, ⟨((hO.below hb hO.lt).four G).congr _ hG, ?_, hOO, ?_⟩, (below_keptO hb).trans ((KeptO.of_kept hk).mono fun k h => (hOO k).2 h), fun k h => ⟨.inl h, ?_⟩⟩
  · exact hk.heap (hR.below hb hR.lt) hne
  · exact (hB.trans (hb.mono hB.size)).trans (hk.below (fun k h => by omega) (by have := hb.size; have := hB.size; omega))
  · have := (hOO k).1 h
    have := hO.lt
    have := hb.size
    have := hk.size
    simp only at *
    omega

set_option maxRecDepth 100000 in
set_option maxHeartbeats 4000000 in
theorem fold_in (nn : Nat) (hnn : 20 ≤ nn) (H : Nat → Bool) (w : World) (hT : Tab w) :
    CallsIn Fence.wide nn Tryd.prog 24 #[sv H] w fun e w' => e = .returned (sv (fold H)) ∧ Below w.heap.size w w' := by
  have hw0 : 0 < w.heap.size := by have := block_lt_of_cell (hT 0 (by decide)); simpa using this
  obtain ⟨W1, hW1⟩ : ∃ W1, (w.alloc (.cells (st H) 24)).alloc (.cells (st nobs) 24) = W1 := ⟨_, rfl⟩
  have hs1 : W1.heap.size = w.heap.size + 2 := by rw [← hW1]; simp
  have hB1 : Below w.heap.size w W1 := by rw [← hW1]; exact (((Below.refl _ _).alloc (Nat.le_refl _) _).alloc (by simp) _)
  have hbp : SBox W1 w.heap.size H := by rw [← hW1]; exact (SBox.new _ _ _ rfl).alloc _
  have hbr : SBox W1 (w.heap.size + 1) nobs := by rw [← hW1]; exact SBox.new _ _ _ (by simp)
  have HW1 := hide hW1
  have HS := hide (And.intro hs1 hB1)
  have HI := hide (And.intro hbp hbr)
  have hzero := zeroSet
  clear hs1 hbp hbr hW1 hB1
  unfold sv
  refine callsIn_of_wp_marks Tryd.func24 rfl trivial ?_ rfl
  simp only [Tryd.ntmps24, List.size_toArray, List.length_cons, List.length_nil, Nat.reduceAdd, Nat.reduceSub, Array.replicate_succ, Array.replicate_zero, List.push_toArray, List.append_toArray, List.nil_append, List.cons_append]
  gi_wp2
  rw [HW1.out]
  clear hzero
  refine ⟨trivial, wide_deep, (callsIn_wide.2 (range_any 65 90 W1 (by omega) (by omega))).mono ?_⟩
  rintro e W2 ⟨rfl, hb2⟩
  have HB2 := hide hb2
  clear hb2
  simp only [sv, st, sc]
  gi_wp2
  refine ⟨trivial, wide_deep, (callsIn_wide.2 (range_any 97 122 W2 (by omega) (by omega))).mono ?_⟩
  rintro e W3 ⟨rfl, hb3⟩
  have HB3 := hide hb3
  clear hb3
  simp only [sv, st, sc]
  gi_wp2
  refine ⟨trivial, wide_deep, (callsIn_wide.2 (union_any _ 2 2 (two (rng 65 90) (rng 97 122)) _ (by omega) (two_sets W3 W3.heap.size rfl (rng 65 90) (rng 97 122) _))).mono ?_⟩
  rintro e W4 ⟨rfl, hb4⟩
  have HB4 := hide ((below_alloc W3 _).trans (hb4.mono (show W3.heap.size ≤ _ by simp)))
  clear hb4
  have hB4 : Below W1.heap.size W1 W4 := HB2.out.trans ((HB3.out.trans (HB4.out.mono HB3.out.size)).mono HB2.out.size)
  have hbx := HI.out.1.below hB4 HI.out.1.lt
  have c0 := hbx.cell 0 (by omega)
  have c1 := hbx.cell 1 (by omega)
  have c2 := hbx.cell 2 (by omega)
  have c3 := hbx.cell 3 (by omega)
  have HB5 := hide hB4
  have hA : ∀ X, SBox (W4.alloc X) w.heap.size H := fun X => hbx.alloc X
  have hAA : ∀ X Y, SBox ((W4.alloc X).alloc Y) w.heap.size H := fun X Y => (hbx.alloc X).alloc Y
  have a0 := fun X => (hA X).cell 0 (by omega)
  have a1 := fun X => (hA X).cell 1 (by omega)
  have a2 := fun X => (hA X).cell 2 (by omega)
  have a3 := fun X => (hA X).cell 3 (by omega)
  have e0 := fun X Y => (hAA X Y).cell 0 (by omega)
  have e1 := fun X Y => (hAA X Y).cell 1 (by omega)
  have e2 := fun X Y => (hAA X Y).cell 2 (by omega)
  have e3 := fun X Y => (hAA X Y).cell 3 (by omega)
  clear hB4 hbx hA hAA
  simp only [sv, st, sc]
  gi_wp2
  clear c0 c1 c2 c3 a0 a1 a2 a3 e0 e1 e2 e3
  obtain ⟨W5, hW5⟩ : ∃ W5, (W4.alloc (.cells (st (anyS (two (rng 65 90) (rng 97 122)) 2)) 24)).alloc (.cells (st H) 24) = W5 := ⟨_, rfl⟩
  have hB45 : Below W4.heap.size W4 W5 := by rw [← hW5]; exact (below_alloc _ _).alloc (by simp) _
  have hs5 : W5.heap.size = W4.heap.size + 2 := by rw [← hW5]; simp
  have hbo : SBox W5 (W4.heap.size + 1) H := by rw [← hW5]; exact SBox.new _ _ _ (by simp)
  simp only [st, sc] at hW5
  rw [hW5]
  have hB1w : Below w.heap.size w W5 := HS.out.2.trans ((HB5.out.trans (hB45.mono HB5.out.size)).mono HS.out.2.size)
  refine ⟨trivial, wide_deep, (callsIn_wide.2 (meet_any _ 2 2 (two H letters) _ (by omega) (two_sets W5 _ (by omega) H letters _) ((hT.below hB1w).below (below_alloc _ _)))).mono ?_⟩
  rintro e W6 ⟨rfl, hb6⟩
  rw [show sv (allS (two H letters) 2) = sv (fun c => H c && letters c) from sv_congr _ _ fun b _ => by simp [allS, two]]
  have HB6 := hide ((below_alloc W5 _).trans (hb6.mono (show W5.heap.size ≤ _ by simp)))
  have HW5 := hide (And.intro hs5 (And.intro hbo hB1w))
  obtain ⟨M, hM⟩ : ∃ M : Nat → Bool, (fun c => H c && letters c) = M := ⟨_, rfl⟩
  rw [hM]
  have HM := hide hM
  have HB45 := hide hB45
  clear hs5 hbo hB1w hB45 hb6 hW5 hM
  gi_wp2
  refine ⟨trivial, wide_deep, (bytesOf_in Fence.wide (nn - 1) trivial rfl M _).mono ?_⟩
  rintro e W7 ⟨rfl, rfl⟩
  obtain ⟨W7, hW7⟩ : ∃ W7, W6.alloc (.cells (st M) 24) = W7 := ⟨_, rfl⟩
  rw [hW7]
  gi_wp2
  have hs7 : W7.heap.size = W6.heap.size + 1 := by rw [← hW7]; simp
  have hB7 : Below W6.heap.size W6 W7 := by rw [← hW7]; exact below_alloc _ _
  have hB57 : Below W5.heap.size W5 W7 := below_thru HB6.out hB7
  have hBw : Below w.heap.size w W7 := HW5.out.2.2.trans (hB57.mono HW5.out.2.2.size)
  have hsz : W4.heap.size + 2 ≤ W6.heap.size ∧ w.heap.size + 2 ≤ W4.heap.size := by have := HB6.out.size; have := HW5.out.1; have := HB5.out.size; have := HS.out.1; omega
  have hseq := bytes_seq (nn - 1) W6.heap.size M W7 (by rw [← hW7]; exact SBox.new _ _ _ rfl) (hT.below hBw)
  have hbr5 : SBox W7 (w.heap.size + 1) nobs := by
    have h := HI.out.2.below HB5.out HI.out.2.lt
    have h4 : w.heap.size + 1 < W4.heap.size := by omega
    have hB47 : Below W4.heap.size W4 W7 := by
      refine Below.trans ?_ (hB57.mono (by have := HW5.out.1; omega))
      exact ⟨HB45.out.os, HB45.out.tape, HB45.out.output, HB45.out.size, HB45.out.block⟩
    exact h.below hB47 h4
  have hI0 : FoI w (W4.heap.size + 1) (w.heap.size + 1) H ([], fun k => k = W4.heap.size + 1) W7 :=
    ⟨(HW5.out.2.1.below hB57 HW5.out.2.1.lt).congr _ fun b _ => (fo_nil _ b).symm, hbr5, fun k => Iff.rfl, hBw⟩
  have hks : ∀ k, k = W4.heap.size + 1 → ¬ ksB W6.heap.size k ∧ k < W7.heap.size := fun k hk => ⟨fun h => by rcases h with h | h <;> omega, by omega⟩
  have HSZ := hide (And.intro hsz hs7)
  have HBW := hide hBw
  clear hs7 hB7 hB57 hsz hW7 hbr5
  refine wpIn_rangeFunc_N rfl (by omega) (gf := 43) (lb := #[.pointer (some ⟨W6.heap.size, 0, none⟩)]) rfl trivial (enters_of Tryd.func43 (by kernel_rfl) rfl)
    hseq (fun pre x A B h => h.1.to) (fun xs A B h => h.1.to) (fun xs A B h => h.1.to) (Below.refl _ _) (fun _ => rfl)
    (FoI w (W4.heap.size + 1) (w.heap.size + 1) H) (fun _ _ _ => False) (fun s x X => FoI w (W4.heap.size + 1) (w.heap.size + 1) H s X ∧ x < 256) (fun xs X => (∃ O, FoI w (W4.heap.size + 1) (w.heap.size + 1) H (xs, O) X) ∧ xs = bl M 256) (fun _ _ _ => False)
    (FoI.own hBw.size) (fun _ _ _ _ _ h _ _ => h) ?ee (fun _ _ _ _ _ h _ _ => h) (fun pre O x A B h g => ⟨h.kept g.1 (by have := HBW.out.size; omega) (by have := HSZ.out; omega) (by have := HSZ.out; omega), g.2.2.2⟩) (fun xs O A B h g => ⟨⟨O, h.kept g.1 (by have := HBW.out.size; omega) (by have := HSZ.out; omega) (by have := HSZ.out; omega)⟩, g.2⟩) (fun _ _ _ _ h _ => h)
    (fun k => k = W4.heap.size + 1) hks hI0
    (fun s x a' X => a' = { tmps := #[.agg #[.int .u64 (wd H 0 : Nat), .int .u64 (wd H 1 : Nat), .int .u64 (wd H 2 : Nat), .int .u64 (wd H 3 : Nat)], .pointer (some ⟨w.heap.size, 0, none⟩), .pointer (some ⟨w.heap.size + 1, 0, none⟩), .pointer (some ⟨W4.heap.size, 0, none⟩), .pointer (some ⟨W4.heap.size + 1, 0, none⟩), .int .u8 (x : Nat), .agg #[.int .u64 (wd (rng 65 90) 0 : Nat), .int .u64 (wd (rng 65 90) 1 : Nat), .int .u64 (wd (rng 65 90) 2 : Nat), .int .u64 (wd (rng 65 90) 3 : Nat)], .agg #[.int .u64 (wd (rng 97 122) 0 : Nat), .int .u64 (wd (rng 97 122) 1 : Nat), .int .u64 (wd (rng 97 122) 2 : Nat), .int .u64 (wd (rng 97 122) 3 : Nat)], .slice (some ⟨W3.heap.size, 0, none⟩) 2 2, .agg #[.int .u64 (wd (anyS (two (rng 65 90) (rng 97 122)) 2) 0 : Nat), .int .u64 (wd (anyS (two (rng 65 90) (rng 97 122)) 2) 1 : Nat), .int .u64 (wd (anyS (two (rng 65 90) (rng 97 122)) 2) 2 : Nat), .int .u64 (wd (anyS (two (rng 65 90) (rng 97 122)) 2) 3 : Nat)], .agg #[.int .u64 (wd H 0 : Nat), .int .u64 (wd H 1 : Nat), .int .u64 (wd H 2 : Nat), .int .u64 (wd H 3 : Nat)], .agg #[.int .u64 (wd H 0 : Nat), .int .u64 (wd H 1 : Nat), .int .u64 (wd H 2 : Nat), .int .u64 (wd H 3 : Nat)], .agg #[.int .u64 (wd (anyS (two (rng 65 90) (rng 97 122)) 2) 0 : Nat), .int .u64 (wd (anyS (two (rng 65 90) (rng 97 122)) 2) 1 : Nat), .int .u64 (wd (anyS (two (rng 65 90) (rng 97 122)) 2) 2 : Nat), .int .u64 (wd (anyS (two (rng 65 90) (rng 97 122)) 2) 3 : Nat)], .slice (some ⟨W4.heap.size + 1 + 1, 0, none⟩) 2 2, sv M, .func (.func 43) #[] #[.pointer (some ⟨W6.heap.size, 0, none⟩)], .int .u8 (x : Nat), undef, undef, undef, undef, undef, undef, undef, undef], defers := [] } ∧ FoI w (W4.heap.size + 1) (w.heap.size + 1) H s X ∧ x < 256)
    ?m2 ?assign ?body ?done (fun _ _ _ _ _ h _ => h.elim)
  case ee =>
    rintro xs X Y row ⟨⟨O, h1⟩, h2⟩ hg hr
    exact ⟨⟨O, FoI.own hBw.size _ X Y row h1 hg hr⟩, h2⟩
  case m2 =>
    rintro x a' s X Y row ⟨h1, h2, h3⟩ hg hr
    exact ⟨h1, FoI.own hBw.size _ X Y row h2 hg hr, h3⟩
  case assign =>
    intro l' pre O x X K hM2 hK
    have HK := hide (hK _ X ((KeepsFrom.refl _ _)) (KeptO.refl _ _) ⟨rfl, hM2⟩)
    clear hK hM2 hI0 hseq
    simp only [encB]
    gi_wp2
    exact HK.out
  case body =>
    rintro l' pre O x a' X ⟨rfl, HX, hx⟩
    have HX := hide HX
    have hO2 := hide HX.out.1
    have hxor := hide (u8_xor_nat x 32 hx (by omega))
    have hx2 : x ^^^ 32 < 256 := by rw [case_of x hx]; split <;> omega
    clear hI0 hseq hks hBw hT
    gi_wp2
    refine sputF l' x (x ^^^ 32) (W4.heap.size + 1) (fo H pre) _ _ _ _ rfl rfl rfl hO2.out hx2 hxor ?_
    intro vs w4 hB4 h26
    obtain ⟨g4, h26, hs4⟩ := h26
    simp only [List.foldl_cons, List.foldl_nil, List.setIfInBounds_toArray, List.set_cons_succ, List.set_cons_zero]
    rw [h26]
    have hB5 := hide hB4
    clear hB4 h26
    generalize vs 17 = y17
    generalize vs 18 = y18
    generalize vs 19 = y19
    generalize vs 20 = y20
    generalize vs 21 = y21
    refine wpOpIn_plain (o := sputF_ops[6]) rfl rfl (oper_inK (fun _ => trivial) (fun K hK => ?_))
    rw [Oper.semAt_plain (Fence.wide.inRound l') _ _ (by intro c h; cases h)]
    simp only [sputF_ops]
    go_simp
    refine ⟨wide_deep, (CallsIn.inRound l' (callsIn_wide.2 (union_any _ 2 2 _ _ (by omega) hs4))).mono ?_⟩
    rintro e w5 ⟨rfl, hb5⟩
    refine hK _ _ ?_
    clear hK K
    have HB6 := hide (hB5.out.trans (hb5.mono hB5.out.size))
    have hS5 := HX.out.1.below HB6.out HX.out.1.lt
    have f0 := hS5.frozen 0
    have f1 := hS5.frozen 1
    have f2 := hS5.frozen 2
    have f3 := hS5.frozen 3
    have d0 := hS5.cell 0 (by omega)
    have d1 := hS5.cell 1 (by omega)
    have d2 := hS5.cell 2 (by omega)
    have d3 := hS5.cell 3 (by omega)
    clear hb5 hS5
    refine wpOpIn_plain (o := sputF_ops[7]) rfl rfl (oper_inK (fun _ => trivial) (fun K hK => ?_))
    rw [Oper.semAt_plain (Fence.wide.inRound l') _ _ (by intro c h; cases h)]
    simp only [sputF_ops, sv, st, sc]
    go_simp
    refine hK _ _ ?_
    exact FoI.put HX.out HB6.out (fun b _ => by rw [two_plus]; exact fo_put H pre x b) (by have := HSZ.out; omega) (by have := HSZ.out; omega)
  case done =>
    rintro D xs X hD ⟨⟨O, hO, hR, hOO, hB⟩, rfl⟩ hKD
    have c0 := hO.cell 0 (by omega)
    have c1 := hO.cell 1 (by omega)
    have c2 := hO.cell 2 (by omega)
    have c3 := hO.cell 3 (by omega)
    have f0 := hR.frozen 0
    have f1 := hR.frozen 1
    have f2 := hR.frozen 2
    have f3 := hR.frozen 3
    have d0 := hR.cell 0 (by omega)
    have d1 := hR.cell 1 (by omega)
    have d2 := hR.cell 2 (by omega)
    have d3 := hR.cell 3 (by omega)
    have HR := hide hR
    have HB := hide hB
    clear hO hR hOO hB hI0 hseq hks hBw hT
    simp only at c0 c1 c2 c3
    gi_wp2
    have hDn : D ≠ w.heap.size + 1 := by have := HSZ.out; omega
    have hKD' := (four_other (W := X) (g := w.heap.size + 1) (x := D) (.int .u64 (wd (fo H (bl M 256)) 0 : Nat)) (.int .u64 (wd (fo H (bl M 256)) 1 : Nat)) (.int .u64 (wd (fo H (bl M 256)) 2 : Nat)) (.int .u64 (wd (fo H (bl M 256)) 3 : Nat)) hDn).trans hKD
    refine ⟨by simp, .inl ⟨D, _, rfl, run_takeDeferred hKD', ?_⟩⟩
    refine ⟨_, results_cell_row rfl _ _ (w.heap.size + 1) 24 (st (fo H (bl M 256))) (0, 0) _ rfl ((World.putObj_heap_other (fun e => hDn e.symm)).trans (HR.out.four _)) Tryd.underlying24 rfl (sizeSet _), ?_⟩
    refine ⟨congrArg Ending.returned (sv_congr _ _ fun b hb => by rw [← HM.out]; exact fo_fold H b hb), ?_⟩
    exact (below_four HB.out (Nat.le_succ w.heap.size) _ _ _ _).trans (belowK_b (w := w) (Nat.le_refl _) _ D _ _ (by have := HSZ.out; omega) hKD' rfl rfl)
theorem fold_any (H : Nat → Bool) (w : World) (hT : Tab w) :
    Calls Tryd.prog 24 #[sv H] w fun e w' => e = .returned (sv (fold H)) ∧ Below w.heap.size w w' := callsIn_wide.1 (fold_in 20 (by omega) H w hT)
end Go.Proofs.YtmnjicpgdhnimaaDoor
