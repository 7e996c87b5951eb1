/-
  gram.Run.
-/
import Derived.Test.YtpdlapnliiengaaGreatGRunR
import Derived.Test.YtpdlapnliiengaaGreatGGrams
import Derived.Lib.ConvBytes
namespace Go.Proofs.YtpdlapnliiengaaGreat
open Go.RowKit Go.Shelf

attribute [local go_sem] Oper.semAt_some

/-- The bytes of a text. -/
def zS (B : ByteArray) (i : Nat) : Nat := (B.data.toList.getD i 0).toNat
theorem zS_lt (B : ByteArray) (i : Nat) : zS B i < 256 := UInt8.toNat_lt _
theorem bytes_byt (w : World) (B : ByteArray) : Byt (Lib.bytesWorld w 5 B) (some ⟨w.heap.size, 0, none⟩) B.size (zS B) :=
  ⟨zS_lt B, .inr ⟨w.heap.size, 0, rfl, fun i hi => by rw [Nat.zero_add]; exact Lib.bytesWorld_cell w _ B i hi⟩⟩
/-- The grams of bytes as they stand. -/
def rnl (z : Nat → Nat) (l : List Nat) : List Value := l.map fun i => gtx (gN z i)
theorem rnl_snoc (z : Nat → Nat) (l : List Nat) (i : Nat) : rnl z (l ++ [i]) = rnl z l ++ [gtx (gN z i)] := by simp [rnl]
/-- What an append of one to a box's row leaves, behind the store back, whatever was made between. -/
theorem grow_postB {W W1 w1 : World} {n0 B : Nat} {t e : TypeId} {v v' : Value} {k m : Nat} {xs ys : List Value} (hb : Below W.heap.size W W1) (hv : Boxed W B t v) (hte : t ≠ e) (hrow : W.ownsRow n0 e 1 v k xs)
    (hown : w1.ownsRow n0 e 1 v' m ys) (hG : Grew W1 w1 v v') :
    Boxed w1 B t v ∧ Boxed (w1.setCell ⟨B, 0, none⟩ v') B t v' ∧ (w1.setCell ⟨B, 0, none⟩ v').ownsRow n0 e 1 v' m ys ∧ Kept (fun k => k = B ∨ v.ownBlock = some k) W (w1.setCell ⟨B, 0, none⟩ v') ∧
      ∀ g, v'.ownBlock = some g → (v.ownBlock = some g ∨ W.heap.size ≤ g) ∧ g < (w1.setCell ⟨B, 0, none⟩ v').heap.size := by
  have hnr := hv.not_row hte hrow
  have hka : Kept (fun k => v.ownBlock = some k) W W1 := (Kept.of_below (F := fun _ => False) hb).mono (fun _ _ h => h.elim)
  have hk1 : Kept (fun k => v.ownBlock = some k) W w1 := hka.trans (hG.kept (fun _ h => h)) (fun _ _ h => h)
  have hb1 : Boxed w1 B t v := hk1.heap hv (fun e => hnr e.symm)
  have hsz : (w1.setCell ⟨B, 0, none⟩ v').heap.size = w1.heap.size := by simp
  refine ⟨hb1, hb1.set v', hown.kept (grownBy_setCell' w1 B v') (.inr (hb1.not_row hte hown).symm), (hk1.mono (fun _ _ h => .inr h)).setCell (.inl (.inl rfl)) v', fun g hg => ⟨?_, by rw [hsz]; exact (owns_cells hown g hg).1⟩⟩
  rcases hG.foot (F := fun k => v.ownBlock = some k) (fun _ h => h) g hg with h | ⟨h, _⟩
  · exact .inl h
  · have := hb.size
    exact .inr (by omega)

/-- Between two rounds. -/
def RnI (z : Nat → Nat) (w0 : World) (s : List Nat × (Nat → Prop)) (X : World) : Prop :=
  ∃ v, Boxed X w0.heap.size 29 v ∧ X.ownsRow w0.heap.size 9 1 v s.1.length (rnl z s.1) ∧ (∀ k, s.2 k ↔ k = w0.heap.size ∨ v.ownBlock = some k) ∧ Below w0.heap.size w0 X
theorem RnI.still {z : Nat → Nat} {w0 : World} {N : Nat} {s : List Nat × (Nat → Prop)} {X Y : World} (h : RnI z w0 s X) (hs : Still N X Y) (hN : w0.heap.size ≤ N) : RnI z w0 s Y := by
  obtain ⟨v, h1, h2, h3, h4⟩ := h
  exact ⟨v, Boxed.still h1 hs, owns_still h2 hs, h3, h4.trans (hs.below hN h4.size)⟩

set_option maxRecDepth 100000 in
set_option maxHeartbeats 2000000 in
theorem run_any (B : ByteArray) (w : World) (hlen : B.size ≤ 1000000) :
    Calls Tryz.prog 11 #[.string B] w fun e w' => ∃ v, e = .returned v ∧ w'.ownsRow w.heap.size 9 1 v (B.size - 2) (rnl (zS B) (List.range (B.size - 2))) ∧ Below w.heap.size w w' := by
  refine callsIn_wide.1 (show CallsIn Fence.wide 40 _ _ _ _ _ from ?_)
  refine callsIn_of_wp_marks Tryz.func11 rfl trivial ?_ rfl
  simp only [Tryz.ntmps11, List.size_toArray, List.length_cons, List.length_nil, Nat.reduceAdd, Nat.reduceSub, Array.replicate_succ, Array.replicate_zero, List.push_toArray, List.append_toArray, List.nil_append, List.cons_append]
  obtain ⟨W0, hW0⟩ : ∃ W0, w.alloc (.cells #[.slice none 0 0] 29) = W0 := ⟨_, rfl⟩
  have hs0 : W0.heap.size = w.heap.size + 1 := by rw [← hW0]; simp
  have hB0 : Below w.heap.size w W0 := by rw [← hW0]; exact below_alloc _ _
  have hbx0 : Boxed W0 w.heap.size 29 (.slice none 0 0) := by rw [← hW0]; exact Boxed.new _ _ _
  have hcv := Lib.run_convert_string_bytes (P := Tryz.prog) W0 9 22 5 B Tryz.underlying9 Tryz.underlying22 Tryz.underlying5
  have hold := Lib.bytesWorld_at_old W0 5 B
  have hsz1 := Lib.bytesWorld_size W0 5 B
  have hbyt := bytes_byt W0 B
  have hB01 : Below W0.heap.size W0 (Lib.bytesWorld W0 5 B) := ⟨rfl, rfl, rfl, by omega, hold⟩
  generalize grownCap W0 B.size 0 5 = cp at hcv
  generalize Lib.bytesWorld W0 5 B = W1 at hcv hold hsz1 hbyt hB01
  have hs1 : W1.heap.size = w.heap.size + 2 := by omega
  have hgo := gramsOf_in Fence.wide 39 trivial rfl (some ⟨W0.heap.size, 0, none⟩) B.size cp W1
  obtain ⟨W2, hW2⟩ : ∃ W2, W1.alloc (.cells #[.slice (some ⟨W0.heap.size, 0, none⟩) B.size cp] 22) = W2 := ⟨_, rfl⟩
  rw [hW2] at hgo
  have hs2 : W2.heap.size = w.heap.size + 3 := by rw [← hW2]; simp [hs1]
  have hB12 : Below W1.heap.size W1 W2 := by rw [← hW2]; exact below_alloc _ _
  have hB02 : Below W0.heap.size W0 W2 := hB01.trans (hB12.mono (by omega))
  have hB2 : Below w.heap.size w W2 := hB0.trans (hB02.mono (by omega))
  have hc2 : W2.cell? ⟨w.heap.size + 2, 0, none⟩ = some (.slice (some ⟨W0.heap.size, 0, none⟩) B.size cp) := by rw [← hW2, ← hs1]; exact (cell_new_l _ _ _).1
  have hI0 : RnI (zS B) w ([], fun k => k = w.heap.size) W2 := ⟨_, (hB02.block _ (block_lt hbx0)).trans hbx0, World.ownsRow_nil _ _ _ _, fun k => by simp [Value.ownBlock], hB2⟩
  have hseq := grams_seq 39 (w.heap.size + 2) (some ⟨W0.heap.size, 0, none⟩) B.size cp (zS B) (by omega) W2 hc2 (hbyt.below hB12)
  rw [hs1] at hgo
  rw [hs0] at hcv hgo hseq
  have HI0 := hide hI0
  have HS := hide hseq
  have HW := hide hW0
  have HN := hide (And.intro hs0 (And.intro hs1 hs2))
  clear hB0 hB12 hB02 hB2 hc2 hI0 hseq hs0 hs1 hs2 hW0 hW2 hbx0 hold hsz1 hbyt hB01
  rw [← HW.out] at hcv
  gi_wp2
  refine ⟨trivial, hgo.mono ?_⟩
  rintro e w3 ⟨rfl, rfl⟩
  gi_wp2
  refine wpIn_rangeFunc_N rfl (by omega) (gf := 30) (lb := #[.pointer (some ⟨w.heap.size + 2, 0, none⟩)]) rfl trivial (enters_of Tryz.func30 (by kernel_rfl) rfl) HS.out (fun pre x A B h => h.1.to) (fun xs A B h => h.1.to) (fun xs A B h => h.1.to) (Below.refl _ _) (fun _ => rfl)
    (RnI (zS B) w) (fun _ _ _ => False) (fun s x X => RnI (zS B) w s X ∧ s.1 = List.range x ∧ x + 2 < B.size) (fun xs X => (∃ O, RnI (zS B) w (xs, O) X) ∧ xs = List.range (B.size - 2)) (fun _ _ _ => False)
    (fun _ X _ _ h hg hr => h.still ((Still.refl _ X).grown hg hr) (by have := HN.out.2.2; omega)) (fun _ _ _ _ _ h _ _ => h) ?ee (fun _ _ _ _ _ h _ _ => h) (fun pre O x A B h g => ⟨h.still g.1 (by have := HN.out.2.2; omega), g.2⟩) (fun xs O A B h g => ⟨⟨O, h.still g.1 (by have := HN.out.2.2; omega)⟩, g.2⟩) (fun _ _ _ _ h _ => h)
    (fun k => k = w.heap.size) (fun k hk => ⟨(by rintro (h | ⟨_, o, s, h⟩) <;> first | omega | (cases h; omega)), by have := HN.out.2.2; omega⟩) HI0.out
    (fun s x a' X => ∃ p, a' = { tmps := #[.string B, undef, .slice none 0 0, .pointer (some ⟨w.heap.size, 0, none⟩), undef, .pointer (some ⟨p, 0, none⟩), .string B, .slice (some ⟨w.heap.size + 1, 0, none⟩) B.size cp, .func (.func 30) #[] #[.pointer (some ⟨w.heap.size + 2, 0, none⟩)], .int .i64 (x : Int), gv (gN (zS B) x), undef, undef, undef, undef, undef, undef], defers := [] } ∧ X.heap[p]? = some (.cells (gl (gN (zS B) x)).toArray 51 (0, 0)) ∧ RnI (zS B) w s X ∧ s.1 = List.range x ∧ x + 2 < B.size)
    ?m2 ?assign ?body ?done (fun _ _ _ _ _ h _ => h.elim)
  case ee =>
    rintro xs X Y row ⟨⟨O, h1⟩, h2⟩ hg hr
    exact ⟨⟨O, h1.still ((Still.refl _ X).grown hg hr) (by have := HN.out.2.2; omega)⟩, h2⟩
  case m2 =>
    rintro x a' s X Y row ⟨p, h1, hp, h2, h3⟩ hg hr
    exact ⟨p, h1, ((Still.refl w3.heap.size X).grown hg hr).cells _ _ _ _ hp, h2.still ((Still.refl _ X).grown hg hr) (by have := HN.out.2.2; omega), h3⟩
  case assign =>
    intro l' pre O x X K hM2 hK
    have HK := hide (hK { tmps := #[.string B, undef, .slice none 0 0, .pointer (some ⟨w.heap.size, 0, none⟩), undef, .pointer (some ⟨X.heap.size, 0, none⟩), .string B, .slice (some ⟨w.heap.size + 1, 0, none⟩) B.size cp, .func (.func 30) #[] #[.pointer (some ⟨w.heap.size + 2, 0, none⟩)], .int .i64 (x : Int), gv (gN (zS B) x), undef, undef, undef, undef, undef, undef], defers := [] } (X.alloc (.cells (gl (gN (zS B) x)).toArray 51)) ⟨by simp, fun k o _ hk _ => (Below.heap_alloc _ _ k (Array.getElem?_eq_some_iff.1 hk).1).trans hk⟩ (KeptO.of_still ((Still.refl 0 X).alloc _) _) ⟨X.heap.size, rfl, World.alloc_heap_new _ _, hM2.1.still ((Still.refl w3.heap.size X).alloc _) (by have := HN.out.2.2; omega), hM2.2⟩)
    clear hK hM2
    simp only [encG]
    unfold gv gl at HK ⊢
    generalize gN (zS B) x / 65536 = d0 at *
    generalize gN (zS B) x / 256 % 256 = d1 at *
    generalize gN (zS B) x % 256 = d2 at *
    gi_wp2
    exact HK.out
  case body =>
    rintro l' pre O x a' X ⟨p, rfl, hp, ⟨v, hv, hrow, hO, hB⟩, hpr, hxl⟩
    simp only at hrow hO hpr
    have hc0 := hv.cell
    have hp0 : X.cell? ⟨p, 0, none⟩ = some (.int .u8 ((gN (zS B) x / 65536 : Nat) : Int)) := by rw [cell_of_row _ _ _ _ _ _ hp]; rfl
    have hp1 : X.cell? ⟨p, 1, none⟩ = some (.int .u8 ((gN (zS B) x / 256 % 256 : Nat) : Int)) := by rw [cell_of_row _ _ _ _ _ _ hp]; rfl
    have hp2 : X.cell? ⟨p, 2, none⟩ = some (.int .u8 ((gN (zS B) x % 256 : Nat) : Int)) := by rw [cell_of_row _ _ _ _ _ _ hp]; rfl
    have hT : ∀ W, Calls Tryz.prog 23 #[gv (gN (zS B) x)] W fun e w' => e = .returned (gtx (gN (zS B) x)) ∧ w' = W.alloc (.cells (gl (gN (zS B) x)).toArray 51) := fun W => callsIn_wide.1 (gtext_in 0 (gN (zS B) x) (gN_ok (zS_lt B) x) W)
    have hsn := rnl_snoc (zS B) pre x
    have hpl : pre.length < B.size - 2 := by rw [hpr, List.length_range]; omega
    obtain ⟨T, hTe⟩ : ∃ T, gtx (gN (zS B) x) = .string T := ⟨_, rfl⟩
    rw [hTe] at hT hsn
    have hsz := hB.size
    have HSN := hide hsn
    have HV := hide hv
    have HR := hide hrow
    have HO := hide hO
    have HB := hide hB
    clear hv hrow hO hB hp hTe hsn hpr HI0 HS
    unfold gv
    unfold gv gl at hT
    generalize gN (zS B) x / 65536 = d0 at *
    generalize gN (zS B) x / 256 % 256 = d1 at *
    generalize gN (zS B) x % 256 = d2 at *
    gi_wp2
    refine grunR (wide_round l') w.heap.size p d0 d1 d2 v T _ _ _ X rfl rfl rfl hc0 hp0 hp1 hp2 hT ?_
    intro vs w6 hb6 h11 h14
    obtain ⟨g7, h14, m0⟩ := h14
    simp only [List.foldl_cons, List.foldl_nil, List.setIfInBounds_toArray, List.set_cons_succ, List.set_cons_zero]
    rw [h11, h14]
    generalize vs 12 = z12
    generalize vs 13 = z13
    have hs6 := hb6.size
    have hrA := owns_thru HR.out hb6
    have hnew : ∀ j u, ([.string T] : List Value)[j]? = some u → w6.cell? ((⟨g7, 0, none⟩ : Addr).add j) = some u := fun j u h => by
      match j, h with
      | 0, h => cases h; exact m0
    obtain ⟨i0, hi, hq0, hq1, hq2⟩ := info_parts info_string
    refine op_appendS (wide_round l') (o := grunR_o4) rfl rfl (.tmp 11) (.tmp 14) 29 rfl 9 i0 _ 1 16 Tryz.underlying29 hi hq0 hq1 hq2 rfl (by decide) w.heap.size v pre.length _ rfl hrA ⟨g7, 0, none⟩ 1 1 [.string T] rfl rfl hnew (by simp [Value.oneCell']) (by unfold maxLen; omega) (by omega) (by omega) ?_
    intro A' C' w7 hown' hG' _
    obtain ⟨hv1, hv2, hr2, hk2, ho2⟩ := grow_postB hb6 HV.out (by decide) HR.out hown' hG'
    have hc1 := hv1.cell
    have hf1 := hv1.frozen
    refine wpOpIn_plain (o := grunR_o5) rfl rfl (oper_inK (fun _ => trivial) (fun K hK => ?_))
    rw [Oper.semAt_plain (Fence.wide.inRound l') _ _ (by intro c h; cases h)]
    simp only [grunR_o5]
    go_simp
    refine hK _ _ ?_
    clear hK K
    gi_wp2
    refine ⟨hk2.keepsOthers.from _, fun k => k = w.heap.size ∨ (Value.slice A' (pre.length + 1) C').ownBlock = some k, ⟨_, hv2, ?_, fun k => Iff.rfl, HB.out.trans (hk2.below (fun k hk => ?_) hsz)⟩, (KeptO.of_kept hk2).mono (fun k h => (HO.out k).2 h), fun k hk => ?_⟩
    · rw [List.length_append, HSN.out]; exact hr2
    · rcases hk with rfl | hk
      · exact Nat.le_refl _
      · exact (owns_cells HR.out k hk).2.1
    · rcases hk with rfl | hk
      · exact ⟨.inl ((HO.out _).2 (.inl rfl)), hv2.lt⟩
      · obtain ⟨h1 | h1, h2⟩ := ho2 k hk
        · exact ⟨.inl ((HO.out _).2 (.inr h1)), h2⟩
        · exact ⟨.inr h1, h2⟩
  case done =>
    rintro D xs X hD ⟨⟨O, v, hv, hrow, hO, hB⟩, rfl⟩ hKD
    simp only [List.length_range] at hrow
    have hc0 := hv.cell
    have HV := hide hv
    have HR := hide hrow
    have HB := hide hB
    clear hv hrow hO hB HI0 HS
    gi_wp2
    refine ⟨by simp, .inl ⟨D, _, rfl, run_takeDeferred hKD, ?_⟩⟩
    exact ⟨_, results_tmp rfl _ _ _, v, rfl, ownsRow_putObj HR.out _ hKD rfl, HB.out.trans (belowK_b (w := w) (Nat.le_refl _) X D _ _ (by have := HN.out.2.2; omega) hKD rfl rfl)⟩
end Go.Proofs.YtpdlapnliiengaaGreat
