/-
  lang.Right.
-/
import Derived.Test.YtdjdlkobfmahpaaGreatDoorLIter
import Derived.Test.YtdjdlkobfmahpaaGreatDoorRangeA
import Derived.Lib.ConvBytes
namespace Go.Proofs.YtdjdlkobfmahpaaGreatDoor
open Go.RowKit Go.Shelf

attribute [local go_sem] Oper.semAt_some

/-- Between two rounds of Right. -/
def RtI (w0 : World) (Br : Nat) (s : List (List UInt8) × (Nat → Prop)) (X : World) : Prop :=
  Boxed X Br 4 (.bool true) ∧ (∀ k, s.2 k ↔ k = Br) ∧ (∀ p ∈ s.1, okP p = true) ∧ Below w0.heap.size w0 X
theorem RtI.own {w0 : World} {Br : Nat} {N : Nat} (hN : w0.heap.size ≤ N) : OwnFrom N (RtI w0 Br) := fun _ X _ _ ⟨h2, h3, h4, h5⟩ hg hr => by
  have hs := (Still.refl N X).grown hg hr
  exact ⟨Boxed.still h2 hs, h3, h4, h5.trans (hs.below hN h5.size)⟩
/-- What is told behind the loop. -/
def RtE (w0 : World) (Br : Nat) (L : List UInt8) (X : World) : Prop := Boxed X Br 4 (.bool ((partsL L).all okP)) ∧ Below w0.heap.size w0 X
theorem RtE.own {w0 : World} {Br : Nat} {L : List UInt8} {N : Nat} {β : Type} (hN : w0.heap.size ≤ N) : OwnFrom N (fun (_ : β) X => RtE w0 Br L X) := fun _ X _ _ ⟨h1, h5⟩ hg hr => by
  have hs := (Still.refl N X).grown hg hr
  exact ⟨Boxed.still h1 hs, h5.trans (hs.below hN h5.size)⟩
theorem all_parts {L : List UInt8} {pre r : List (List UInt8)} (h : pre ++ r = partsL L) (hb : ∃ p ∈ pre, okP p = false) : (partsL L).all okP = false := by
  obtain ⟨p, hp, he⟩ := hb
  rw [List.all_eq_false]
  exact ⟨p, by rw [← h]; exact List.mem_append_left _ hp, by rw [he]; decide⟩

theorem Boxed.drewN {w : World} {b : Nat} {t : TypeId} {v : Value} (h : Boxed w b t v) (m : Nat) : Boxed (w.drewN m) b t v := h
theorem belowDrewN {B : Nat} {a w : World} (h : Below B a w) (m : Nat) : Below B a (w.drewN m) := h.trans ⟨rfl, rfl, rfl, Nat.le_refl _, fun _ _ => rfl⟩
theorem KeepsTo.of_drewN (N : Nat) (w : World) (m : Nat) : KeepsTo N w (w.drewN m) := ⟨Nat.le_refl _, fun _ _ _ h _ => h⟩
theorem ok_good {x : List UInt8} (h : x ≠ [] ∧ x ≠ [46] ∧ x ≠ [46, 46]) (hg : ∀ j, j < x.length → 32 ≤ (x.getD j 0).toNat ∧ (x.getD j 0).toNat ≠ 127) : okP x = true := by
  unfold okP
  rw [decide_eq_true h, Bool.true_and, List.all_eq_true]
  intro c hc
  obtain ⟨j, hj, e⟩ := List.mem_iff_getElem.1 hc
  have := hg j hj
  rw [List.getD_eq_getElem?_getD, List.getElem?_eq_getElem hj, Option.getD_some, e] at this
  exact decide_eq_true this
theorem ok_bad {x : List UInt8} {k : Nat} (hk : k < x.length) (hb : ¬ (32 ≤ (x.getD k 0).toNat ∧ (x.getD k 0).toNat ≠ 127)) : okP x = false := by
  unfold okP
  rw [Bool.and_eq_false_iff]
  right
  rw [List.all_eq_false]
  refine ⟨x[k], List.getElem_mem hk, ?_⟩
  rw [List.getD_eq_getElem?_getD, List.getElem?_eq_getElem hk, Option.getD_some] at hb
  rw [decide_eq_false hb]
  decide
theorem part_length : ∀ (l x : List UInt8), x ∈ partsL l → x.length ≤ l.length
  | [], x, h => by simp [partsL] at h; simp [h]
  | c :: l, x, h => by
    have ih := part_length l
    unfold partsL at h
    split at h
    · rcases List.mem_cons.1 h with rfl | h
      · simp
      · have := ih x h; simp; omega
    · split at h
      · rename_i e
        exact absurd e (parts_ne l)
      · rename_i p r e
        rcases List.mem_cons.1 h with rfl | h
        · have := ih p (by rw [e]; simp); simp; omega
        · have := ih x (by rw [e]; simp [h]); simp; omega

set_option maxRecDepth 100000 in
set_option maxHeartbeats 2000000 in
theorem right_in (n : Nat) (hn : 20 ≤ n) (L : List UInt8) (w : World) (hL : L.length ≤ 1000000) :
    CallsIn Fence.wide n Tryz.prog 13 #[by8 L] w fun e w' => e = .returned (.bool (rightP L)) ∧ Below w.heap.size w w' := by
  have hsz : (⟨L.toArray⟩ : ByteArray).size = L.length := by simp [ByteArray.size]
  by_cases hlong : 200 < L.length
  · have hi1 : (200 : Int) < (L.length : Int) := by omega
    have hrt : rightP L = false := by unfold rightP; rw [decide_eq_false (by omega)]; rfl
    rw [hrt]
    refine callsIn_of_wp_marks Tryz.func13 rfl trivial ?_ rfl
    simp only [Tryz.ntmps13, List.size_toArray, List.length_cons, List.length_nil, Nat.reduceAdd, Nat.reduceSub, Array.replicate_succ, Array.replicate_zero, List.push_toArray, List.append_toArray, List.nil_append, List.cons_append]
    unfold by8
    gi_wp2
    apply wpIn_scope
    gi_wp2
    rw [Exit.noGoto_ret]
    exact ⟨_, results_tmp rfl _ _ _, rfl, Below.refl _ _⟩
  · have hi1 : (L.length : Int) ≤ 200 := by omega
    have hln : ∀ W, (Builtin.len_ #[9] 3 #[by8 L]).run Tryz.prog W = .ok (.int .i64 (L.length : Nat)) W := fun W => rfl
    have hrt : rightP L = (partsL L).all okP := by unfold rightP; rw [decide_eq_true (by omega)]; rfl
    rw [hrt]
    obtain ⟨W1, hW1⟩ : ∃ W1, w.alloc (.cells #[.bool true] 4) = W1 := ⟨_, rfl⟩
    have hs1 : W1.heap.size = w.heap.size + 1 := by rw [← hW1]; simp
    have hB1 : Below w.heap.size w W1 := by rw [← hW1]; exact below_alloc _ _
    have hbr : Boxed W1 w.heap.size 4 (.bool true) := by rw [← hW1]; exact Boxed.new w _ _
    obtain ⟨W2, hW2⟩ : ∃ W2, W1.alloc (.cells #[by8 L] 9) = W2 := ⟨_, rfl⟩
    have hs2 : W2.heap.size = W1.heap.size + 1 := by rw [← hW2]; simp
    have hB2 : Below W1.heap.size W1 W2 := by rw [← hW2]; exact below_alloc _ _
    have hbs : W2.cell? ⟨W1.heap.size, 0, none⟩ = some (by8 L) := by rw [← hW2]; exact (cell_new_l W1 _ _).1
    have hBw : Below w.heap.size w W2 := below_thru hB1 hB2
    have hseq := parts_seq (n - 1) W1.heap.size L hL W2 hbs
    have hI0 : RtI w w.heap.size ([], fun k => k = w.heap.size) W2 := ⟨by rw [← hW2]; exact hbr.alloc _, fun k => Iff.rfl, (fun p hp => by cases hp), hBw⟩
    have hks : ∀ k, k = w.heap.size → ¬ (fun _ : Nat => False) k ∧ k < W2.heap.size := fun k hk => ⟨fun h => h, by omega⟩
    have HS := hide (And.intro hs1 hs2)
    have HW1 := hide hW1
    clear hbs hs1 hs2 hbr hW1
    refine callsIn_of_wp_marks Tryz.func13 rfl trivial ?_ rfl
    simp only [Tryz.ntmps13, List.size_toArray, List.length_cons, List.length_nil, Nat.reduceAdd, Nat.reduceSub, Array.replicate_succ, Array.replicate_zero, List.push_toArray, List.append_toArray, List.nil_append, List.cons_append]
    gi_wp2
    apply wpIn_scope
    gi_wp2
    apply wpIn_label
    gi_wp2
    rw [HW1.out]
    refine ⟨trivial, wide_deep, (partsOf_in Fence.wide (n - 1) trivial rfl L W1).mono ?_⟩
    rintro e w4 ⟨rfl, rfl⟩
    rw [hW2]
    gi_wp2
    refine wpIn_rangeFunc_N rfl (by omega) (gf := 72) (lb := #[.pointer (some ⟨W1.heap.size, 0, none⟩)]) rfl trivial (enters_of Tryz.func72 (by kernel_rfl) rfl)
      hseq (fun _ _ _ _ h => by obtain ⟨⟨m, rfl⟩, _⟩ := h; exact KeepsTo.of_drewN _ _ _) (fun _ _ _ h => by rw [h.1]; exact KeepsTo.refl _ _) (fun _ _ _ h => by rw [h.1]; exact KeepsTo.refl _ _) (Below.refl _ _) (fun _ => rfl)
      (RtI w w.heap.size) (fun c pre X => c = .exit 0 ∧ Boxed X w.heap.size 4 (.bool false) ∧ (∃ p ∈ pre, okP p = false) ∧ Below w.heap.size w X)
      (fun s x X => RtI w w.heap.size s X ∧ x.length ≤ 1000000)
      (fun _ X => RtE w w.heap.size L X) (fun c _ X => c = .exit 0 ∧ RtE w w.heap.size L X)
      (RtI.own hBw.size) ?ix (RtE.own hBw.size) ?ex ?mid ?eend ?xend (fun k => k = w.heap.size) hks hI0
      (fun s x a' X => a' = { tmps := #[by8 L, undef, .bool false, .pointer (some ⟨w.heap.size, 0, none⟩), by8 x, undef, undef, by8 L, .int .i64 (L.length : Nat), .bool (decide ((200 : Int) < (L.length : Nat))), by8 L, .func (.func 72) #[] #[.pointer (some ⟨W1.heap.size, 0, none⟩)], by8 x, undef, undef, undef, undef, undef, undef, undef, undef, undef, undef, undef, undef, undef, undef, undef, undef, undef, undef, undef, undef], defers := [] } ∧
        RtI w w.heap.size s X ∧ x.length ≤ 1000000) ?m2 ?assign ?body ?done ?stop
    case ix =>
      rintro c pre X Y row ⟨h0, h2, h3, h5⟩ hg hr
      have hs := (Still.refl W2.heap.size X).grown hg hr
      exact ⟨h0, Boxed.still h2 hs, h3, h5.trans (hs.below hBw.size h5.size)⟩
    case ex =>
      rintro c pre X Y row ⟨h0, h1⟩ hg hr
      exact ⟨h0, RtE.own (β := List (List UInt8)) hBw.size pre X Y row h1 hg hr⟩
    case mid =>
      rintro pre O x A B ⟨h1, h2, h3, h4⟩ ⟨⟨m, rfl⟩, r, hr⟩
      refine ⟨⟨Boxed.drewN h1 m, h2, h3, belowDrewN h4 m⟩, ?_⟩
      have hx : x ∈ partsL L := by rw [← hr]; simp
      have := part_length L x hx
      omega
    case eend =>
      rintro xs O A B ⟨h1, h2, h3, h5⟩ ⟨rfl, rfl⟩
      have e : (partsL L).all okP = true := List.all_eq_true.2 h3
      exact ⟨by rw [e]; exact h1, h5⟩
    case xend =>
      rintro c pre A B ⟨h0, h1, h2, h5⟩ ⟨rfl, r, hr⟩
      exact ⟨h0, by rw [all_parts hr h2]; exact h1, h5⟩
    case m2 =>
      rintro x a' s X Y row ⟨h1, h2, h3⟩ hg hr
      exact ⟨h1, RtI.own hBw.size s X Y row h2 hg hr, h3⟩
    case assign =>
      intro l' pre O x X K hM hK
      have HK := hide (hK _ X ((KeepsFrom.refl _ _)) (KeptO.refl _ _) ⟨rfl, hM⟩)
      clear hK hseq hM hI0 hks
      simp only [encS]
      gi_wp2
      exact HK.out
    case body =>
      rintro l' pre O x a' X ⟨rfl, ⟨hA, hO, hle, hB⟩, hxl⟩
      simp only at hO hle
      have c0 := hA.cell
      have f0 := hA.frozen
      have HA := hide hA
      have HO := hide hO
      have HLE := hide hle
      have HB := hide hB
      clear hA hO hle hB hseq hI0 hks hW2 hB1 hB2
      have hbad : ∀ X', KeepsFrom W2.heap.size X X' → okP x = false → Below w.heap.size w X' → Boxed X' w.heap.size 4 (.bool true) → ownPostO W2.heap.size (RtI w w.heap.size) (fun c pre X => c = .exit 0 ∧ Boxed X w.heap.size 4 (.bool false) ∧ (∃ p ∈ pre, okP p = false) ∧ Below w.heap.size w X) (pre ++ [x]) O X (.exit 0) (⟨#[], []⟩ : Act) (X'.setCell ⟨w.heap.size, 0, none⟩ (.bool false)) := by
        intro X' hk hx hb hbox
        exact ⟨hk.trans ((KeepsOthers.setCell _ _ _).from _), rfl, hbox.set (.bool false), ⟨x, by simp, hx⟩, hb.setCell (p := ⟨w.heap.size, 0, none⟩) (Nat.le_refl _) _⟩
      unfold by8
      by_cases e0 : x = []
      · subst e0
        gi_wp2
        exact hbad X (KeepsFrom.refl _ _) rfl HB.out HA.out
      by_cases e1 : x = [46]
      · subst e1
        gi_wp2
        exact hbad X (KeepsFrom.refl _ _) rfl HB.out HA.out
      by_cases e2 : x = [46, 46]
      · subst e2
        gi_wp2
        exact hbad X (KeepsFrom.refl _ _) rfl HB.out HA.out
      have g0 : x.isEmpty = false := by cases x; exact absurd rfl e0; rfl
      have g1 : (x == [46]) = false := by simpa using e1
      have g2 : (x == [46, 46]) = false := by simpa using e2
      have hxs : (⟨x.toArray⟩ : ByteArray).size = x.length := by simp [ByteArray.size]
      have hcv := Lib.run_convert_string_bytes (P := Tryz.prog) X 9 22 5 ⟨x.toArray⟩ Tryz.underlying9 Tryz.underlying22 Tryz.underlying5
      have hold := Lib.bytesWorld_at_old X 5 ⟨x.toArray⟩
      have hsz2 := Lib.bytesWorld_size X 5 ⟨x.toArray⟩
      have hcell := Lib.bytesWorld_cell X 5 ⟨x.toArray⟩
      have hB2 : Below X.heap.size X (Lib.bytesWorld X 5 ⟨x.toArray⟩) := ⟨rfl, rfl, rfl, by omega, hold⟩
      rw [hxs] at hcv hcell
      generalize grownCap X x.length 0 5 = cp at hcv
      generalize Lib.bytesWorld X 5 ⟨x.toArray⟩ = X2 at hcv hold hsz2 hcell hB2
      have HC := hide hcell
      have HX := hide (And.intro hB2 hsz2)
      have H0 := hide (And.intro e0 (And.intro e1 e2))
      clear hold hsz2 hcell hB2 e0 e1 e2
      have HA2 := hide (show Boxed X2 w.heap.size 4 (.bool true) from (HX.out.1.block _ (block_lt HA.out)).trans HA.out)
      have c2 := HA2.out.cell
      have f2 := HA2.out.frozen
      have hKF : Hid (KeepsFrom W2.heap.size X X2) := ⟨HX.out.1.size, fun k o _ ho _ => (HX.out.1.block k (Array.getElem?_eq_some_iff.1 ho).1).trans ho⟩
      gi_wp2
      gi_loopg [6, 21] x.length (fun q _ s21 wr => ∃ k : Nat, k + q = x.length ∧ s21 = .int .i64 k ∧ wr = X2 ∧ ∀ j, j < k → 32 ≤ (x.getD j 0).toNat ∧ (x.getD j 0).toNat ≠ 127)
      case atStart => exact ⟨0, by omega, rfl, rfl, fun j hj => by omega⟩
      case round =>
        obtain ⟨k, hkq, rfl, rfl, hgood⟩ := hrel
        have HG := hide hgood
        clear hgood
        cases gk with
        | zero =>
          obtain rfl : k = x.length := by omega
          gi_wp2
          have hok : okP x = true := ok_good H0.out HG.out
          refine ⟨hKF.out, O, ⟨HA2.out, HO.out, fun p hp => ?_, HB.out.trans (HX.out.1.mono HB.out.size)⟩, KeptO.of_kept (Kept.of_below HX.out.1), fun k hk => ⟨.inl hk, ?_⟩⟩
          · rcases List.mem_append.1 hp with h | h
            · exact HLE.out p h
            · rw [List.mem_singleton.1 h]; exact hok
          · have := (HO.out k).1 hk
            have := block_lt HA2.out
            omega
        | succ q =>
          have hkl : k < x.length := by omega
          have hk1 : (k : Int) < (x.length : Int) := by omega
          have hck := HC.out k hkl
          have hbd : Hid (∀ hx : okP x = false, _) := fun hx => hbad wr hKF.out hx (HB.out.trans (HX.out.1.mono HB.out.size)) HA2.out
          have hmk : ¬ (32 ≤ (x.getD k 0).toNat ∧ (x.getD k 0).toNat ≠ 127) → okP x = false := fun h => ok_bad hkl h
          have HMK := hide hmk
          clear hmk hbad
          by_cases hlow : (x.getD k 0).toNat < 32
          · have hx0 : okP x = false := HMK.out (by omega)
            have hl2 : (((x.getD k 0).toNat : Nat) : Int) < 32 := by omega
            generalize (x.getD k 0).toNat = y at *
            gi_wp2
            exact hbd.out hx0
          · by_cases h127 : (x.getD k 0).toNat = 127
            · have hx0 : okP x = false := HMK.out (by omega)
              rw [h127] at hck
              gi_wp2
              exact hbd.out hx0
            · have hy1 : (32 : Int) ≤ (((x.getD k 0).toNat : Nat) : Int) := by omega
              have hy2 : (((x.getD k 0).toNat : Nat) : Int) ≠ 127 := by omega
              have HG2 := hide (show ∀ j, j < k + 1 → 32 ≤ (x.getD j 0).toNat ∧ (x.getD j 0).toNat ≠ 127 from fun j hj => by
                rcases Nat.lt_or_ge j k with h | h
                · exact HG.out j h
                · obtain rfl : j = k := by omega
                  omega)
              generalize (x.getD k 0).toNat = y at hck hy1 hy2
              have hy4 : ((y : Int) == 127) = false := beq_eq_false_iff_ne.2 hy2
              have hy5 : ¬ ((y : Int) < 32) := by omega
              gi_wp2
              gi_roundg q
              case measure => omega
              case rel => exact ⟨k + 1, by omega, by go_num, rfl, HG2.out⟩
    case done =>
      rintro D xs X hD ⟨h1, h3⟩ hKD
      have c0 := h1.cell
      have H3 := hide h3
      clear h1 h3 hseq hI0 hks hW2
      gi_wp2
      rw [Exit.noGoto_ret]
      refine ⟨by simp, .inl ⟨D, _, rfl, run_takeDeferred hKD, ?_⟩⟩
      exact ⟨_, results_tmp rfl _ _ _, rfl, H3.out.trans (belowK_b (w := w) (Nat.le_refl _) X D _ _ (by have := hBw.size; omega) hKD rfl rfl)⟩
    case stop =>
      rintro D c pre X hD ⟨rfl, h1, h3⟩ hKD
      have c0 := h1.cell
      have H3 := hide h3
      clear h1 h3 hseq hI0 hks hW2
      gi_wp2
      rw [Exit.noGoto_ret]
      refine ⟨by simp, .inl ⟨D, _, rfl, run_takeDeferred hKD, ?_⟩⟩
      exact ⟨_, results_tmp rfl _ _ _, rfl, H3.out.trans (belowK_b (w := w) (Nat.le_refl _) X D _ _ (by have := hBw.size; omega) hKD rfl rfl)⟩
end Go.Proofs.YtdjdlkobfmahpaaGreatDoor
