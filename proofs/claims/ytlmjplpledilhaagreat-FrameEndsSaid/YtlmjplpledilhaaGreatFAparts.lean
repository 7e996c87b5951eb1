/-
  No list of bytes is a list that lies apart; parts are put into a bag; parts that lie apart are told to.
-/
import Derived.Test.YtlmjplpledilhaaGreatBag
import Derived.Test.YtlmjplpledilhaaGreatFlatPartF
import Derived.Test.YtlmjplpledilhaaGreatFOwn
import Derived.Test.YtlmjplpledilhaaGreatAparts
namespace Go.Proofs.YtlmjplpledilhaaGreat
open Go.RowKit
set_option linter.unusedVariables false

theorem info_BytesL : (Tryz.prog.info? 26).map (fun i => (i.zero, i.size, i.bytes)) = some (some (.slice none 0 0), 1, 24) := by kernel_rfl
set_option maxRecDepth 100000 in
set_option maxHeartbeats 1000000 in
theorem nil_BytesL (w : World) : Calls Tryz.prog 58 #[.slice none 0 0] w fun e w' => e = .returned (.bool true) ∧ Below w.heap.size w w' := by
  have hmk0 := fun wx => run_make_row' (P := Tryz.prog) 34 26 (.slice none 0 0) 24 Tryz.underlying34 info_BytesL rfl .i64 .i64 0 (by omega) (by omega) wx
  have hmk : ∀ wx, (Instr.makeSlice 34 (.int .i64 0) (.int .i64 0)).run Tryz.prog wx = .ok (.slice (some ⟨wx.heap.size, 0, none⟩) 0 0) (wx.alloc (.cells (madeCells #[.slice none 0 0] 0) 26)) := hmk0
  clear hmk0
  go_enter Tryz.func58, Tryz.ntmps58
  go_wp2_with fail
  refine wp_loop_rounds 1 ?_
  rw [rounds_succ]
  go_wp2_with fail
  refine wp_loop_rounds 1 ?_
  rw [rounds_succ]
  go_wp2_with fail
  refine wp_loop_rounds 1 ?_
  rw [rounds_succ]
  go_wp2_with fail
  refine wp_loop_rounds 1 ?_
  rw [rounds_succ]
  go_wp2_with fail
  refine wp_loop_rounds 1 ?_
  rw [rounds_succ]
  go_wp2_with fail
  go_ret
  exact ⟨rfl, below_alloc _ _⟩

def bv (v5 v19 : Value) (i : Nat) : Value := if i = 5 then v5 else if i = 19 then v19 else .slice none 0 0
/-- A bag of the call's own, its blocks from N on: the lists of bytes ys, the lists of parts zs. -/
def BP (W : World) (N p : Nat) (ys zs : List Value) : Prop := ∃ A5 C5 A9 C9, BagV W p (bv (.slice A5 ys.length C5) (.slice A9 zs.length C9)) ∧ W.ownsRow 0 26 1 (.slice A5 ys.length C5) ys.length ys ∧ W.ownsRow 0 22 1 (.slice A9 zs.length C9) zs.length zs ∧
  (∀ g, (Value.slice A5 ys.length C5).ownBlock = some g → N ≤ g) ∧ (∀ g, (Value.slice A9 zs.length C9).ownBlock = some g → N ≤ g) ∧ N ≤ p
theorem BP.below {W W' : World} {N p : Nat} {ys zs : List Value} (h : BP W N p ys zs) (hb : Below W.heap.size W W') : BP W' N p ys zs := by
  obtain ⟨A5, C5, A9, C9, h1, h2, h3, h4⟩ := h
  exact ⟨A5, C5, A9, C9, h1.below hb, owns_thru h2 hb, owns_thru h3 hb, h4⟩
set_option maxHeartbeats 400000 in
theorem putBytes_bp (N p : Nat) (ys zs : List Value) (a : Option Addr) (len cap : Nat) (w : World) (hk : ys.length ≤ 1000000) (hN : N ≤ w.heap.size) (h : BP w N p ys zs) :
    Calls Tryz.prog 34 #[.pointer (some ⟨p, 0, none⟩), .slice a len cap] w fun e w' => e = .returned (.tuple #[]) ∧ BP w' N p (ys ++ [.slice a len cap]) zs ∧ Kept (fun k => N ≤ k) w w' := by
  obtain ⟨A5, C5, A9, C9, h1, h2, h3, h4, h5, h6⟩ := h
  refine (putBytes_gen p ys.length _ A5 C5 ys a len cap w rfl hk h1 rfl h2 (fun g hg e => by subst e; exact owns_tyne h2 h1 (by decide) hg)).mono ?_
  rintro e w' ⟨he, A6, C6, g1, g2, g3, g4⟩
  refine ⟨he, ⟨A6, C6, A9, C9, ?_, ?_, owns_kept h3 g4 (fun g hg hh => ?_), fun g hg => ?_, h5, h6⟩, g4.mono (fun k _ hh => ?_)⟩
  · rw [List.length_append]
    have e : setB (bv (.slice A5 ys.length C5) (.slice A9 zs.length C9)) (.slice A6 (ys.length + 1) C6) = bv (.slice A6 (ys.length + [Value.slice a len cap].length) C6) (.slice A9 zs.length C9) := by
      funext i
      unfold setB bv
      by_cases h : i = 5
      · simp [h]
      · simp [h]
    rw [← e]
    exact g1
  · rw [List.length_append]
    exact g2
  · rcases hh with hh | hh
    · subst hh; exact owns_tyne h3 h1 (by decide) hg
    · exact owns_apart h3 h2 (by decide) g hg hh
  · rw [List.length_append] at hg
    rcases (g3 g hg).2 with h | h
    · exact h4 g h
    · omega
  · rcases hh with hh | hh
    · subst hh; exact h6
    · exact h4 k hh
set_option maxHeartbeats 400000 in
theorem onePart_bp (N p T : Nat) (ys zs : List Value) (a : Option Addr) (len cap : Nat) (w : World) (hk : ys.length ≤ 1000000) (hN : N ≤ w.heap.size) (h : BP w N p ys zs) :
    Calls Tryz.prog 81 #[.pointer (some ⟨p, 0, none⟩), .agg #[.int .u8 (T : Nat), .slice a len cap]] w fun e w' => e = .returned (.tuple #[]) ∧ BP w' N p (ys ++ [.slice a len cap]) zs ∧ Kept (fun k => N ≤ k) w w' := by
  obtain ⟨W1, hW1⟩ : ∃ W1, w.alloc (.cells #[.int .u8 (T : Nat), .slice a len cap] 45) = W1 := ⟨_, rfl⟩
  have hB1 : Below w.heap.size w W1 := by rw [← hW1]; exact below_alloc _ _
  have h1 : W1.heap[w.heap.size]? = some (.cells #[.int .u8 (T : Nat), .slice a len cap] 45 (0, 0)) := by rw [← hW1]; exact heap_alloc_new _ _
  obtain ⟨c0, c1, _, _⟩ := cells2 h1
  have hpb := putBytes_bp N p ys zs a len cap W1 hk (Nat.le_trans hN hB1.size) (h.below hB1)
  have HB := hide hB1
  clear h h1 hB1
  go_enter Tryz.func81, Tryz.ntmps81
  go_wp2_with fail
  refine hpb.mono ?_
  rintro e w2 ⟨rfl, h2, hk2⟩
  have HH := hide (And.intro h2 hk2)
  clear hpb h2 hk2
  go_wp2_with fail
  go_end0
  exact ⟨rfl, HH.out.1, (Kept.of_below HB.out).trans HH.out.2 (fun _ _ h => h)⟩

/-- The lists of bytes of the first parts. -/
def bl (P : Nat → Prt) (k : Nat) : List Value := (List.range k).map fun i => .slice (P i).pB (P i).B.length (P i).cB
theorem bl_succ (P : Nat → Prt) (k : Nat) : bl P (k + 1) = bl P k ++ [.slice (P k).pB (P k).B.length (P k).cB] := by simp [bl, List.range_succ]
theorem bl_len (P : Nat → Prt) (k : Nat) : (bl P k).length = k := by simp [bl]
theorem info_sp : (Tryz.prog.info? 22).map (fun i => (i.zero, i.size, i.bytes)) = some (some (.slice none 0 0), 1, 24) := by kernel_rfl

set_option maxRecDepth 100000 in
set_option maxHeartbeats 1000000 in
theorem putParts_bp (N p : Nat) (ys zs : List Value) (a : Option Addr) (n cap : Nat) (P : Nat → Prt) (w0 w : World) (hP : Prts w0 a n P) (hw : Below w0.heap.size w0 w) (h0 : w0.heap.size ≤ N) (hz : zs.length ≤ 1000) (hk : ys.length + n ≤ 1000000) (hN : N ≤ w.heap.size) (h : BP w N p ys zs) :
    Calls Tryz.prog 44 #[.pointer (some ⟨p, 0, none⟩), .slice a n cap] w fun e w' => e = .returned (.tuple #[]) ∧ BP w' N p (ys ++ bl P n) (zs ++ [.slice a n cap]) ∧ Kept (fun k => N ≤ k) w w' := by
  obtain ⟨i0, hi, hq0, hq1, hq2⟩ := info_parts info_sp
  obtain ⟨A5, C5, A9, C9, h1, h2, h3, h4, h5, h6⟩ := h
  have hpl : p < w.heap.size := block_lt h1
  have c9 : w.cell? ⟨p, 19, none⟩ = some (.slice A9 zs.length C9) := h1.cell 19
  have f9 : w.frozen? ⟨p, 19, none⟩ = false := frozen_of_row _ _ _ _ _ h1
  have k9 := cell_alloc_l (W := w) (.cells #[.slice a n cap] 22) c9
  have m9 := frozen_alloc_l (W := w) (.cells #[.slice a n cap] 22) c9 f9
  have hoA := owns_thru h3 (below_alloc w (.cells #[.slice a n cap] 22))
  have hn1 := cell_one_new w (.slice a n cap) 22
  have H := hide (And.intro h1 (And.intro h2 (And.intro h3 (And.intro h4 (And.intro h5 h6)))))
  have HP := hide (And.intro hP (And.intro hw h0))
  clear h1 h2 h3 h4 h5 h6 hP hw h0
  go_enter Tryz.func44, Tryz.ntmps44
  go_wp2_with (at_builtin; go_must (refine wpList_append_foot _ rfl (.tmp 9) (.tmp 11) 42 rfl 22 i0 (.slice none 0 0) 24 Tryz.underlying42 hi hq0 hq1 hq2 rfl 0 _ zs.length zs rfl hoA (some ⟨w.heap.size, 0, none⟩) 1 1 [.slice a n cap] rfl rfl (fun e => by cases e) (fun ad e => by cases e; exact hn1) (by intro u hu; simp at hu; subst hu; rfl) (by unfold maxLen; omega) (by omega) (Nat.zero_le _) ?_); intro A8 C8 w1 hown1 hg1; have n9 := (hg1.kept (F := fun k => k ≠ p) (fun g hg e => by subst e; exact owns_tyne H.out.2.2.1 H.out.1 (by decide) hg)).cell (p := ⟨p, 19, none⟩) k9 (fun hh => hh rfl); have q9 := (hg1.kept (F := fun k => k ≠ p) (fun g hg e => by subst e; exact owns_tyne H.out.2.2.1 H.out.1 (by decide) hg)).unfrozen (p := ⟨p, 19, none⟩) k9 (fun hh => hh rfl) m9)
  obtain ⟨h1, h2, h3, h4, h5, h6⟩ := H.out
  have hKa : Kept (fun _ => False) w (w.alloc (.cells #[.slice a n cap] 22)) := Kept.of_below (below_alloc w _)
  have hne : ∀ g, (Value.slice A9 zs.length C9).ownBlock = some g → g ≠ p := fun g hg e => by subst e; exact owns_tyne h3 h1 (by decide) hg
  have hKg := hg1.kept (F := fun x => (Value.slice A9 zs.length C9).ownBlock = some x) (fun _ h => h)
  have hKn := hg1.kept (F := fun x => x ≠ p) hne
  have hfo := hg1.foot (F := fun x => (Value.slice A9 zs.length C9).ownBlock = some x) (fun _ h => h)
  have hpb : BagV w1 p (bv (.slice A5 ys.length C5) (.slice A9 zs.length C9)) := (h1.kept hKa (fun h => h)).kept hKn (fun h => h rfl)
  have hnew : ∀ g, (Value.slice A8 (zs.length + 1) C8).ownBlock = some g → g ≠ p ∧ ((Value.slice A9 zs.length C9).ownBlock = some g ∨ w.heap.size ≤ g) := fun g hg => by
    rcases hfo g hg with h | h
    · exact ⟨hne g h, .inl h⟩
    · have := hKa.size
      exact ⟨by omega, .inr (by omega)⟩
  have hK1 : Kept (fun k => N ≤ k) w (w1.setCell ⟨p, 19, none⟩ (.slice A8 (zs.length + 1) C8)) := ((hKa.mono (G := fun k => N ≤ k) (fun _ _ h => h.elim)).trans (hKg.mono (G := fun k => N ≤ k) (fun k _ e => h5 k e)) (fun _ _ h => h)).setCell (.inl h6) _
  have h2a := owns_kept (owns_thru h2 (below_alloc w (.cells #[.slice a n cap] 22))) hKg (fun g hg hh => owns_apart h2 h3 (by decide) g hg hh)
  have hBP : BP (w1.setCell ⟨p, 19, none⟩ (.slice A8 (zs.length + 1) C8)) N p ys (zs ++ [.slice a n cap]) := by
    refine ⟨A5, C5, A8, C8, ?_, owns_other h2a (fun e => owns_tyne h2 h1 (by decide) e) _, ?_, h4, fun g hg => ?_, h6⟩
    · have h := heap_setCell_same w1 p 19 _ _ (.slice A8 (zs.length + 1) C8) hpb
      rw [List.length_append]
      exact h
    · rw [List.length_append]
      exact owns_other hown1 (fun e => (hnew p e).1 rfl) _
    · rw [List.length_append] at hg
      rcases (hnew g hg).2 with e | e
      · exact h5 g e
      · omega
  obtain ⟨W1, hW1⟩ : ∃ W1, w1.setCell ⟨p, 19, none⟩ (.slice A8 (zs.length + 1) C8) = W1 := ⟨_, rfl⟩
  rw [hW1] at hK1 hBP ⊢
  have HI := hide (And.intro hK1 hBP)
  clear h1 h2 h3 h4 h5 h6 hKa hne hKg hKn hfo hpb hnew hK1 h2a hBP hW1 hg1 hown1 hoA hn1 c9 f9 k9 m9 n9 q9 H hi hq0 hq1 hq2
  go_loopg [4] n (fun q s4 wr => ∃ k : Nat, k + q = n ∧ s4 = .int .i64 k ∧ BP wr N p (ys ++ bl P k) (zs ++ [.slice a n cap]) ∧ Kept (fun k => N ≤ k) w wr)
  case atStart => exact ⟨0, by omega, rfl, by simpa [bl] using HI.out.2, HI.out.1⟩
  case round =>
    obtain ⟨k, hkq, rfl, hb, hk2⟩ := hrel
    cases gk with
    | zero =>
      obtain rfl : k = n := by omega
      have HH := hide (And.intro hb hk2)
      clear hb hk2 HP
      go_wp2
      go_end0
      exact ⟨rfl, HH.out.1, HH.out.2⟩
    | succ q =>
      have hkn : k < n := by omega
      have hkz : (k : Int) < (n : Int) := by omega
      have hk0 : (0 : Int) ≤ (k : Int) := by omega
      have hbw : Below w0.heap.size w0 wr := HP.out.2.1.trans (hk2.below (B := w0.heap.size) (fun g hg => Nat.le_trans HP.out.2.2 hg) HP.out.2.1.size)
      obtain ⟨b, off, rfl, ⟨e0, e1⟩, _⟩ := (HP.out.1.below hbw).cells k hkn
      have hon := onePart_bp N p (P k).T (ys ++ bl P k) _ (P k).pB (P k).B.length (P k).cB wr (by rw [List.length_append, bl_len]; omega) (Nat.le_trans hN hk2.size) hb
      rw [List.append_assoc, ← bl_succ] at hon
      have HK := hide hk2
      clear hb hk2 hbw
      go_wp2_with fail
      refine hon.mono ?_
      rintro e w3 ⟨rfl, hb3, hk3⟩
      have HH := hide (And.intro hb3 (HK.out.trans hk3 (fun _ _ h => h)))
      clear hon hb3 hk3
      go_wp2_with fail
      go_roundg q
      case measure => omega
      case rel => exact ⟨k + 1, by omega, by go_num, HH.out.1, HH.out.2⟩
end Go.Proofs.YtlmjplpledilhaaGreat

/-
  Two rows of parts that lie apart are told to.
-/
namespace Go.Proofs.YtlmjplpledilhaaGreat
open Go.RowKit
set_option linter.unusedVariables false

/-- What the bag's lists may change, by how many kinds have been looked at. -/
def FKP (n : Nat) (P : Nat → Prt) (v0 v1 : Value) (j k : Nat) : Prop :=
  (6 ≤ j ∧ ∃ r, r < n ∧ (Value.slice (P r).pB (P r).B.length (P r).cB).ownBlock = some k) ∨ (20 ≤ j ∧ (v0.ownBlock = some k ∨ v1.ownBlock = some k))
theorem FKP.up {n : Nat} {P : Nat → Prt} {v0 v1 : Value} {j i k : Nat} (h : FKP n P v0 v1 j k) (hij : j ≤ i) : FKP n P v0 v1 i k := by
  rcases h with ⟨h1, h2⟩ | ⟨h1, h2⟩
  · exact .inl ⟨by omega, h2⟩
  · exact .inr ⟨by omega, h2⟩
theorem FKP.step {n : Nat} {P : Nat → Prt} {v0 v1 : Value} {j : Nat} {w W w' : World} (h : Kept (FKP n P v0 v1 j) w W) (hb : Below W.heap.size W w') : Kept (FKP n P v0 v1 (j + 1)) w w' :=
  (h.mono (fun _ _ e => e.up (by omega))).trans (Kept.of_below (F := fun _ => False) hb) (fun _ _ e => e.elim)
theorem bl_get (P : Nat → Prt) (n r : Nat) (h : r < n) : (bl P n)[r]? = some (.slice (P r).pB (P r).B.length (P r).cB) := by simp [bl, h]

set_option maxRecDepth 100000 in
set_option maxHeartbeats 2000000 in
theorem apart_bp (N p n n0 n1 C0 C1 : Nat) (A0 A1 : Option Addr) (X0 X1 : List Value) (P : Nat → Prt) (w : World) (hn : n ≤ 100000) (hn0 : n0 ≤ 1000000) (hn1 : n1 ≤ 1000000) (hP : ∀ r, r < n → (P r).B.length ≤ 1000000)
    (h : BP w N p (bl P n) [.slice A0 n0 C0, .slice A1 n1 C1]) (hby : ∀ r, r < n → w.ownsRow 0 5 1 (.slice (P r).pB (P r).B.length (P r).cB) (P r).B.length (lc (P r).B))
    (hd : ∀ r s g, r < n → s < n → (Value.slice (P r).pB (P r).B.length (P r).cB).ownBlock = some g → (Value.slice (P s).pB (P s).B.length (P s).cB).ownBlock = some g → r = s)
    (h0 : w.ownsRow 0 45 2 (.slice A0 n0 C0) n0 X0) (h1 : w.ownsRow 0 45 2 (.slice A1 n1 C1) n1 X1) (h01 : ∀ g, (Value.slice A0 n0 C0).ownBlock = some g → (Value.slice A1 n1 C1).ownBlock ≠ some g) :
    Calls Tryz.prog 35 #[.pointer (some ⟨p, 0, none⟩)] w fun e w' => e = .returned (.bool true) ∧ Kept (FKP n P (.slice A0 n0 C0) (.slice A1 n1 C1) 21) w w' := by
  obtain ⟨A5, C5, A9, C9, hb, o5, o9, g5, g9, hNp⟩ := h
  rw [bl_len] at hb o5 g5
  have hpF : ∀ j, ¬ FKP n P (.slice A0 n0 C0) (.slice A1 n1 C1) j p := fun j hh => by
    rcases hh with ⟨_, r, hr, e⟩ | ⟨_, e | e⟩
    · exact owns_tyne (hby r hr) hb (by decide) e
    · exact owns_tyne h0 hb (by decide) e
    · exact owns_tyne h1 hb (by decide) e
  have nil := fun {j : Nat} {f : Nat} {W : World} (hI : Kept (FKP n P (.slice A0 n0 C0) (.slice A1 n1 C1) j) w W) (hc : Calls Tryz.prog f #[.slice none 0 0] W fun e w' => e = .returned (.bool true) ∧ Below W.heap.size W w') =>
    hc.mono (R' := fun e w' => e = .returned (.bool true) ∧ Kept (FKP n P (.slice A0 n0 C0) (.slice A1 n1 C1) (j + 1)) w w') (fun e w' hh => ⟨hh.1, FKP.step hI hh.2⟩)
  refine bagApart_gen p _ (fun j W => Kept (FKP n P (.slice A0 n0 C0) (.slice A1 n1 C1) j) w W) w (Kept.refl _ _) (fun j W hW => hb.kept hW (hpF j)) (fun W h => nil h (nil_Limbs W)) (fun W h => nil h (nil_Words W)) (fun W h => nil h (nil_Ints W)) (fun W h => nil h (nil_Longs W)) (fun W h => nil h (nil_Texts W)) ?f5
    (fun W h => nil h (nil_Truths W)) (fun W h => nil h (nil_Nodes W)) (fun W h => nil h (nil_Insts W)) (fun W h => nil h (nil_Queries W)) (fun W h => nil h (nil_Files W)) (fun W h => nil h (nil_Docs W)) (fun W h => nil h (nil_Places W)) (fun W h => nil h (nil_Postings W)) (fun W h => nil h (nil_ShardRefs W)) (fun W h => nil h (nil_Manifests W)) (fun W h => nil h (nil_Asks W)) (fun W h => nil h (nil_Hits W)) (fun W h => nil h (nil_Answers W)) ?f19 (fun W h => nil h (nil_Changes W))
  case f5 =>
    intro W hW
    show Calls Tryz.prog 58 #[.slice A5 n C5] W _
    have hW0 : Kept (fun _ => False) w W := hW.mono (fun k _ e => by
      rcases e with ⟨e, _⟩ | ⟨e, _⟩ <;> omega)
    have o5' := o5
    obtain ⟨_, ⟨hv, hz⟩ | ⟨g, cap, cur, hv, _⟩⟩ := o5'
    · cases hv
      exact nil hW (nil_BytesL W)
    · cases hv
      have hcl := o5.cells (g := g) rfl
      refine (flatBytes_any g 0 n C5 (fun r => (P r).pB) (fun r => (P r).B.length) (fun r => (P r).cB) (fun r => lc (P r).B) W hn (fun r hr => by have := hP r hr; omega) ⟨hd, fun r g' hr e e2 => by subst e2; exact owns_apart o5 (hby r hr) (by decide) g' rfl e⟩
        (fun r hr => ?_) (fun r hr => owns_kept (hby r hr) hW0 (fun _ _ h => h))).mono ?_
      · have := hcl r _ (bl_get P n r hr)
        rw [add_none' _ rfl] at this
        exact hW0.cell this (fun h => h)
      · rintro e w' ⟨he, hst⟩
        refine ⟨he, (hW.mono (fun _ _ e => e.up (by omega))).trans hst.1 (fun k _ hk => ?_)⟩
        obtain ⟨r, hr, e⟩ := hk
        exact .inl ⟨by omega, r, hr, e⟩
  case f19 =>
    intro W hW
    show Calls Tryz.prog 72 #[.slice A9 2 C9] W _
    have hW0 : Kept (fun k => ∃ r, r < n ∧ (Value.slice (P r).pB (P r).B.length (P r).cB).ownBlock = some k) w W := hW.mono (fun k _ e => by
      rcases e with ⟨_, e⟩ | ⟨e, _⟩
      · exact e
      · omega)
    have o9' := o9
    obtain ⟨_, ⟨hv, hz⟩ | ⟨g, cap, cur, hv, _⟩⟩ := o9'
    · simp at hz
    · cases hv
      have hcl := o9.cells (g := g) rfl
      have hgW : ∀ {i : Nat} {u : Value}, [Value.slice A0 n0 C0, Value.slice A1 n1 C1][i]? = some u → W.cell? ⟨g, 0 + i, none⟩ = some u := fun {i u} hi => by
        have := hcl i u hi
        rw [add_none' _ rfl] at this
        exact hW0.cell this (fun ⟨r, hr, e⟩ => owns_apart o9 (hby r hr) (by decide) g rfl e)
      have hro : ∀ {A : Option Addr} {m C : Nat} {X : List Value}, w.ownsRow 0 45 2 (.slice A m C) m X → W.ownsRow 0 45 2 (.slice A m C) m X := fun hh => owns_keptS hh hW0 (fun g' hg' ⟨r, hr, e⟩ => owns_apart hh (hby r hr) (by decide) g' hg' e)
      refine (PartFlat.flat_any g 0 2 C9 (fun r => if r = 0 then A0 else A1) (fun r => if r = 0 then n0 else n1) (fun r => if r = 0 then C0 else C1) (fun r => if r = 0 then X0 else X1) W (by omega) (fun r hr => ?_) ⟨fun r s k hr hs e1 e2 => ?_, fun r k hr e e2 => ?_⟩ (fun r hr => ?_) (fun r hr => ?_)).mono ?_
      · rcases (show r = 0 ∨ r = 1 by omega) with rfl | rfl
        · show n0 ≤ _; omega
        · show n1 ≤ _; omega
      · rcases (show r = 0 ∨ r = 1 by omega) with rfl | rfl <;> rcases (show s = 0 ∨ s = 1 by omega) with rfl | rfl
        · rfl
        · exact absurd e2 (h01 k e1)
        · exact absurd e1 (h01 k e2)
        · rfl
      · subst e2
        rcases (show r = 0 ∨ r = 1 by omega) with rfl | rfl
        · exact owns_apart o9 h0 (by decide) k rfl e
        · exact owns_apart o9 h1 (by decide) k rfl e
      · rcases (show r = 0 ∨ r = 1 by omega) with rfl | rfl
        · exact hgW (i := 0) rfl
        · exact hgW (i := 1) rfl
      · rcases (show r = 0 ∨ r = 1 by omega) with rfl | rfl
        · exact hro h0
        · exact hro h1
      · rintro e w' ⟨he, hst⟩
        refine ⟨he, (hW.mono (fun _ _ e => e.up (by omega))).trans hst.1 (fun k _ hk => ?_)⟩
        obtain ⟨r, hr, e⟩ := hk
        rcases (show r = 0 ∨ r = 1 by omega) with rfl | rfl
        · exact .inr ⟨by omega, .inl e⟩
        · exact .inr ⟨by omega, .inr e⟩
/-- Two rows of parts behind each other. -/
def two (n0 : Nat) (P0 P1 : Nat → Prt) (r : Nat) : Prt := if r < n0 then P0 r else P1 (r - n0)
theorem bl_two (n0 n1 : Nat) (P0 P1 : Nat → Prt) : bl P0 n0 ++ bl P1 n1 = bl (two n0 P0 P1) (n0 + n1) := by
  apply List.ext_getElem?
  intro i
  by_cases h : i < n0
  · rw [List.getElem?_append_left (by rw [bl_len]; exact h), bl_get _ _ _ h, bl_get _ _ _ (by omega)]
    unfold two
    rw [if_pos h]
  · rw [List.getElem?_append_right (by rw [bl_len]; omega), bl_len]
    by_cases h2 : i < n0 + n1
    · rw [bl_get _ _ _ h2, bl_get _ _ _ (by omega)]
      unfold two
      rw [if_neg h]
    · rw [List.getElem?_eq_none (by rw [bl_len]; omega), List.getElem?_eq_none (by rw [bl_len]; omega)]
/-- The blocks of a row of parts and of their bytes. -/
def PVown (v : Value) (xs : List PV) (k : Nat) : Prop := v.ownBlock = some k ∨ ∃ x ∈ xs, x.2.ownBlock = some k
theorem pv_slice {w : World} {B : Nat} {v : Value} {xs : List PV} (h : OwnPV w B v xs) (i : Nat) (hi : i < xs.length) : xs[i].2 = .slice (prtAt xs i).pB (prtAt xs i).B.length (prtAt xs i).cB ∧ w.ownsRow B 5 1 xs[i].2 xs[i].1.2.length (lc xs[i].1.2) := by
  have h1 := (h.2.1 xs[i] (List.getElem_mem hi)).1
  refine ⟨?_, h1⟩
  obtain ⟨A, C, e⟩ := owns_slice h1
  rw [prtAt_lt hi]
  unfold prtOf
  rw [e]
  rfl
theorem pv_len {xs : List PV} (i : Nat) (hi : i < xs.length) : (prtAt xs i).B = xs[i].1.2 := by rw [prtAt_lt hi]; rfl

set_option maxRecDepth 100000 in
set_option maxHeartbeats 2000000 in
theorem apartParts_any (g : Nat) (v0 v1 : Value) (xs0 xs1 : List PV) (B0 B1 : Nat) (w : World) (hb : w.heap[g]? = some (.cells #[v0, v1] 22 (0, 0))) (h0 : OwnPV w B0 v0 xs0) (h1 : OwnPV w B1 v1 xs1)
    (hlt : (∀ k, v0.ownBlock = some k → k < B1) ∧ ∀ x ∈ xs0, ∀ k, x.2.ownBlock = some k → k < B1) (hl : xs0.length + xs1.length ≤ 100000) (hl0 : ∀ x ∈ xs0, x.1.2.length ≤ 1000000) (hl1 : ∀ x ∈ xs1, x.1.2.length ≤ 1000000) :
    Calls Tryz.prog 21 #[.slice (some ⟨g, 0, none⟩) 2 2] w fun e w' => e = .returned (.bool true) ∧ Kept (fun k => PVown v0 xs0 k ∨ PVown v1 xs1 k) w w' := by
  obtain ⟨A0, C0, rfl, hP0, x0, x1⟩ := h0.prts
  obtain ⟨A1, C1, rfl, hP1, x2, x3⟩ := h1.prts
  clear x0 x1 x2 x3
  obtain ⟨W0, hW0⟩ : ∃ W0, w.alloc (.cells (bagOf (fun _ => .slice none 0 0)) 82) = W0 := ⟨_, rfl⟩
  have hBw : Below w.heap.size w W0 := by rw [← hW0]; exact below_alloc _ _
  have hs0 : W0.heap.size = w.heap.size + 1 := by rw [← hW0]; simp
  have hbp : BP W0 w.heap.size w.heap.size [] [] := ⟨none, 0, none, 0, by rw [← hW0]; exact heap_alloc_new _ _, World.ownsRow_nil _ _ _ _, World.ownsRow_nil _ _ _ _, (by intro g h; cases h), (by intro g h; cases h), Nat.le_refl _⟩
  have hc0 : w.cell? ⟨g, 0, none⟩ = some (.slice A0 xs0.length C0) := cell_of_row _ _ 0 _ _ _ hb
  have hc1 : w.cell? ⟨g, 1, none⟩ = some (.slice A1 xs1.length C1) := cell_of_row _ _ 1 _ _ _ hb
  have HH := hide (And.intro hBw (And.intro hs0 (And.intro hbp (And.intro hc0 hc1))))
  have HO := hide (And.intro h0 (And.intro h1 (And.intro hP0 (And.intro hP1 (And.intro hlt (And.intro hl0 hl1))))))
  clear hb h0 h1 hP0 hP1 hlt hl0 hl1 hBw hs0 hbp hc0 hc1
  subst hW0
  go_enter Tryz.func21, Tryz.ntmps21
  go_wp2_with fail
  go_loopg [4] 2 (fun q s4 wr => ∃ k : Nat, k + q = 2 ∧ s4 = .int .i64 k ∧ Kept (fun k => w.heap.size ≤ k) w wr ∧ w.heap.size ≤ wr.heap.size ∧
    (k = 0 → BP wr w.heap.size w.heap.size [] []) ∧ (k = 1 → BP wr w.heap.size w.heap.size (bl (prtAt xs0) xs0.length) [.slice A0 xs0.length C0]) ∧ (k = 2 → BP wr w.heap.size w.heap.size (bl (prtAt xs0) xs0.length ++ bl (prtAt xs1) xs1.length) [.slice A0 xs0.length C0, .slice A1 xs1.length C1]))
  case atStart => exact ⟨0, by omega, rfl, Kept.of_below HH.out.1, HH.out.1.size, fun _ => HH.out.2.2.1, fun h => by omega, fun h => by omega⟩
  case round =>
    obtain ⟨k, hkq, rfl, hK, hsz, b0, b1, b2⟩ := hrel
    obtain ⟨h0, h1, hP0, hP1, hlt, hl0, hl1⟩ := HO.out
    have hbw : Below w.heap.size w wr := hK.below (fun _ h => h) (Nat.le_refl _)
    cases gk with
    | zero =>
      obtain rfl : k = 2 := by omega
      have hbb := b2 rfl
      rw [bl_two] at hbb
      have ho0 : OwnPV wr B0 (.slice A0 xs0.length C0) xs0 := h0.kept (Kept.of_below (F := fun _ => False) hbw) (fun _ h => h.elim)
      have ho1 : OwnPV wr B1 (.slice A1 xs1.length C1) xs1 := h1.kept (Kept.of_below (F := fun _ => False) hbw) (fun _ h => h.elim)
      have hrow : ∀ r, r < xs0.length + xs1.length → wr.ownsRow 0 5 1 (.slice (two xs0.length (prtAt xs0) (prtAt xs1) r).pB (two xs0.length (prtAt xs0) (prtAt xs1) r).B.length (two xs0.length (prtAt xs0) (prtAt xs1) r).cB) (two xs0.length (prtAt xs0) (prtAt xs1) r).B.length (lc (two xs0.length (prtAt xs0) (prtAt xs1) r).B) ∧ (two xs0.length (prtAt xs0) (prtAt xs1) r).B.length ≤ 1000000 := fun r hr => by
        unfold two
        by_cases h : r < xs0.length
        · rw [if_pos h]
          obtain ⟨e1, e2⟩ := pv_slice ho0 r h
          have := hl0 _ (List.getElem_mem h)
          rw [← pv_len r h] at e2 this
          rw [e1] at e2
          exact ⟨owns_lower e2 (Nat.zero_le _), this⟩
        · rw [if_neg h]
          have h' : r - xs0.length < xs1.length := by omega
          obtain ⟨e1, e2⟩ := pv_slice ho1 _ h'
          have := hl1 _ (List.getElem_mem h')
          rw [← pv_len _ h'] at e2 this
          rw [e1] at e2
          exact ⟨owns_lower e2 (Nat.zero_le _), this⟩
      have hown : ∀ r, r < xs0.length + xs1.length → ∀ k, (Value.slice (two xs0.length (prtAt xs0) (prtAt xs1) r).pB (two xs0.length (prtAt xs0) (prtAt xs1) r).B.length (two xs0.length (prtAt xs0) (prtAt xs1) r).cB).ownBlock = some k → (∃ h : r < xs0.length, xs0[r].2.ownBlock = some k) ∨ (∃ h : r - xs0.length < xs1.length, ¬ r < xs0.length ∧ xs1[r - xs0.length].2.ownBlock = some k) := fun r hr k hk => by
        unfold two at hk
        by_cases h : r < xs0.length
        · rw [if_pos h, ← (pv_slice ho0 r h).1] at hk
          exact .inl ⟨h, hk⟩
        · have h' : r - xs0.length < xs1.length := by omega
          rw [if_neg h, ← (pv_slice ho1 _ h').1] at hk
          exact .inr ⟨h', h, hk⟩
      have low0 : ∀ (r : Nat) (h : r < xs0.length) (k : Nat), xs0[r].2.ownBlock = some k → B0 ≤ k ∧ k < B1 := fun r h k hk => ⟨(owns_cells (ho0.2.1 _ (List.getElem_mem h)).1 k hk).2.1, hlt.2 _ (List.getElem_mem h) k hk⟩
      have low1 : ∀ (r : Nat) (h : r < xs1.length) (k : Nat), xs1[r].2.ownBlock = some k → B1 ≤ k := fun r h k hk => (owns_cells (ho1.2.1 _ (List.getElem_mem h)).1 k hk).2.1
      have hap := apart_bp w.heap.size w.heap.size (xs0.length + xs1.length) xs0.length xs1.length C0 C1 A0 A1 (pcells xs0) (pcells xs1) (two xs0.length (prtAt xs0) (prtAt xs1)) wr hl (by omega) (by omega) (fun r hr => (hrow r hr).2) hbb (fun r hr => (hrow r hr).1)
        (fun r s k hr hs e1 e2 => by
          rcases hown r hr k e1 with ⟨x1, y1⟩ | ⟨x1, z1, y1⟩ <;> rcases hown s hs k e2 with ⟨x2, y2⟩ | ⟨x2, z2, y2⟩
          · by_cases e : r = s
            · exact e
            · exfalso
              rcases Nat.lt_or_gt_of_ne e with hh | hh
              · exact List.pairwise_iff_getElem.1 ho0.2.2 r s x1 x2 hh k y1 y2
              · exact List.pairwise_iff_getElem.1 ho0.2.2 s r x2 x1 hh k y2 y1
          · have := low0 r x1 k y1; have := low1 _ x2 k y2; omega
          · have := low0 s x2 k y2; have := low1 _ x1 k y1; omega
          · by_cases e : r = s
            · exact e
            · exfalso
              rcases Nat.lt_or_gt_of_ne e with hh | hh
              · exact List.pairwise_iff_getElem.1 ho1.2.2 _ _ x1 x2 (by omega) k y1 y2
              · exact List.pairwise_iff_getElem.1 ho1.2.2 _ _ x2 x1 (by omega) k y2 y1)
        (owns_lower ho0.1 (Nat.zero_le _)) (owns_lower ho1.1 (Nat.zero_le _)) (fun k e1 e2 => by have := hlt.1 k e1; have := (owns_cells ho1.1 k e2).2.1; omega)
      have hF : ∀ k, FKP (xs0.length + xs1.length) (two xs0.length (prtAt xs0) (prtAt xs1)) (.slice A0 xs0.length C0) (.slice A1 xs1.length C1) 21 k → PVown (.slice A0 xs0.length C0) xs0 k ∨ PVown (.slice A1 xs1.length C1) xs1 k := fun k hk => by
        rcases hk with ⟨_, r, hr, e⟩ | ⟨_, e | e⟩
        · rcases hown r hr k e with ⟨x, y⟩ | ⟨x, _, y⟩
          · exact .inl (.inr ⟨_, List.getElem_mem x, y⟩)
          · exact .inr (.inr ⟨_, List.getElem_mem x, y⟩)
        · exact .inl (.inl e)
        · exact .inr (.inl e)
      have HF := hide (And.intro hbw hF)
      clear hbb ho0 ho1 hrow hown low0 low1 hF hbw hK b0 b1 b2 h0 h1 hP0 hP1 hlt hl0 hl1
      go_wp2_with fail
      refine hap.mono ?_
      rintro e w9 ⟨rfl, hk9⟩
      have H9 := hide ((Kept.of_below (F := fun k => PVown (.slice A0 xs0.length C0) xs0 k ∨ PVown (.slice A1 xs1.length C1) xs1 k) HF.out.1).trans (hk9.mono (G := fun k => PVown (.slice A0 xs0.length C0) xs0 k ∨ PVown (.slice A1 xs1.length C1) xs1 k) (fun k _ e => HF.out.2 k e)) (fun _ _ h => h))
      clear hap hk9
      go_wp2_with fail
      go_ret
      exact ⟨rfl, H9.out⟩
    | succ q =>
      rcases (show k = 0 ∨ k = 1 by omega) with rfl | rfl
      · have hpp := putParts_bp w.heap.size w.heap.size [] [] A0 xs0.length C0 (prtAt xs0) w wr hP0 hbw (Nat.le_refl _) (by simp) (by simp; omega) hsz (b0 rfl)
        have c0 := cell_thru HH.out.2.2.2.1 hbw
        have HK := hide hK
        clear b0 b1 b2 hK hbw h0 h1 hP0 hP1 hlt hl0 hl1
        go_wp2_with fail
        refine hpp.mono ?_
        rintro e w3 ⟨rfl, hb3, hk3⟩
        have H3 := hide (And.intro (HK.out.trans hk3 (fun _ _ h => h)) (And.intro hb3 (Nat.le_trans hsz hk3.size)))
        clear hpp hb3 hk3
        go_wp2_with fail
        go_roundg q
        case measure => omega
        case rel => exact ⟨1, by omega, by go_num, H3.out.1, H3.out.2.2, fun h => by omega, fun _ => by simpa using H3.out.2.1, fun h => by omega⟩
      · have hpp := putParts_bp w.heap.size w.heap.size _ _ A1 xs1.length C1 (prtAt xs1) w wr hP1 hbw (Nat.le_refl _) (by simp) (by rw [bl_len]; omega) hsz (b1 rfl)
        have c1 := cell_thru HH.out.2.2.2.2 hbw
        have HK := hide hK
        clear b0 b1 b2 hK hbw h0 h1 hP0 hP1 hlt hl0 hl1
        go_wp2_with fail
        refine hpp.mono ?_
        rintro e w3 ⟨rfl, hb3, hk3⟩
        have H3 := hide (And.intro (HK.out.trans hk3 (fun _ _ h => h)) (And.intro hb3 (Nat.le_trans hsz hk3.size)))
        clear hpp hb3 hk3
        go_wp2_with fail
        go_roundg q
        case measure => omega
        case rel => exact ⟨2, by omega, by go_num, H3.out.1, H3.out.2.2, fun h => by omega, fun h => by omega, fun _ => by simpa using H3.out.2.1⟩
end Go.Proofs.YtlmjplpledilhaaGreat
