/-
  ApartPostings, ApartTexts.
-/
import Derived.Test.YtpdlapnliiengaaGreatBagP
import Derived.Test.YtpdlapnliiengaaGreatGRefM
namespace Go.Proofs.YtpdlapnliiengaaGreat
open Go.RowKit
set_option linter.unusedVariables false
set_option linter.unusedSimpArgs false

theorem RowsOf.two {e : TypeId} {sz : Nat} {W : World} {xs ys : List Value} (h1 : RowsOf e sz W xs) (h2 : RowsOf e sz W ys) (h3 : ∀ x ∈ xs, ∀ y ∈ ys, ∀ g, x.ownBlock = some g → y.ownBlock ≠ some g) : RowsOf e sz W (xs ++ ys) :=
  ⟨fun y hy => (List.mem_append.1 hy).elim (h1.1 y) (h2.1 y), List.pairwise_append.2 ⟨h1.2, h2.2, h3⟩⟩
theorem RowsOf.one {e : TypeId} {sz n : Nat} {W : World} {v : Value} {xs : List Value} (h : W.ownsRow 0 e sz v n xs) (hn : n ≤ 1000000) : RowsOf e sz W [v] := by
  refine ⟨fun y hy => ?_, List.pairwise_singleton _ _⟩
  rw [List.mem_singleton.1 hy]
  obtain ⟨A, C, e⟩ := owns_slice h
  have hl : lenOf v = n := by rw [e]; rfl
  rw [hl]
  exact ⟨_, hn, h⟩
theorem owns_lower {w : World} {B B' n size : Nat} {v : Value} {xs : List Value} {e : TypeId} (h : w.ownsRow B e size v n xs) (hB : B' ≤ B) : w.ownsRow B' e size v n xs :=
  ⟨h.1, h.2.imp (fun h => h) (fun ⟨g, c, u, h1, h2, h3⟩ => ⟨g, c, u, h1, Nat.le_trans hB h2, h3⟩)⟩
theorem PostM.rows {w : World} {B m : Nat} {z : Nat → Nat} {ks : List Nat} {v : Value} {vf : Nat → Value} (h : PostM w B z m ks v vf) (hm : m ≤ 1000000) (hnd : ks.Nodup) : RowsOf 44 2 w (ks.map vf) := by
  refine ⟨fun y hy => ?_, ?_⟩
  · obtain ⟨x, hx, rfl⟩ := List.mem_map.1 hy
    have ho := owns_lower (h.places x hx) (Nat.zero_le _)
    obtain ⟨A, C, e⟩ := owns_slice ho
    have hl : lenOf (vf x) = (plL z (List.range m) x).length := by rw [e]; rfl
    rw [hl]
    have := List.length_filter_le (fun j => gN z j == x) (List.range m)
    rw [List.length_range] at this
    exact ⟨_, Nat.le_trans this hm, ho⟩
  · rw [List.pairwise_map]
    refine List.Pairwise.imp_of_mem (fun {a b} ha hb hne => ?_) hnd
    intro g h1 h2
    exact hne (h.apart a ha b hb g h1 h2)

set_option maxHeartbeats 400000 in
theorem onePosting_bg (N p : Nat) (L : Nat → List Value) (T : ByteArray) (a : Option Addr) (len cap : Nat) (w : World) (hk : (L 12).length ≤ 1000000) (hN : N ≤ w.heap.size) (h : BG w N p L) :
    Calls Tryz.prog 38 #[.pointer (some ⟨p, 0, none⟩), .agg #[.string T, .slice a len cap]] w fun e w' => e = .returned (.tuple #[]) ∧ BG w' N p (addL L 12 [.slice a len cap]) ∧ Kept (fun k => N ≤ k) w w' := by
  obtain ⟨W1, hW1⟩ : ∃ W1, w.alloc (.cells #[.string T, .slice a len cap] 42) = W1 := ⟨_, rfl⟩
  have hB1 : Below w.heap.size w W1 := by rw [← hW1]; exact below_alloc _ _
  have h1 : W1.heap[w.heap.size]? = some (.cells #[.string T, .slice a len cap] 42 (0, 0)) := by rw [← hW1]; exact heap_alloc_new _ _
  have c0 : W1.cell? ⟨w.heap.size, 0, none⟩ = some (.string T) := by rw [cell_of_row _ _ _ _ _ _ h1]; rfl
  have c1 : W1.cell? ⟨w.heap.size, 1, none⟩ = some (.slice a len cap) := by rw [cell_of_row _ _ _ _ _ _ h1]; rfl
  have hpb := put_Places N p L a len cap W1 hk (Nat.le_trans hN hB1.size) (h.below hB1)
  have HB := hide hB1
  clear h h1 hB1
  go_enter Tryz.func38, Tryz.ntmps38
  go_wp2_with fail
  refine hpb.mono ?_
  rintro e w2 ⟨rfl, h2, hk2⟩
  have HH := hide (And.intro h2 hk2)
  clear hpb h2 hk2
  go_wp2_with fail
  go_end0
  exact ⟨rfl, HH.out.1, (Kept.of_below HB.out).trans HH.out.2 (fun _ _ h => h)⟩

set_option maxRecDepth 100000 in
set_option maxHeartbeats 1000000 in
theorem put_Postings (N p : Nat) (L : Nat → List Value) (a : Option Addr) (n cap : Nat) (B m : Nat) (z : Nat → Nat) (ks : List Nat) (vf : Nat → Value) (w0 w : World) (hP : PostM w0 B z m ks (.slice a n cap) vf) (hkn : ks.length = n) (hw : Below w0.heap.size w0 w) (h0 : w0.heap.size ≤ N) (hz : (L 13).length ≤ 1000) (hk0 : (L 12).length + n ≤ 1000000) (hN : N ≤ w.heap.size) (h : BG w N p L) :
    Calls Tryz.prog 26 #[.pointer (some ⟨p, 0, none⟩), .slice a n cap] w fun e w' => e = .returned (.tuple #[]) ∧ BG w' N p (addL (addL L 13 [.slice a n cap]) 12 ((ks.take n).map vf)) ∧ Kept (fun k => N ≤ k) w w' := by
  have hn6 : n ≤ 1000000 := by omega
  obtain ⟨i0, hi, hq0, hq1, hq2⟩ := info_parts infoB_Postings
  obtain ⟨A, C, hp, hL, hNp⟩ := h
  have ho : w.ownsRow 0 27 1 (.slice (A 13) (L 13).length (C 13)) (L 13).length (L 13) := (hL 13 (by omega)).1
  have hpl : p < w.heap.size := block_lt hp
  have c5 : w.cell? ⟨p, 13, none⟩ = some (.slice (A 13) (L 13).length (C 13)) := hp.cell 13
  have f5 : w.frozen? ⟨p, 13, none⟩ = false := frozen_of_row _ _ _ _ _ hp
  have hne : ∀ g, (Value.slice (A 13) (L 13).length (C 13)).ownBlock = some g → g ≠ p := fun g hg e => by subst e; exact owns_tyne ho hp (by decide) hg
  obtain ⟨L2, hL2⟩ : ∃ L2, L2 = addL L 13 [.slice a n cap] := ⟨_, rfl⟩
  have hL22 : (L2 12).length = (L 12).length := by rw [hL2, addL_ne L _ (by omega)]
  have hpush := fun (w' : World) (A6 : Option Addr) (C6 : Nat) => BG.push (W := w) (W' := w') (N := N) (p := p) (j := 13) (L := L) (A := A) (C := C) (A6 := A6) (C6 := C6) (.slice a n cap) (by omega) hp hL hNp hN
  rw [← hL2] at hpush ⊢
  generalize hA5 : A 13 = A5 at *
  generalize hC5 : C 13 = C5 at *
  generalize hys : L 13 = ys at *
  generalize hkk : ys.length = k at *
  have k5 := cell_alloc_l (W := w) (.cells #[.slice a n cap] 27) c5
  have m5 := frozen_alloc_l (W := w) (.cells #[.slice a n cap] 27) c5 f5
  have hoA := owns_thru ho (below_alloc w (.cells #[.slice a n cap] 27))
  have hn1 := cell_one_new w (.slice a n cap) 27
  have HP := hide (And.intro hp hpush)
  have HS := hide (And.intro hP (And.intro hw (And.intro h0 (And.intro hL22 hk0))))
  have HNE := hide hne
  clear hp ho hne hL hA5 hC5 hys hkk hNp hpush hP hw h0 hL22 hk0 hL2
  go_enter Tryz.func26, Tryz.ntmps26
  go_wp2_with (at_builtin; go_must (refine wpList_append_foot _ rfl (.tmp 9) (.tmp 11) 36 rfl 27 i0 (.slice none 0 0) 24 Tryz.underlying36 hi hq0 hq1 hq2 rfl 0 _ k ys rfl hoA (some ⟨w.heap.size, 0, none⟩) 1 1 [.slice a n cap] rfl rfl (fun e => by cases e) (fun ad e => by cases e; exact hn1) (by simp [Value.oneCell']) (by unfold maxLen; omega) (by omega) (by omega) ?_); intro A6 C6 w1 hown1 hg1; have hc1 := (hg1.kept (F := fun x => x ≠ p) HNE.out).cell k5 (fun h => h rfl); have hf1 := (hg1.kept (F := fun x => x ≠ p) HNE.out).unfrozen k5 (fun h => h rfl) m5)
  obtain ⟨hp, hpush⟩ := HP.out
  have hKa : Kept (fun _ => False) w (w.alloc (.cells #[.slice a n cap] 27)) := Kept.of_below (below_alloc w _)
  have hKg := hg1.kept (F := fun x => (Value.slice A5 k C5).ownBlock = some x) (fun _ h => h)
  have hKn := hg1.kept (F := fun x => x ≠ p) HNE.out
  have hfo := hg1.foot (F := fun x => (Value.slice A5 k C5).ownBlock = some x) (fun _ h => h)
  have hpb : BagV w1 p _ := (hp.kept hKa (fun h => h)).kept hKn (fun h => h rfl)
  have hnew : ∀ g, (Value.slice A6 (k + 1) C6).ownBlock = some g → g ≠ p ∧ ((Value.slice A5 k C5).ownBlock = some g ∨ w.heap.size ≤ g) := fun g hg => by
    rcases hfo g hg with h | h
    · exact ⟨HNE.out g h, .inl h⟩
    · have := hKa.size
      exact ⟨by omega, .inr (by omega)⟩
  have hb9 := heap_setCell_same w1 p 13 _ _ (.slice A6 (k + 1) C6) hpb
  have ho9 := owns_other (i := 13) hown1 (fun e => (hnew p e).1 rfl) (.slice A6 (k + 1) C6)
  have hk9 := ((hKa.mono (G := fun x => x = p ∨ (Value.slice A5 k C5).ownBlock = some x) (fun _ _ h => h.elim)).trans hKg (fun _ _ h => .inr h)).setCell (p := ⟨p, 13, none⟩) (.inl (.inl rfl)) (.slice A6 (k + 1) C6)
  have hn9 := fun g hg => (hnew g hg).2
  have hend := hpush _ A6 C6 hb9 ho9 hn9 hk9
  obtain ⟨W1, hW1⟩ : ∃ W1, w1.setCell ⟨p, 13, none⟩ (.slice A6 (k + 1) C6) = W1 := ⟨_, rfl⟩
  rw [hW1] at hend ⊢
  have HI := hide hend
  clear hp hpush hKa hKg hKn hfo hpb hnew hb9 ho9 hk9 hn9 hend hW1 hg1 hown1 hoA hn1 c5 f5 k5 m5 hc1 hf1 hi hq0 hq1 hq2 HP HNE
  go_loopg [4] n (fun q s4 wr => ∃ k : Nat, k + q = n ∧ s4 = .int .i64 k ∧ BG wr N p (addL L2 12 ((ks.take k).map vf)) ∧ Kept (fun k => N ≤ k) w wr)
  case atStart => exact ⟨0, by omega, rfl, by rw [show (ks.take 0).map vf = [] from rfl, addL_nil]; exact HI.out.1, HI.out.2⟩
  case round =>
    obtain ⟨k, hkq, rfl, hb, hk2⟩ := hrel
    cases gk with
    | zero =>
      obtain rfl : k = n := by omega
      have HH := hide (And.intro hb hk2)
      clear hb hk2 HS
      go_wp2
      go_end0
      exact ⟨rfl, HH.out.1, HH.out.2⟩
    | succ q =>
      have hkn2 : k < n := by omega
      have hkz : (k : Int) < (n : Int) := by omega
      have hk0 : (0 : Int) ≤ (k : Int) := by omega
      have hbw : Below w0.heap.size w0 wr := HS.out.2.1.trans (hk2.below (B := w0.heap.size) (fun g hg => Nat.le_trans HS.out.2.2.1 hg) HS.out.2.1.size)
      have hrow := HS.out.1.row
      rw [hkn] at hrow
      obtain ⟨b, rfl, _, _, _, _⟩ := owns_addr hrow (by omega)
      have hkl : k < ks.length := by omega
      have hxm : ks.getD k 0 ∈ ks := by
        rw [List.getD_eq_getElem?_getD, List.getElem?_eq_getElem hkl]
        exact List.getElem_mem hkl
      have e0 := cell_thru (owns_at hrow (pocl_get ks vf k hkl).1).1 hbw
      have e1 := cell_thru (owns_at hrow (pocl_get ks vf k hkl).2).1 hbw
      have htk : (ks.take (k + 1)).map vf = (ks.take k).map vf ++ [vf (ks.getD k 0)] := by
        rw [List.take_add_one, List.map_append, List.getD_eq_getElem?_getD, List.getElem?_eq_getElem hkl]; rfl
      obtain ⟨aX, cX, hvX⟩ := owns_slice (HS.out.1.places _ hxm)
      obtain ⟨T, hT⟩ : ∃ T, gts (ks.getD k 0) = T := ⟨_, rfl⟩
      obtain ⟨np, hnp⟩ : ∃ np, (plL z (List.range m) (ks.getD k 0)).length = np := ⟨_, rfl⟩
      rw [hT] at e0
      rw [hvX, hnp] at e1 htk
      have hon := onePosting_bg N p (addL L2 12 ((ks.take k).map vf)) T aX np cX wr (by rw [addL_at, List.length_append, List.length_map, List.length_take, HS.out.2.2.2.1]; have := HS.out.2.2.2.2; omega) (Nat.le_trans hN hk2.size) hb
      rw [addL_add, ← htk] at hon
      clear hrow hkl hxm htk hvX hT hnp
      have HK := hide hk2
      clear hb hk2 hbw
      go_wp2_with fail
      refine hon.mono ?_
      rintro e w3 ⟨rfl, hb3, hk3⟩
      have HH := hide (And.intro hb3 (HK.out.trans hk3 (fun _ _ h => h)))
      clear hon hb3 hk3
      go_wp2_with fail
      go_roundg q
      case measure => omega
      case rel => exact ⟨k + 1, by omega, by go_num, HH.out.1, HH.out.2⟩

set_option maxRecDepth 100000 in
set_option maxHeartbeats 2000000 in
theorem apartPosts_any (gg : Nat) (v0 v1 : Value) (z : Nat → Nat) (m : Nat) (ks : List Nat) (vf0 vf1 : Nat → Value) (B0 B1 : Nat) (w : World) (hb : w.heap[gg]? = some (.cells #[v0, v1] 27 (0, 0))) (hm : m ≤ 4000) (hkl : ks.length ≤ 4000) (hnd : ks.Nodup)
    (o0 : PostM w B0 z m ks v0 vf0) (o1 : PostM w B1 z m ks v1 vf1) (hlt : (∀ k, v0.ownBlock = some k → k < B1) ∧ ∀ x ∈ ks, ∀ k, (vf0 x).ownBlock = some k → k < B1) :
    Calls Tryz.prog 18 #[.slice (some ⟨gg, 0, none⟩) 2 2] w fun e w' => e = .returned (.bool true) ∧ Kept (fun k => v0.ownBlock = some k ∨ v1.ownBlock = some k ∨ ∃ x ∈ ks, (vf0 x).ownBlock = some k ∨ (vf1 x).ownBlock = some k) w w' := by
  obtain ⟨A0, C0, rfl⟩ := owns_slice o0.row
  obtain ⟨A1, C1, rfl⟩ := owns_slice o1.row
  obtain ⟨n, hn⟩ : ∃ n, ks.length = n := ⟨_, rfl⟩
  obtain ⟨W0, hW0⟩ : ∃ W0, w.alloc (.cells (bagOf (fun _ => .slice none 0 0)) 80) = W0 := ⟨_, rfl⟩
  have hBw : Below w.heap.size w W0 := by rw [← hW0]; exact below_alloc _ _
  have hs0 : W0.heap.size = w.heap.size + 1 := by rw [← hW0]; simp
  have hbg : BG W0 w.heap.size w.heap.size (fun _ => []) := by rw [← hW0]; exact BG.fresh w
  rw [hn] at hb hkl hlt
  have hc0 : w.cell? ⟨gg, 0, none⟩ = some (.slice A0 n C0) := cell_of_row _ _ 0 _ _ _ hb
  have hc1 : w.cell? ⟨gg, 1, none⟩ = some (.slice A1 n C1) := cell_of_row _ _ 1 _ _ _ hb
  have q0 := owns_lower o0.row (Nat.zero_le _)
  have q1 := owns_lower o1.row (Nat.zero_le _)
  rw [hn] at q0 q1
  have hP0 := o0
  have hP1 := o1
  rw [hn] at hP0 hP1
  obtain ⟨E1, hE1⟩ : ∃ E1, addL (addL (fun _ => []) 13 [.slice A0 n C0]) 12 ((ks.take n).map vf0) = E1 := ⟨_, rfl⟩
  obtain ⟨E2, hE2⟩ : ∃ E2, addL (addL E1 13 [.slice A1 n C1]) 12 ((ks.take n).map vf1) = E2 := ⟨_, rfl⟩
  have htk : ks.take n = ks := List.take_of_length_le (by omega)
  have f13 : E1 13 = [.slice A0 n C0] := by rw [← hE1]; simp [addL]
  have f12 : E1 12 = ks.map vf0 := by rw [← hE1, htk]; simp [addL]
  have e13 : E2 13 = [.slice A0 n C0] ++ [.slice A1 n C1] := by rw [← hE2]; simp [addL, f13]
  have e12 : E2 12 = ks.map vf0 ++ ks.map vf1 := by rw [← hE2, htk]; simp [addL, f12]
  have eo : ∀ i, i < 21 → i ≠ 4 → i ≠ 12 → i ≠ 13 → E2 i = [] := fun i _ _ h12 h13 => by
    rw [← hE2, ← hE1]
    simp only [addL, if_neg h12, if_neg h13]
  have e4 : E2 4 = [] := by
    rw [← hE2, ← hE1]
    simp [addL]
  have hr12 := (o0.rows (by omega) hnd).two (o1.rows (by omega) hnd) (fun x hx y hy g hg hg' => by
    obtain ⟨x', hx', rfl⟩ := List.mem_map.1 hx
    obtain ⟨y', hy', rfl⟩ := List.mem_map.1 hy
    have := hlt.2 x' hx' g hg
    have := (owns_cells (o1.places y' hy') g hg').2.1
    omega)
  have hr13 := (RowsOf.one q0 (by omega)).two (RowsOf.one q1 (by omega)) (fun x hx y hy g hg hg' => by
    rw [List.mem_singleton.1 hx] at hg
    rw [List.mem_singleton.1 hy] at hg'
    have := hlt.1 g hg
    have := (owns_cells o1.row g (by rw [hn]; exact hg')).2.1
    omega)
  rw [← e12] at hr12
  rw [← e13] at hr13
  have hF : ∀ k, FKG E2 21 k → (Value.slice A0 n C0).ownBlock = some k ∨ (Value.slice A1 n C1).ownBlock = some k ∨ ∃ x ∈ ks, (vf0 x).ownBlock = some k ∨ (vf1 x).ownBlock = some k := fun k hk => by
    rcases hk with ⟨_, y, hy, hg⟩ | ⟨_, y, hy, hg⟩ | ⟨_, y, hy, hg⟩
    · rw [e4] at hy; cases hy
    · rw [e12] at hy
      rcases List.mem_append.1 hy with hy | hy
      · obtain ⟨x, hx, rfl⟩ := List.mem_map.1 hy
        exact .inr (.inr ⟨x, hx, .inl hg⟩)
      · obtain ⟨x, hx, rfl⟩ := List.mem_map.1 hy
        exact .inr (.inr ⟨x, hx, .inr hg⟩)
    · rw [e13] at hy
      rcases List.mem_append.1 hy with hy | hy
      · rw [List.mem_singleton.1 hy] at hg
        exact .inl hg
      · rw [List.mem_singleton.1 hy] at hg
        exact .inr (.inl hg)
  have g13 : (E2 13).length = 2 := by rw [e13]; rfl
  have g12 : (E2 12).length ≤ 8000 := by rw [e12]; simp; omega
  have g4 : (E2 4).length = 0 := by rw [e4]; rfl
  have j13 : (E1 13).length = 1 := by rw [f13]; rfl
  have j12 : (E1 12).length ≤ 4000 := by rw [f12, List.length_map]; omega
  have hr4 : RowsOf 9 1 w (E2 4) := by rw [e4]; exact RowsOf.nil _ _ _
  have HH := hide (And.intro hBw (And.intro hs0 (And.intro hbg (And.intro hc0 hc1))))
  have HO := hide (And.intro hP0 hP1)
  have HR := hide (And.intro hr4 (And.intro hr12 (And.intro hr13 (And.intro eo hF))))
  have HG := hide (And.intro g13 (And.intro g12 (And.intro g4 (And.intro j13 j12))))
  have HE := hide (And.intro hE1 hE2)
  have HN := hide hn
  rw [hn]
  clear hb o0 o1 hP0 hP1 hlt hBw hs0 hbg hc0 hc1 hE1 hE2 f13 f12 e13 e12 e4 eo hr4 hr12 hr13 q0 q1 hF g13 g12 g4 j13 j12 hnd htk hn
  go_enter Tryz.func18, Tryz.ntmps18
  go_wp2_with fail
  go_loopg [4] 2 (fun q s4 wr => ∃ k : Nat, k + q = 2 ∧ s4 = .int .i64 k ∧ Kept (fun k => w.heap.size ≤ k) w wr ∧ w.heap.size ≤ wr.heap.size ∧
    (k = 0 → BG wr w.heap.size w.heap.size (fun _ => [])) ∧ (k = 1 → BG wr w.heap.size w.heap.size E1) ∧ (k = 2 → BG wr w.heap.size w.heap.size E2))
  case atStart => exact ⟨0, by omega, rfl, hW0 ▸ Kept.of_below HH.out.1, hW0 ▸ HH.out.1.size, fun _ => hW0 ▸ HH.out.2.2.1, fun h => by omega, fun h => by omega⟩
  case round =>
    obtain ⟨k, hkq, rfl, hK, hsz, b0, b1, b2⟩ := hrel
    have hbw : Below w.heap.size w wr := hK.below (fun _ h => h) (Nat.le_refl _)
    cases gk with
    | zero =>
      obtain rfl : k = 2 := by omega
      obtain ⟨hr4, hr12, hr13, eo, hF⟩ := HR.out
      obtain ⟨g13, g12, g4, j13, j12⟩ := HG.out
      have hno : Kept (fun _ => False) w wr := Kept.of_below hbw
      have hap := apart_bg w.heap.size w.heap.size E2 wr (b2 rfl) eo (hr4.kept hno (fun _ _ h => h)) (by omega) (hr12.kept hno (fun _ _ h => h)) (by omega) (hr13.kept hno (fun _ _ h => h)) (by omega)
      have HF := hide (And.intro hbw hF)
      clear hr4 hr12 hr13 eo hF g13 g12 g4 j13 j12 hno hbw hK b0 b1 b2
      go_wp2_with fail
      refine hap.mono ?_
      rintro e w9 ⟨rfl, hk9⟩
      have H9 := hide ((Kept.of_below HF.out.1).trans (hk9.mono (fun k _ e => HF.out.2 k e)) (fun _ _ h => h))
      clear hap hk9
      go_wp2_with fail
      go_ret
      exact ⟨rfl, H9.out⟩
    | succ q =>
      obtain ⟨hP0, hP1⟩ := HO.out
      obtain ⟨hE1, hE2⟩ := HE.out
      obtain ⟨g13, g12, g4, j13, j12⟩ := HG.out
      rcases (show k = 0 ∨ k = 1 by omega) with rfl | rfl
      · have hc := cell_thru HH.out.2.2.2.1 hbw
        have hpm := put_Postings w.heap.size w.heap.size (fun _ => []) A0 n C0 B0 m z ks vf0 w wr hP0 HN.out hbw (Nat.le_refl _) (by simp) (by simp; omega) hsz (b0 rfl)
        rw [hE1] at hpm
        have HK := hide (And.intro hK hsz)
        clear hK hsz b0 b1 b2 hbw hP0 hP1 hE1 hE2 g13 g12 g4 j13 j12
        go_wp2_with fail
        refine hpm.mono ?_
        rintro e w3 ⟨rfl, hb3, hk3⟩
        have H3 := hide (And.intro hb3 (And.intro (HK.out.1.trans hk3 (fun _ _ h => h)) (Nat.le_trans HK.out.2 hk3.size)))
        clear hpm hb3 hk3
        go_wp2_with fail
        go_roundg q
        case measure => omega
        case rel => exact ⟨1, by omega, by go_num, H3.out.2.1, H3.out.2.2, fun h => by omega, fun _ => H3.out.1, fun h => by omega⟩
      · have hc := cell_thru HH.out.2.2.2.2 hbw
        have hpm := put_Postings w.heap.size w.heap.size E1 A1 n C1 B1 m z ks vf1 w wr hP1 HN.out hbw (Nat.le_refl _) (by omega) (by omega) hsz (b1 rfl)
        rw [hE2] at hpm
        have HK := hide (And.intro hK hsz)
        clear hK hsz b0 b1 b2 hbw hP0 hP1 hE1 hE2 g13 g12 g4 j13 j12
        go_wp2_with fail
        refine hpm.mono ?_
        rintro e w3 ⟨rfl, hb3, hk3⟩
        have H3 := hide (And.intro hb3 (And.intro (HK.out.1.trans hk3 (fun _ _ h => h)) (Nat.le_trans HK.out.2 hk3.size)))
        clear hpm hb3 hk3
        go_wp2_with fail
        go_roundg q
        case measure => omega
        case rel => exact ⟨2, by omega, by go_num, H3.out.2.1, H3.out.2.2, fun h => by omega, fun h => by omega, fun _ => H3.out.1⟩
set_option maxRecDepth 100000 in
set_option maxHeartbeats 2000000 in
theorem apartTexts3_any (gg : Nat) (v0 v1 v2 : Value) (n0 n1 n2 B0 B1 B2 : Nat) (xs0 xs1 xs2 : List Value) (w : World) (hb : w.heap[gg]? = some (.cells #[v0, v1, v2] 29 (0, 0))) (hn : n0 ≤ 4000 ∧ n1 ≤ 4000 ∧ n2 ≤ 4000)
    (o0 : w.ownsRow B0 9 1 v0 n0 xs0) (o1 : w.ownsRow B1 9 1 v1 n1 xs1) (o2 : w.ownsRow B2 9 1 v2 n2 xs2) (hlt : (∀ k, v0.ownBlock = some k → k < B1) ∧ (∀ k, v1.ownBlock = some k → k < B2) ∧ B1 ≤ B2) :
    Calls Tryz.prog 19 #[.slice (some ⟨gg, 0, none⟩) 3 3] w fun e w' => e = .returned (.bool true) ∧ Kept (fun k => v0.ownBlock = some k ∨ v1.ownBlock = some k ∨ v2.ownBlock = some k) w w' := by
  obtain ⟨A0, C0, rfl⟩ := owns_slice o0
  obtain ⟨A1, C1, rfl⟩ := owns_slice o1
  obtain ⟨A2, C2, rfl⟩ := owns_slice o2
  obtain ⟨vs, hvs⟩ : ∃ vs : List Value, vs = [.slice A0 n0 C0, .slice A1 n1 C1, .slice A2 n2 C2] := ⟨_, rfl⟩
  obtain ⟨W0, hW0⟩ : ∃ W0, w.alloc (.cells (bagOf (fun _ => .slice none 0 0)) 80) = W0 := ⟨_, rfl⟩
  have hBw : Below w.heap.size w W0 := by rw [← hW0]; exact below_alloc _ _
  have hbg : BG W0 w.heap.size w.heap.size (fun _ => []) := by rw [← hW0]; exact BG.fresh w
  have hcc : ∀ k, k < 3 → ∃ (A : Option Addr) (n C : Nat), w.cell? ⟨gg, k, none⟩ = some (.slice A n C) ∧ vs.take (k + 1) = vs.take k ++ [.slice A n C] := fun k hk => by
    rw [hvs]
    match k, hk with
    | 0, _ => exact ⟨A0, n0, C0, cell_of_row _ _ 0 _ _ _ hb, rfl⟩
    | 1, _ => exact ⟨A1, n1, C1, cell_of_row _ _ 1 _ _ _ hb, rfl⟩
    | 2, _ => exact ⟨A2, n2, C2, cell_of_row _ _ 2 _ _ _ hb, rfl⟩
  obtain ⟨E, hE⟩ : ∃ E, addL (fun _ => []) 4 (vs.take 3) = E := ⟨_, rfl⟩
  have e4 : E 4 = vs := by rw [← hE, hvs]; simp [addL]
  have eo : ∀ i, i < 21 → i ≠ 4 → E i = [] := fun i _ h4 => by rw [← hE]; simp only [addL, if_neg h4]
  have hr4 : RowsOf 9 1 w (E 4) := by
    have h01 := (RowsOf.one (owns_lower o0 (Nat.zero_le _)) (by omega)).two (RowsOf.one (owns_lower o1 (Nat.zero_le _)) (by omega)) (fun x hx y hy g hg hg' => by
      rw [List.mem_singleton.1 hx] at hg
      rw [List.mem_singleton.1 hy] at hg'
      have := hlt.1 g hg
      have := (owns_cells o1 g hg').2.1
      omega)
    have h2 := h01.two (RowsOf.one (owns_lower o2 (Nat.zero_le _)) (by omega)) (fun x hx y hy g hg hg' => by
      rw [List.mem_singleton.1 hy] at hg'
      have h5 := (owns_cells o2 g hg').2.1
      rcases List.mem_append.1 hx with hx | hx
      · rw [List.mem_singleton.1 hx] at hg
        have := hlt.1 g hg
        omega
      · rw [List.mem_singleton.1 hx] at hg
        have := hlt.2.1 g hg
        omega)
    rw [e4, hvs]
    exact h2
  have hF : ∀ k, FKG E 21 k → (Value.slice A0 n0 C0).ownBlock = some k ∨ (Value.slice A1 n1 C1).ownBlock = some k ∨ (Value.slice A2 n2 C2).ownBlock = some k := fun k hk => by
    rcases hk with ⟨_, y, hy, hg⟩ | ⟨_, y, hy, hg⟩ | ⟨_, y, hy, hg⟩
    · rw [e4, hvs] at hy
      simp only [List.mem_cons, List.not_mem_nil, or_false] at hy
      rcases hy with rfl | rfl | rfl
      · exact .inl hg
      · exact .inr (.inl hg)
      · exact .inr (.inr hg)
    · rw [eo 12 (by omega) (by omega)] at hy; cases hy
    · rw [eo 13 (by omega) (by omega)] at hy; cases hy
  have g4 : (E 4).length = 3 := by rw [e4, hvs]; rfl
  have hvl : vs.length = 3 := by rw [hvs]; rfl
  have r12 : RowsOf 44 2 w (E 12) := by rw [eo 12 (by omega) (by omega)]; exact RowsOf.nil _ _ _
  have r13 : RowsOf 42 2 w (E 13) := by rw [eo 13 (by omega) (by omega)]; exact RowsOf.nil _ _ _
  have g12 : (E 12).length = 0 := by rw [eo 12 (by omega) (by omega)]; rfl
  have g13 : (E 13).length = 0 := by rw [eo 13 (by omega) (by omega)]; rfl
  have HH := hide (And.intro hBw (And.intro hbg hcc))
  have HR := hide (And.intro hr4 (And.intro r12 (And.intro r13 (And.intro eo hF))))
  have HG := hide (And.intro g4 (And.intro g12 (And.intro g13 hvl)))
  have HE := hide hE
  clear hb o0 o1 o2 hlt hBw hbg hcc hE e4 eo hr4 r12 r13 hF g4 g12 g13 hvs hvl
  go_enter Tryz.func19, Tryz.ntmps19
  go_wp2_with fail
  go_loopg [4] 3 (fun q s4 wr => ∃ k : Nat, k + q = 3 ∧ s4 = .int .i64 k ∧ Kept (fun k => w.heap.size ≤ k) w wr ∧ w.heap.size ≤ wr.heap.size ∧ BG wr w.heap.size w.heap.size (addL (fun _ => []) 4 (vs.take k)))
  case atStart => exact ⟨0, by omega, rfl, hW0 ▸ Kept.of_below HH.out.1, hW0 ▸ HH.out.1.size, by rw [List.take_zero, addL_nil]; exact hW0 ▸ HH.out.2.1⟩
  case round =>
    obtain ⟨k, hkq, rfl, hK, hsz, b0⟩ := hrel
    have hbw : Below w.heap.size w wr := hK.below (fun _ h => h) (Nat.le_refl _)
    cases gk with
    | zero =>
      obtain rfl : k = 3 := by omega
      obtain ⟨hr4, hr12, hr13, eo, hF⟩ := HR.out
      obtain ⟨g4, g12, g13, hvl⟩ := HG.out
      rw [HE.out] at b0
      have hno : Kept (fun _ => False) w wr := Kept.of_below hbw
      have hap := apart_bg w.heap.size w.heap.size E wr b0 (fun i hi h4 _ _ => eo i hi h4) (hr4.kept hno (fun _ _ h => h)) (by omega) (hr12.kept hno (fun _ _ h => h)) (by omega) (hr13.kept hno (fun _ _ h => h)) (by omega)
      have HF := hide (And.intro hbw hF)
      clear hr4 hr12 hr13 eo hF g13 g12 g4 hno hbw hK b0 hvl
      go_wp2_with fail
      refine hap.mono ?_
      rintro e w9 ⟨rfl, hk9⟩
      have H9 := hide ((Kept.of_below HF.out.1).trans (hk9.mono (fun k _ e => HF.out.2 k e)) (fun _ _ h => h))
      clear hap hk9
      go_wp2_with fail
      go_ret
      exact ⟨rfl, H9.out⟩
    | succ q =>
      have hk3 : k < 3 := by omega
      have hkz : (k : Int) < 3 := by omega
      have hk0 : (0 : Int) ≤ (k : Int) := by omega
      obtain ⟨A, n, C, hc, htk⟩ := HH.out.2.2 k hk3
      have hc := cell_thru hc hbw
      have hpm := put_Texts w.heap.size w.heap.size (addL (fun _ => []) 4 (vs.take k)) A n C wr (by rw [addL_at, List.nil_append, List.length_take]; omega) hsz b0
      rw [addL_add, ← htk] at hpm
      have HK := hide (And.intro hK hsz)
      clear hK hsz b0 hbw htk
      go_wp2_with fail
      refine hpm.mono ?_
      rintro e w3 ⟨rfl, hb3, hk3'⟩
      have H3 := hide (And.intro hb3 (And.intro (HK.out.1.trans hk3' (fun _ _ h => h)) (Nat.le_trans HK.out.2 hk3'.size)))
      clear hpm hb3 hk3'
      go_wp2_with fail
      go_roundg q
      case measure => omega
      case rel => exact ⟨k + 1, by omega, by go_num, H3.out.2.1, H3.out.2.2, H3.out.1⟩
end Go.Proofs.YtpdlapnliiengaaGreat
