/-
  frame.Put: the file of parts.
-/
import Derived.Test.YtlmjplpledilhaaFPutR
namespace Go.Proofs.Ytlmjplpledilhaa
open Go.RowKit Go.Shelf

attribute [local go_sem] Oper.semAt_some

theorem pts_ok {w : World} {a : Option Addr} {n k : Nat} {P : Nat → Prt} (hP : Prts w a n P) (hs : sizeB (pts P n) ≤ 1000000) (hk : k ≤ n) : ∀ p ∈ pts P k, okPart p := by
  intro p hp
  simp only [pts, List.mem_map, List.mem_range] at hp
  obtain ⟨i, hi, rfl⟩ := hp
  obtain ⟨_, _, _, _, hok⟩ := hP.cells i (by omega)
  have := bodyB_one P (show i < n by omega)
  unfold sizeB at hs
  exact ⟨hok.T, hok.bB.lt, by show (P i).B.length ≤ maxNum; unfold maxNum; omega⟩

/-- What stands ahead of the first parts' bytes, and these. -/
def ahd (sz : Nat) (P : Nat → Prt) (k : Nat) : List Nat := fixB sz ++ bodyB (pts P k)
theorem ahd_len (sz : Nat) (P : Nat → Prt) (k : Nat) : (ahd sz P k).length = 4 + (bodyB (pts P k)).length := by simp [ahd, fixB_len]
theorem ahd_succ (sz : Nat) (P : Nat → Prt) (k : Nat) : ahd sz P (k + 1) = ahd sz P k ++ headP (P k).T (P k).B.length ++ (P k).B := by
  unfold ahd
  rw [pts_succ, bodyB_snoc]
  simp [partB, pt]
def FI (w : World) (bx sz : Nat) (P : Nat → Prt) (pre : List LV) (W : World) : Prop :=
  ∃ A C, W.heap[bx]? = some (.cells #[.slice A (ahd sz P pre.length).length C] 24 (0, 0)) ∧ W.ownsRow w.heap.size 5 1 (.slice A (ahd sz P pre.length).length C) (ahd sz P pre.length).length (lc (ahd sz P pre.length)) ∧ Below w.heap.size w W
def FM (w : World) (bx sz n : Nat) (P : Nat → Prt) (pre : List LV) (x : LV) (W : World) : Prop :=
  pre.length < n ∧ ∃ A C M, W.heap[bx]? = some (.cells #[.slice A (ahd sz P pre.length).length C] 24 (0, 0)) ∧ W.ownsRow w.heap.size 5 1 (.slice A (ahd sz P pre.length).length C) (ahd sz P pre.length).length (lc (ahd sz P pre.length)) ∧ Below w.heap.size w W ∧
    (∀ g, (Value.slice A (ahd sz P pre.length).length C).ownBlock = some g → g < M) ∧ W.ownsRow M 5 1 x.1 (headP (P pre.length).T (P pre.length).B.length).length (lc (headP (P pre.length).T (P pre.length).B.length)) ∧
    x.2 = .slice (P pre.length).pB (P pre.length).B.length (P pre.length).cB
def FE (w : World) (bx sz n : Nat) (P : Nat → Prt) (xs : List LV) (W : World) : Prop := xs.length = n ∧ FI w bx sz P xs W
theorem FI.own {w : World} {bx sz B : Nat} {P : Nat → Prt} (hB : w.heap.size ≤ B) : OwnFrom B (FI w bx sz P) := by
  rintro pre X Y row ⟨A, C, h1, h2, h3⟩ hg hr
  have ck := CellsKept.of_grown hg (fun r e => (hr r e).2)
  exact ⟨A, C, ck _ _ _ _ h1, ck.own h2, h3.grown hg h3.size (fun r e => by have := (hr r e).1; omega)⟩
theorem FM.own {w : World} {bx sz n B : Nat} {P : Nat → Prt} {x : LV} (hB : w.heap.size ≤ B) : OwnFrom B (fun pre => FM w bx sz n P pre x) := by
  rintro pre X Y row ⟨h0, A, C, M, h1, h2, h3, h4, h5, h6⟩ hg hr
  have ck := CellsKept.of_grown hg (fun r e => (hr r e).2)
  exact ⟨h0, A, C, M, ck _ _ _ _ h1, ck.own h2, h3.grown hg h3.size (fun r e => by have := (hr r e).1; omega), h4, ck.own h5, h6⟩
theorem FI.below {w A B : World} {bx sz : Nat} {P : Nat → Prt} {pre : List LV} (h : FI w bx sz P pre A) (hb : Below A.heap.size A B) : FI w bx sz P pre B := by
  obtain ⟨a, c, h1, h2, h3⟩ := h
  exact ⟨a, c, (hb.block _ (block_lt h1)).trans h1, owns_thru h2 hb, h3.trans (hb.mono h3.size)⟩
theorem FI.mid {w A B : World} {bx sz n : Nat} {P : Nat → Prt} {pre : List LV} {x : LV} (h : FI w bx sz P pre A) (hg : GLaid n P pre A x B) : FM w bx sz n P pre x B := by
  obtain ⟨a, c, h1, h2, h3⟩ := h
  obtain ⟨g1, g2, g3, g4, g5⟩ := hg
  exact ⟨g1, a, c, A.heap.size, (g2.block _ (block_lt h1)).trans h1, owns_thru h2 g2, h3.trans (g2.mono h3.size), fun g hv => (owns_cells h2 g hv).1, g3, g4⟩

set_option maxRecDepth 100000 in
set_option maxHeartbeats 4000000 in
theorem fput_in (N : Nat) (hN : 10 ≤ N) (a : Option Addr) (n cap : Nat) (P : Nat → Prt) (w : World) (hP : Prts w a n P) (hn : n ≤ 140737488355328) (hs : sizeB (pts P n) ≤ 1000000) :
    CallsIn Fence.wide N Try.prog 7 #[.slice a n cap] w fun e w' => ∃ v, e = .returned (.tuple #[v, .int .i64 0]) ∧ w'.ownsRow w.heap.size 5 1 v (sizeB (pts P n)) (lc (fileB (pts P n))) ∧ Below w.heap.size w w' := by
  have hsz := sizeOf_in (N - 1) (by omega) a n cap P w hP hn hs
  have hLs : ∀ i, i < n → (P i).B.length ≤ 1000000 := fun i hi => by have := bodyB_one P hi; unfold sizeB at hs; omega
  have hok := fun k => pts_ok (k := k) hP hs
  obtain ⟨sz, hzz⟩ : ∃ sz, sizeB (pts P n) = sz := ⟨_, rfl⟩
  have hszb : (bodyB (pts P n)).length + 8 = sz := hzz
  rw [hzz] at hsz hs ⊢
  refine callsIn_of_wp_marks Try.func7 rfl trivial ?_ rfl
  simp only [Try.ntmps7, List.size_toArray, List.length_cons, List.length_nil, Nat.reduceAdd, Nat.reduceSub, Array.replicate_succ, Array.replicate_zero, List.push_toArray, List.append_toArray, List.nil_append, List.cons_append]
  have HP := hide hP
  have HOK := hide hok
  have HLS := hide hLs
  have HZ := hide (And.intro hzz hszb)
  clear hP hok hLs hzz hszb
  gi_wp2
  refine ⟨trivial, fun _ => by omega, hsz.mono ?_⟩
  rintro e w1 ⟨rfl, hB1⟩
  have hz0 : (0 : Int) ≤ (sz : Int) := by omega
  have hz1 : (sz : Int) ≤ 1000000 := by omega
  clear hsz
  gi_wp2
  refine wpIn_wide.2 (putA sz w1.heap.size _ _ _ _ rfl rfl (by omega) rfl ?_)
  intro vs w2 bx TA TC hK2 h17 hown h5 hbx hbc
  simp only [List.foldl_cons, List.foldl_nil, List.setIfInBounds_toArray, List.set_cons_succ, List.set_cons_zero]
  rw [h17, h5]
  generalize vs 12 = y12
  generalize vs 13 = y13
  generalize vs 14 = y14
  generalize vs 15 = y15
  generalize vs 16 = y16
  clear h17 h5
  obtain ⟨W2, hW2⟩ : ∃ W2, w2.setCell ⟨bx, 0, none⟩ (.slice TA 4 TC) = W2 := ⟨_, rfl⟩
  have hK2' : Kept (fun k => k = bx) w2 W2 := by rw [← hW2]; exact (Kept.refl (fun k => k = bx) w2).setCell (.inl rfl) _
  have hb2 : W2.heap[bx]? = some (.cells #[.slice TA 4 TC] 24 (0, 0)) := by rw [← hW2]; exact heap_setCell_same w2 bx 0 _ _ _ hbc
  have ho2 : W2.ownsRow w1.heap.size 5 1 (.slice TA 4 TC) 4 (lc (fixB sz)) := owns_kept hown hK2' (fun g hg e => by subst e; exact owns_tyne hown hbc (by decide) hg)
  have hBw : Below w.heap.size w W2 := ((Kept.of_below (F := fun k => w.heap.size ≤ k) hB1).trans (hK2.trans hK2' (fun k hk e => by omega)) (fun k hk h => h.elim)).below (fun _ h => h) (Nat.le_refl _)
  have hI0 : FI w bx sz P [] W2 := ⟨TA, TC, by simpa [ahd, pts, bodyB, fixB_len] using hb2, owns_lower (by simpa [ahd, pts, bodyB, fixB_len] using ho2) hB1.size, hBw⟩
  have hbxw : w.heap.size ≤ bx := Nat.le_trans hB1.size hbx
  have HI0 := hide hI0
  have HBW := hide hBw
  rw [hW2]
  clear hI0 hb2 ho2 hK2' hK2 hown hbc hW2
  gi_wp2
  refine ⟨trivial, fun _ => by omega, (laid_in Fence.wide (N - 1) trivial rfl a n cap W2).mono ?_⟩
  rintro e w3 ⟨rfl, rfl⟩
  obtain ⟨W3, hW3⟩ : ∃ W3, W2.alloc (.cells #[.slice a n cap] 22) = W3 := ⟨_, rfl⟩
  rw [hW3]
  have hB3 : Below W2.heap.size W2 W3 := by rw [← hW3]; exact below_alloc _ _
  have hs3 : W3.heap.size = W2.heap.size + 1 := by rw [← hW3]; simp
  have hbs : W3.cell? ⟨W2.heap.size, 0, none⟩ = some (.slice a n cap) := by rw [← hW3]; exact (cell_new_l W2 _ _).1
  have hBw3 : Below w.heap.size w W3 := HBW.out.trans (hB3.mono HBW.out.size)
  have hI3 := HI0.out.below hB3
  have hstop := laid_stops (N - 1) (by omega) W2.heap.size n cap a P w W3 HP.out HLS.out hn hBw3 hbs
  have HS3 := hide hs3
  clear hbs hs3 hW3
  gi_wp2
  refine wpIn_rangeFunc_G rfl (by omega) (gf := 25) (lb := #[.pointer (some ⟨W2.heap.size, 0, none⟩)]) rfl trivial (enters_of Try.func25 (by kernel_rfl) rfl)
    hstop (fun _ _ _ _ h => (Kept.of_below (F := fun _ => False) h.2.1).keepsOthers) (fun _ _ _ h => (Kept.of_below (F := fun _ => False) h.2).keepsOthers) (fun _ _ _ h => (Kept.of_below (F := fun _ => False) h).keepsOthers) belowK_t (fun W l o o' h1 h2 h3 => (Below.refl w.heap.size W).grown (grownBy_putObj' W l o') (by have := (Array.getElem?_eq_some_iff.1 h2).1; have := hBw3.size; omega) (fun k e => by cases e; have := hBw3.size; omega)) (Below.refl _ _) (fun _ => rfl)
    (FI w bx sz P) (fun _ _ _ => False) (FM w bx sz n P) (FE w bx sz n P) (fun _ _ _ => False) (FI.own hBw3.size) (fun _ _ _ _ _ h _ _ => h) ?eo (fun _ _ _ _ _ h _ _ => h)
    (fun _ _ _ _ h1 h2 => h1.mid h2) (fun _ _ _ h1 h2 => ⟨h2.1, h1.below h2.2⟩) (fun _ _ _ _ h _ => h) hI3
    (fun pre x a' W => a' = { tmps := #[.slice a n cap, undef, .slice none 0 0, .int .i64 0, .int .i64 sz, .pointer (some ⟨bx, 0, none⟩), x.1, x.2, .slice a n cap, .int .i64 sz, .int .i64 sz, .bool (decide (67108864 < (sz : Int))), y12, y13, y14, y15, y16, .slice TA 4 TC, .slice a n cap, .func (.func 25) #[] #[.pointer (some ⟨W2.heap.size, 0, none⟩)], x.1, x.2, undef, undef, undef, undef, undef, undef, undef, undef, undef, undef, undef], defers := [] } ∧
      FM w bx sz n P pre x W) ?m2 ?assign ?body ?done (fun _ _ _ _ _ h _ => h.elim)
  case eo =>
    rintro xs X Y row ⟨h1, h2⟩ hg hr
    exact ⟨h1, FI.own hBw3.size xs X Y row h2 hg hr⟩
  case m2 =>
    rintro x a' pre X Y row ⟨h1, h2⟩ hg hr
    exact ⟨h1, FM.own (x := x) hBw3.size pre X Y row h2 hg hr⟩
  case assign =>
    intro l pre x W K hM hK
    have HK := hide (hK _ W (KeepsOthers.refl _) (Below.refl _ _) ⟨rfl, hM⟩)
    obtain ⟨x1, x2⟩ := x
    obtain ⟨_, A1, C1, M, _, _, _, _, h5, h6⟩ := hM
    obtain ⟨A2, C2, e2⟩ := owns_slice h5
    clear hK hstop h5 hI3
    simp only at e2 h6
    subst e2 h6
    simp only [encL]
    gi_wp2
    exact HK.out
  case body =>
    rintro l pre ⟨x1, x2⟩ a' W ⟨rfl, hkn, FA, FC, M, h1, h2, h3, h4, h5, h6⟩
    obtain ⟨HA, HC, hx1⟩ := owns_slice h5
    simp only at hx1 h5 h6
    subst hx1 h6
    obtain ⟨i0, hi, hq0, hq1, hq2⟩ := info_parts info_u8
    obtain ⟨d0, df0⟩ := cells1 h1
    have hw1 := Nat.le_trans HBW.out.size (Nat.le_refl _)
    obtain ⟨_, _, _, _, hpk⟩ := HP.out.cells pre.length hkn
    have hpW := hpk.kept (Kept.of_below (F := fun k => w.heap.size ≤ k) ⟨h3.os, h3.tape, h3.output, h3.size, h3.block⟩) (fun k hk h => by omega)
    have hsc := ahd_succ sz P pre.length
    have hlen := ahd_len sz P pre.length
    have hlen1 := ahd_len sz P (pre.length + 1)
    have hmono := bodyB_mono P (show pre.length + 1 ≤ n by omega)
    have hh6 : (ahd sz P (pre.length + 1)).length ≤ 1000000 := by rw [hlen1]; have := HZ.out.2; omega
    have hsl : (ahd sz P (pre.length + 1)).length = (ahd sz P pre.length).length + (headP (P pre.length).T (P pre.length).B.length).length + (P pre.length).B.length := by rw [hsc]; simp only [List.length_append]
    have hnk1 : HA = none → (headP (P pre.length).T (P pre.length).B.length).length = 0 ∧ HC = 0 := fun e => by subst e; exact owns_none h5
    have hnk2 : (P pre.length).pB = none → (P pre.length).B.length = 0 ∧ (P pre.length).cB = 0 := fun e => by have := hpk.nB e; have := hpk.lB; omega
    have hnews1 := owns_news h5 rfl
    have hone1 := lc_one (headP (P pre.length).T (P pre.length).B.length)
    have hone2 := lc_one (P pre.length).B
    have hll1 := lc_length (headP (P pre.length).T (P pre.length).B.length)
    have hll2 := lc_length (P pre.length).B
    have HD := hide (And.intro h1 (And.intro h2 (And.intro h3 (And.intro h4 (And.intro h5 hpW)))))
    have HSC := hide hsc
    have hat := hpk.atB
    have HSL := hide (And.intro hsl (And.intro hlen hlen1))
    have hsum : (ahd sz P pre.length).length + (headP (P pre.length).T (P pre.length).B.length).length + (P pre.length).B.length ≤ 1000000 := by omega
    have hsum0 : (ahd sz P pre.length).length + (headP (P pre.length).T (P pre.length).B.length).length ≤ 1000000 := by omega
    have hbase : w.heap.size ≤ W.heap.size := h3.size
    clear h1 h4 h5 hpW hsc hlen hlen1 hmono hh6 hsl hstop hI3
    gi_wp2_with (gi_at_builtin; first
      | (refine listIn_append _ rfl (.tmp 22) (.tmp 23) 24 rfl 5 i0 (.int .u8 0) 1 Try.underlying24 hi hq0 hq1 hq2 rfl w.heap.size (.slice FA (ahd sz P pre.length).length FC) (ahd sz P pre.length).length (lc (ahd sz P pre.length)) rfl h2 HA (headP (P pre.length).T (P pre.length).B.length).length HC (lc (headP (P pre.length).T (P pre.length).B.length)) rfl hll1 hnk1 hnews1 hone1 (by unfold maxLen; omega) (by omega) hbase ?_; intro A1 C1 wa hown1 hg1
         have hnews2 := (HD.out.2.2.2.2.2.bB.kept0 (hg1.kept (F := fun k => w.heap.size ≤ k) (fun g hg => (owns_cells h2 g hg).2.1)) (fun g o s e h0 hw => by have := hat g o s e h0; omega)).news
         have hbase1 : w.heap.size ≤ wa.heap.size := Nat.le_trans hbase (hg1.kept (F := fun k => w.heap.size ≤ k) (fun g hg => (owns_cells h2 g hg).2.1)).size)
      | (refine listIn_append _ rfl (.tmp 24) (.tmp 25) 24 rfl 5 i0 (.int .u8 0) 1 Try.underlying24 hi hq0 hq1 hq2 rfl w.heap.size (.slice A1 ((ahd sz P pre.length).length + (headP (P pre.length).T (P pre.length).B.length).length) C1) ((ahd sz P pre.length).length + (headP (P pre.length).T (P pre.length).B.length).length) (lc (ahd sz P pre.length) ++ lc (headP (P pre.length).T (P pre.length).B.length)) rfl hown1 (P pre.length).pB (P pre.length).B.length (P pre.length).cB (lc (P pre.length).B) rfl hll2 hnk2 hnews2 hone2 (by unfold maxLen; omega) (by omega) hbase1 ?_; intro A2 C2 wb hown2 hg2
         have e0 := (hg2.kept (F := fun k => k ≠ bx) (fun g hgb e => by subst e; exact owns_tyne hown1 ((hg1.kept (F := fun k => k ≠ g) (fun g' hgb' e' => by subst e'; exact owns_tyne h2 HD.out.1 (by decide) hgb')).heap HD.out.1 (fun h => h rfl)) (by decide) hgb)).heap ((hg1.kept (F := fun k => k ≠ bx) (fun g hgb e => by subst e; exact owns_tyne h2 HD.out.1 (by decide) hgb)).heap HD.out.1 (fun h => h rfl)) (fun h => h rfl)
         obtain ⟨c0, cf0⟩ := cells1 e0))
    have hKa : Kept (fun k => w.heap.size ≤ k) W wb := (hg1.kept (F := fun k => w.heap.size ≤ k) (fun g hg => (owns_cells h2 g hg).2.1)).trans (hg2.kept (F := fun k => w.heap.size ≤ k) (fun g hg => (owns_cells hown1 g hg).2.1)) (fun _ _ h => h)
    have hKb : Kept (fun k => w.heap.size ≤ k) W (wb.setCell ⟨bx, 0, none⟩ (.slice A2 ((ahd sz P pre.length).length + (headP (P pre.length).T (P pre.length).B.length).length + (P pre.length).B.length) C2)) := hKa.setCell (.inl hbxw) _
    have hKc : Kept (fun k => k = bx) wb (wb.setCell ⟨bx, 0, none⟩ (.slice A2 ((ahd sz P pre.length).length + (headP (P pre.length).T (P pre.length).B.length).length + (P pre.length).B.length) C2)) := (Kept.refl (fun k => k = bx) wb).setCell (.inl rfl) _
    have hbel : Below w.heap.size W (wb.setCell ⟨bx, 0, none⟩ (.slice A2 ((ahd sz P pre.length).length + (headP (P pre.length).T (P pre.length).B.length).length + (P pre.length).B.length) C2)) := hKb.below (fun _ h => h) hbase
    refine ⟨hKb.keepsOthers, hbel, ⟨A2, C2, ?_, ?_, h3.trans hbel⟩⟩
    · rw [List.length_append, List.length_cons, List.length_nil, HSL.out.1]
      exact heap_setCell_same _ bx 0 _ _ _ e0
    · rw [List.length_append, List.length_cons, List.length_nil, HSL.out.1, HSC.out, lc_append, lc_append]
      exact owns_kept hown2 hKc (fun g hgb e => by subst e; exact owns_tyne hown2 e0 (by decide) hgb)
  case done =>
    rintro D xs X hD ⟨hl, FA, FC, h1, h2, h3⟩ hKD
    have hM : Marks w.heap.size [{ target := .collected D, args := #[] }] X := ⟨⟨D, rfl, by have := hBw3.size; omega, hKD, fun _ h => by cases h⟩, trivial⟩
    rw [hl] at h1 h2
    have hlt : ∀ b ∈ ahd sz P n, b < 256 := by
      intro b hb
      rcases List.mem_append.1 hb with hb | hb
      · simp only [fixB, List.mem_cons, List.not_mem_nil, or_false] at hb; omega
      · exact bodyB_lt (HOK.out n (Nat.le_refl _)) b hb
    have hll : (ahd sz P n).length + 4 = sz := by rw [ahd_len]; have := HZ.out.2; omega
    have hfile : ahd sz P n ++ fixB (crcL (ahd sz P n)) = fileB (pts P n) := by
      have : ahd sz P n = aheadB (pts P n) := by unfold ahd aheadB; rw [HZ.out.1]
      unfold fileB
      rw [this]
    have hend : ∀ (tmps : Array Value) (X' : World) TA' TC', Kept (fun k => (Value.slice FA (ahd sz P n).length FC).ownBlock = some k) X X' → tmps.getD 2 undef = .slice TA' ((ahd sz P n).length + 4) TC' → X'.ownsRow w.heap.size 5 1 (.slice TA' ((ahd sz P n).length + 4) TC') ((ahd sz P n).length + 4) (lc (ahd sz P n) ++ lc (fixB (crcL (ahd sz P n)))) → tmps.getD 3 undef = .int .i64 0 →
        LeavesInM Fence.wide N Try.prog Try.f7 tmps (fun e w' => ∃ v, e = .returned (.tuple #[v, .int .i64 0]) ∧ w'.ownsRow w.heap.size 5 1 v sz (lc (fileB (pts P n))) ∧ Below w.heap.size w w') [{ target := .collected D, args := #[] }] .returning X' := by
      intro tmps X' TA' TC' hkx e2 ho e3
      refine leaves_marks _ _ (hM.others hkx.keepsOthers) (fun w' ht => ⟨_, results_tmp2 rfl _ _ _, .slice TA' sz TC', ?_, ?_, ?_⟩)
      · rw [e2, e3, hll]
      · rw [← lc_append, hfile, hll] at ho
        exact ht.cells.own ho
      · exact (((Kept.of_below (F := fun k => w.heap.size ≤ k) ⟨h3.os, h3.tape, h3.output, h3.size, h3.block⟩).trans hkx (fun k hk h => (owns_cells h2 k h).2.1)).turned ht).below (fun _ h => h) (Nat.le_refl _)
    clear hstop hI3
    gi_wp2
    refine wpIn_wide.2 (putZ (ahd sz P n).length FC X.heap.size w.heap.size FA (ahd sz P n) bx _ _ _ _ rfl rfl h1 rfl (by omega) hlt h2 h3.size rfl ?_)
    intro vs w9 TA' TC' hk9 hv2 ho9 hv3
    simp only [List.foldl_cons, List.foldl_nil, List.setIfInBounds_toArray, List.set_cons_succ, List.set_cons_zero]
    rw [hv2, hv3]
    generalize vs 27 = y27
    generalize vs 28 = y28
    generalize vs 29 = y29
    generalize vs 30 = y30
    generalize vs 31 = y31
    generalize vs 32 = y32
    have HE := hide (hend · w9 TA' TC' hk9 · ho9 ·)
    clear hend hk9 ho9 hv2 hv3 h1 h2 h3 hM
    gi_wp2
    exact HE.out _ rfl rfl
theorem fput_any (a : Option Addr) (n cap : Nat) (P : Nat → Prt) (w : World) (hP : Prts w a n P) (hn : n ≤ 140737488355328) (hs : sizeB (pts P n) ≤ 1000000) :
    Calls Try.prog 7 #[.slice a n cap] w fun e w' => ∃ v, e = .returned (.tuple #[v, .int .i64 0]) ∧ w'.ownsRow w.heap.size 5 1 v (sizeB (pts P n)) (lc (fileB (pts P n))) ∧ Below w.heap.size w w' :=
  callsIn_wide.1 (fput_in 10 (by omega) a n cap P w hP hn hs)
end Go.Proofs.Ytlmjplpledilhaa
