/-
  The range-function over parts as they are laid: what stands ahead of each one's bytes, and these.
-/
import Derived.Test.YtppdbinppibjhaaGreatDoorFLaidR
import Derived.Test.YtppdbinppibjhaaGreatDoorFGet
import Derived.Test.YtppdbinppibjhaaGreatDoorPrt
set_option maxHeartbeats 4000000
set_option maxRecDepth 100000
set_option linter.unusedVariables false
set_option linter.unusedSimpArgs false
namespace Go.Proofs.YtppdbinppibjhaaGreatDoor
open Go.RowKit Go.Shelf
attribute [local go_sem] Oper.semAt_some
theorem encN_pos (n : Nat) : 0 < (encN n).length := by
 by_cases h : n < 128
 ·rw [encN_lo h]; simp
 ·rw [encN_hi (by omega)]; simp
abbrev LV := Value × Value
def encL (x : LV) : Array Value := #[x.1, x.2]
def pt (P : Prt) : PT := (P.T, P.B)
def GLaid (n : Nat) (P : Nat → Prt) (pre : List LV) (A : World) (x : LV) (B : World) : Prop :=
 pre.length < n ∧ Below A.heap.size A B ∧ B.ownsRow A.heap.size 5 1 x.1 (headP (P pre.length).T (P pre.length).B.length).length (lc (headP (P pre.length).T (P pre.length).B.length)) ∧
  x.2 = .slice (P pre.length).pB (P pre.length).B.length (P pre.length).cB ∧ (P pre.length).Ok B
def SLaid (n : Nat) (xs : List LV) (A B : World) : Prop := xs.length = n ∧ Below A.heap.size A B
def SpLaid (_ : List LV) (A B : World) : Prop := Below A.heap.size A B
theorem laid_in (F : Fence) (n : Nat) (hF : F.fn 70) (hro : F.round = none) (a : Option Addr) (k c : Nat) (w : World) :
  CallsIn F n Tryz.prog 70 #[.slice a k c] w fun e w' => e = .returned (.func (.func 123) #[] #[.pointer (some ⟨w.heap.size, 0, none⟩)]) ∧ w' = w.alloc (.cells #[.slice a k c] 41) := by
 refine callsIn_of_wp Tryz.func70 rfl hF ?_ hro
 simp only [Tryz.ntmps70, List.size_toArray, List.length_cons, List.length_nil, Nat.reduceAdd, Nat.reduceSub, Array.replicate_succ, Array.replicate_zero, List.push_toArray, List.append_toArray, List.nil_append, List.cons_append]
 gi_wp2
 go_ret
 exact ⟨rfl, rfl⟩
theorem laid1_in (N : Nat) (hN : 6 ≤ N) (l Bs n cap : Nat) (a : Option Addr) (P : Nat → Prt) (w0 : World) (hP : Prts w0 a n P) (hPB : ∀ i, i < n → (P i).B.length ≤ 1000000) (hn : n ≤ 140737488355328) (J Jx : List LV → World → Prop)
  (hY : ∀ pre x A B, J pre A → GLaid n P pre A x B → YieldAt Fence.wide (N - 1) Tryz.prog l (encL x) B fun e W' =>
   (e = .returned (.bool true) ∧ J (pre ++ [x]) W' ∧ Below w0.heap.size B W') ∨ (e = .returned (.bool false) ∧ Jx (pre ++ [x]) W'))
  (W : World) (hW : Below w0.heap.size w0 W) (hBs : W.cell? ⟨Bs, 0, none⟩ = some (.slice a n cap)) (h0 : J [] W) :
  CallsIn Fence.wide N Tryz.prog 123 #[.func (.yield l) #[] #[], .pointer (some ⟨Bs, 0, none⟩)] W fun e W' => (∃ v, e = .returned v) ∧
   ((∃ xs A, J xs A ∧ SLaid n xs A W') ∨ (∃ pre A, Jx pre A ∧ SpLaid pre A W')) := by
 refine callsIn_of_wp Tryz.func123 rfl trivial ?_ rfl
 simp only [Tryz.ntmps123, List.size_toArray, List.length_cons, List.length_nil, Nat.reduceAdd, Nat.reduceSub, Array.replicate_succ, Array.replicate_zero, List.push_toArray, List.append_toArray, List.nil_append, List.cons_append]
 gi_wp2
 gi_loopg [8] n (fun q s8 wr => ∃ (k : Nat) (pre : List LV), k + q = n ∧ s8 = .int .i64 k ∧ pre.length = k ∧ Below w0.heap.size w0 wr ∧ J pre wr)
 case atStart => exact ⟨0, [], by omega, rfl, rfl, hW, h0⟩
 case round =>
  obtain ⟨k, pre, hkq, rfl, hpl, hBr, hJ⟩ := hrel
  clear h0 hBs hW
  cases gk with
  | zero =>
    obtain rfl : k = n := by omega
    gi_wp2
    go_end0
    exact ⟨⟨_, rfl⟩, .inl ⟨pre, wr, hJ, hpl, Below.refl _ _⟩⟩
  | succ q =>
    have hkn : k < n := by omega
    have hkz : (k : Int) < (n : Int) := by omega
    have hk0 : (0 : Int) ≤ (k : Int) := by omega
    obtain ⟨b, off, rfl, ⟨e0, e1⟩, hok⟩ := (hP.below hBr).cells k hkn
    have hpb := hPB k hkn
    have HJ := hide hJ
    have HPL := hide hpl
    obtain ⟨T, hT⟩ : ∃ T, (P k).T = T := ⟨_, rfl⟩
    obtain ⟨lB, hlB⟩ : ∃ lB, (P k).B.length = lB := ⟨_, rfl⟩
    obtain ⟨cB, hcB⟩ : ∃ cB, (P k).cB = cB := ⟨_, rfl⟩
    obtain ⟨pB, hpB⟩ : ∃ pB, (P k).pB = pB := ⟨_, rfl⟩
    rw [hT] at e0
    rw [hlB, hcB, hpB] at e1
    obtain ⟨W4, hW4⟩ : ∃ W4, wr.alloc (.cells #[.int .u8 (T : Nat), .slice pB lB cB] 40) = W4 := ⟨_, rfl⟩
    have hB4 : Below wr.heap.size wr W4 := by rw [← hW4]; exact below_alloc _ _
    have hs4 : W4.heap.size = wr.heap.size + 1 := by rw [← hW4]; simp
    have hp4 : W4.heap[wr.heap.size]? = some (.cells #[.int .u8 (T : Nat), .slice pB lB cB] 40 (0, 0)) := by rw [← hW4]; exact heap_alloc_new _ _
    obtain ⟨W5, hW5⟩ : ∃ W5, W4.alloc (.cells #[.pointer none, .int .i64 0, .bool false] 72) = W5 := ⟨_, rfl⟩
    have hB5 : Below W4.heap.size W4 W5 := by rw [← hW5]; exact below_alloc _ _
    have hs5 : W5.heap.size = W4.heap.size + 1 := by rw [← hW5]; simp
    have hw5 : WP W5 (.pointer (some ⟨W4.heap.size, 0, none⟩)) (fun k => k = W4.heap.size) (some []) := .inr ⟨_, rfl, rfl, by simp, .inl ⟨rfl, by rw [← hW5]; exact heap_alloc_new _ _⟩⟩
    have hp5 := hB5.block _ (by omega) |>.trans hp4
    obtain ⟨d0, d1, df0, df1⟩ := cells2 hp5
    have hnum := callsIn_wide (n := N - 1).2 (number_one (.pointer (some ⟨W4.heap.size, 0, none⟩)) (fun k => k = W4.heap.size) (some []) (lB : Nat) W5 hw5 (fun k hk => by omega) (by simp [szO]) _ rfl)
    have hpn : putNum (some []) (lB : Nat) = some (encN lB) := by
     show (if 0 ≤ (lB : Int) ∧ (lB : Int) ≤ (maxNum : Nat) then some ([] ++ encN (lB : Int).toNat) else none) = _
     rw [if_pos (by unfold maxNum; omega)]
     simp
    rw [hpn] at hnum
    obtain ⟨m, hm⟩ : ∃ m, (encN lB).length = m := ⟨_, rfl⟩
    have hm6 : m ≤ 6 := by rw [← hm]; exact encN_len6 (by unfold maxNum; omega)
    have hm0 : 0 < m := by rw [← hm]; exact encN_pos _
    have HOK := hide hok
    have HTs := hide (And.intro hT (And.intro hlB (And.intro hcB hpB)))
    have HB45 := hide (And.intro hB4 (And.intro hs4 (And.intro hB5 hs5)))
    have HP5 := hide hp5
    have HBR := hide hBr
    clear hJ hpl hok hT hlB hcB hpB hB4 hs4 hB5 hs5 hp4 hp5 hw5 hBr hpn
    gi_wp2
    refine ⟨trivial, fun _ => by omega, hnum.mono ?_⟩
    rintro e w7 ⟨rfl, hW7, hK7⟩
    obtain ⟨hB4, hs4, hB5, hs5⟩ := HB45.out
    have hp7 : w7.heap[wr.heap.size]? = some (.cells #[.int .u8 (T : Nat), .slice pB lB cB] 40 (0, 0)) := hK7.heap HP5.out (by show ¬ wr.heap.size = W4.heap.size; omega)
    have hs7 := hK7.size
    have hBw7 : Below wr.heap.size wr w7 := ((Kept.of_below (F := fun k => wr.heap.size ≤ k) hB4).trans ((Kept.of_below (F := fun k => wr.heap.size ≤ k) hB5).trans (hK7.mono (G := fun k => wr.heap.size ≤ k) (fun k _ e => by omega)) (fun _ _ h => h)) (fun _ _ h => h)).below (fun _ h => h) (Nat.le_refl _)
    have hF7 : ∀ k, Fnew (fun k => k = W4.heap.size) W5 w7 k → k < w7.heap.size := fun k hk => by
     rcases hk with hk | hk
     ·omega
     ·exact hk.2
    have cb : ∀ W, Below w7.heap.size w7 W → Calls Tryz.prog 44 #[.pointer (some ⟨W4.heap.size, 0, none⟩)] W fun e w' => ∃ v, e = .returned v ∧ w'.ownsRow W.heap.size 5 1 v m (lc (encN lB)) ∧ Below W.heap.size W w' := fun W hW => by
     have h := bytes_wp _ _ _ W (hW7.kept (Kept.of_below (F := fun _ => False) hW) (fun _ _ h => h)) (by simp [szO]; omega)
     have e1 : szO (some (encN lB)) = m := hm
     rw [e1] at h
     exact h
    have HH := hide (And.intro hp7 (And.intro hs7 hBw7))
    clear hnum hK7 hW7 hF7 hp7 hs7 hBw7 hB4 hs4 hB5 hs5
    gi_wp2
    refine laidR l T m wr.heap.size W4.heap.size lB cB wr.heap.size pB (encN lB) _ _ _ _ rfl rfl rfl rfl hm hm0 (by omega) (encN_lt lB) (by have := HH.out.2.2.size; omega) (by omega) HH.out.1 cb ?_
    intro vs w8 hB8 h17 h22 h24
    obtain ⟨TA, TC, h22, ho⟩ := h22
    simp only [List.foldl_cons, List.foldl_nil, List.setIfInBounds_toArray, List.set_cons_succ, List.set_cons_zero]
    rw [h17, h22, h24]
    obtain ⟨hT, hlB, hcB, hpB⟩ := HTs.out
    obtain ⟨hp7, hs7, hBw7⟩ := HH.out
    have hBw8 : Below wr.heap.size wr w8 := hBw7.trans (hB8.mono hBw7.size)
    have hhl : (headP T lB).length = 1 + m := by simp [headP, hm]; omega
    obtain ⟨fn, tmps, assign, body, hy, hR⟩ := hY pre (.slice TA (1 + m) TC, .slice pB lB cB) wr w8 HJ.out
     ⟨by rw [HPL.out]; exact hkn, hBw8, by rw [HPL.out, hT, hlB, hhl]; exact ho, by rw [HPL.out, hlB, hcB, hpB], by rw [HPL.out]; exact HOK.out.below hBw8⟩
    simp only [encL] at hy
    have hBr8 : Below w0.heap.size w0 w8 := HBR.out.trans (hBw8.mono HBR.out.size)
    have H8 := hide hBr8
    clear hT hlB hcB hpB hp7 hs7 hBw7 hBw8 hBr8 ho hB8 cb h17 h22 h24 hhl
    generalize vs 18 = y18
    generalize vs 19 = y19
    generalize vs 20 = y20
    generalize vs 21 = y21
    generalize vs 23 = y23
    refine wpOpIn_plain (o := laid_ops[8]) rfl rfl (oper_inK (fun _ => trivial) (fun K hK => ?_))
    rw [Oper.semAt_plain Fence.wide _ _ (by intro c h; cases h)]
    simp only [laid_ops]
    go_simp
    refine ⟨fun _ => by omega, hR.mono ?_⟩
    rintro e W3 (⟨rfl, hJ3, hk3⟩ | ⟨rfl, hJx3⟩)
    ·refine hK _ _ (wpOpIn_plain (o := laid_ops[9]) rfl rfl (oper_inK (fun _ => trivial) (fun K2 hK2 => ?_)))
     rw [Oper.semAt_plain Fence.wide _ _ (by intro c h; cases h)]
     simp only [laid_ops]
     go_simp
     refine hK2 _ _ ?_
     clear hK hK2 hR hy hY
     gi_wp2
     gi_roundg q
     case measure => omega
     case rel => exact ⟨k + 1, _, by omega, by go_num, by rw [List.length_append, HPL.out]; rfl, H8.out.trans hk3, hJ3⟩
    ·refine hK _ _ (wpOpIn_plain (o := laid_ops[9]) rfl rfl (oper_inK (fun _ => trivial) (fun K2 hK2 => ?_)))
     rw [Oper.semAt_plain Fence.wide _ _ (by intro c h; cases h)]
     simp only [laid_ops]
     go_simp
     refine hK2 _ _ ?_
     clear hK hK2 hR hy hY
     gi_wp2
     refine bodyPost_ret (results_none rfl _ _ _) rfl ?_
     exact ⟨⟨_, rfl⟩, .inr ⟨_, W3, hJx3, Below.refl _ _⟩⟩
theorem laid_stops (N : Nat) (hN : 6 ≤ N) (Bs n cap : Nat) (a : Option Addr) (P : Nat → Prt) (w0 w : World) (hP : Prts w0 a n P) (hPB : ∀ i, i < n → (P i).B.length ≤ 1000000) (hn : n ≤ 140737488355328) (hw : Below w0.heap.size w0 w) (hBs : w.cell? ⟨Bs, 0, none⟩ = some (.slice a n cap)) :
  SeqG Fence.wide N Tryz.prog 123 #[.pointer (some ⟨Bs, 0, none⟩)] encL (GLaid n P) (Below w0.heap.size) (SLaid n) SpLaid w := fun l J Jx W hW hY h0 =>
 laid1_in N hN l Bs n cap a P w0 hP hPB hn J Jx hY W (hw.trans (hW.mono hw.size)) (cell_thru hBs hW) h0
end Go.Proofs.YtppdbinppibjhaaGreatDoor
/-
  frame.sizeOf: how many bytes a file of parts has.
-/
namespace Go.Proofs.YtppdbinppibjhaaGreatDoor
open Go.RowKit Go.Shelf
attribute [local go_sem] Oper.semAt_some
def pts (P : Nat → Prt) (k : Nat) : List PT := (List.range k).map fun i => pt (P i)
theorem pts_succ (P : Nat → Prt) (k : Nat) : pts P (k + 1) = pts P k ++ [pt (P k)] := by simp [pts, List.range_succ]
theorem bodyB_pts (P : Nat → Prt) (k : Nat) : (bodyB (pts P (k + 1))).length = (bodyB (pts P k)).length + (headP (P k).T (P k).B.length).length + (P k).B.length := by
 rw [pts_succ, bodyB_snoc, List.length_append]
 simp [partB, pt]; omega
theorem bodyB_mono (P : Nat → Prt) {k n : Nat} (h : k ≤ n) : (bodyB (pts P k)).length ≤ (bodyB (pts P n)).length := by
 induction n with
 | zero => have : k = 0 := by omega
           subst this; exact Nat.le_refl _
 | succ n ih =>
   by_cases e : k = n + 1
   ·subst e; exact Nat.le_refl _
   ·have := ih (by omega)
    have := bodyB_pts P n
    omega
theorem bodyB_one (P : Nat → Prt) {k n : Nat} (h : k < n) : (P k).B.length ≤ (bodyB (pts P n)).length := by
 have := bodyB_mono P (show k + 1 ≤ n by omega)
 have := bodyB_pts P k
 omega
def SI (w0 : World) (N0 : Nat) (P : Nat → Prt) (pre : List LV) (W : World) : Prop :=
 W.heap[N0]? = some (.cells #[.int .i64 ((bodyB (pts P pre.length)).length + 8 : Nat)] 3 (0, 0)) ∧ Below w0.heap.size w0 W
def SM (w0 : World) (N0 n : Nat) (P : Nat → Prt) (pre : List LV) (x : LV) (W : World) : Prop :=
 pre.length < n ∧ SI w0 N0 P pre W ∧ (∃ A1 C1, x.1 = .slice A1 (headP (P pre.length).T (P pre.length).B.length).length C1) ∧ x.2 = .slice (P pre.length).pB (P pre.length).B.length (P pre.length).cB
def SE (w0 : World) (N0 n : Nat) (P : Nat → Prt) (xs : List LV) (W : World) : Prop := xs.length = n ∧ SI w0 N0 P xs W
theorem SI.own {w0 : World} {N0 B : Nat} {P : Nat → Prt} (hB : w0.heap.size ≤ B) : OwnFrom B (SI w0 N0 P) := by
 rintro pre X Y row ⟨h1, h2⟩ hg hr
 have ck := CellsKept.of_grown hg (fun r e => (hr r e).2)
 refine ⟨ck _ _ _ _ h1, h2.grown hg h2.size (fun r e => by have := (hr r e).1; omega)⟩
theorem SI.below {w0 A B : World} {N0 : Nat} {P : Nat → Prt} {pre : List LV} (h : SI w0 N0 P pre A) (hb : Below A.heap.size A B) : SI w0 N0 P pre B :=
 ⟨(hb.block _ (block_lt h.1)).trans h.1, h.2.trans (hb.mono h.2.size)⟩
theorem sizeOf_in (N : Nat) (hN : 9 ≤ N) (a : Option Addr) (n cap : Nat) (P : Nat → Prt) (w : World) (hP : Prts w a n P) (hn : n ≤ 140737488355328) (hs : sizeB (pts P n) ≤ 1000000) :
  CallsIn Fence.wide N Tryz.prog 68 #[.slice a n cap] w fun e w' => e = .returned (.int .i64 (sizeB (pts P n) : Nat)) ∧ Below w.heap.size w w' := by
 unfold sizeB at hs
 refine callsIn_of_wp_marks Tryz.func68 rfl trivial ?_ rfl
 simp only [Tryz.ntmps68, List.size_toArray, List.length_cons, List.length_nil, Nat.reduceAdd, Nat.reduceSub, Array.replicate_succ, Array.replicate_zero, List.push_toArray, List.append_toArray, List.nil_append, List.cons_append]
 obtain ⟨W1, hW1⟩ : ∃ W1, w.alloc (.cells #[.int .i64 8] 3) = W1 := ⟨_, rfl⟩
 have hB1 : Below w.heap.size w W1 := by rw [← hW1]; exact below_alloc _ _
 have hs1 : W1.heap.size = w.heap.size + 1 := by rw [← hW1]; simp
 have hb1 : W1.heap[w.heap.size]? = some (.cells #[.int .i64 8] 3 (0, 0)) := by rw [← hW1]; exact heap_alloc_new _ _
 have HS1 := hide hs1
 clear hs1
 gi_wp2
 refine ⟨trivial, fun _ => by omega, (laid_in Fence.wide (N - 1) trivial rfl a n cap W1).mono ?_⟩
 rintro e w3 ⟨rfl, rfl⟩
 obtain ⟨W3, hW3⟩ : ∃ W3, W1.alloc (.cells #[.slice a n cap] 41) = W3 := ⟨_, rfl⟩
 rw [hW3]
 have hB3 : Below W1.heap.size W1 W3 := by rw [← hW3]; exact below_alloc _ _
 have hs3 : W3.heap.size = W1.heap.size + 1 := by rw [← hW3]; simp
 have hbs : W3.cell? ⟨W1.heap.size, 0, none⟩ = some (.slice a n cap) := by rw [← hW3]; exact (cell_new_l W1 _ _).1
 have hBw : Below w.heap.size w W3 := hB1.trans (hB3.mono hB1.size)
 have hI0 : SI w w.heap.size P [] W3 := ⟨(hB3.block _ (by have := HS1.out; omega)).trans hb1, hBw⟩
 have hstop := laid_stops (N - 1) (by omega) W1.heap.size n cap a P w W3 hP (fun i hi => by have := bodyB_one P hi; omega) hn hBw hbs
 have HS3 := hide hs3
 clear hb1 hbs hs3
 gi_wp2
 refine wpIn_rangeFunc_G rfl (by omega) (gf := 123) (lb := #[.pointer (some ⟨W1.heap.size, 0, none⟩)]) rfl trivial (enters_of Tryz.func123 (by kernel_rfl) rfl)
  hstop (fun _ _ _ _ h => (Kept.of_below (F := fun _ => False) h.2.1).keepsOthers) (fun _ _ _ h => (Kept.of_below (F := fun _ => False) h.2).keepsOthers) (fun _ _ _ h => (Kept.of_below (F := fun _ => False) h).keepsOthers) belowK_t (fun W l o o' h1 h2 h3 => (Below.refl w.heap.size W).grown (grownBy_putObj' W l o') (by have := (Array.getElem?_eq_some_iff.1 h2).1; have := hBw.size; omega) (fun k e => by cases e; have := hBw.size; omega)) (Below.refl _ _) (fun _ => rfl)
  (SI w w.heap.size P) (fun _ _ _ => False) (SM w w.heap.size n P) (SE w w.heap.size n P) (fun _ _ _ => False) (SI.own hBw.size) (fun _ _ _ _ _ h _ _ => h) ?eo (fun _ _ _ _ _ h _ _ => h)
  ?mid (fun _ _ _ h1 h2 => ⟨h2.1, h1.below h2.2⟩) (fun _ _ _ _ h _ => h) hI0
  (fun pre x a' W => a' = { tmps := #[.slice a n cap, undef, .int .i64 0, .pointer (some ⟨w.heap.size, 0, none⟩), x.1, x.2, .slice a n cap, .func (.func 123) #[] #[.pointer (some ⟨W1.heap.size, 0, none⟩)], x.1, x.2, undef, undef, undef, undef, undef, undef, undef, undef, undef, undef], defers := [] } ∧
   SM w w.heap.size n P pre x W) ?m2 ?assign ?body ?done (fun _ _ _ _ _ h _ => h.elim)
 case eo =>
  rintro xs X Y row ⟨h1, h2⟩ hg hr
  exact ⟨h1, SI.own hBw.size xs X Y row h2 hg hr⟩
 case mid =>
  rintro pre x A B h1 ⟨g1, g2, g3, g4, g5⟩
  obtain ⟨A1, C1, e⟩ := owns_slice g3
  exact ⟨g1, h1.below g2, ⟨A1, C1, e⟩, g4⟩
 case m2 =>
  rintro x a' pre X Y row ⟨h1, h2, h3, h4⟩ hg hr
  exact ⟨h1, h2, SI.own hBw.size pre X Y row h3 hg hr, h4⟩
 case assign =>
  intro l pre x W K hM hK
  have HK := hide (hK _ W (KeepsOthers.refl _) (Below.refl _ _) ⟨rfl, hM⟩)
  obtain ⟨_, _, ⟨A1, C1, h1⟩, h2⟩ := hM
  obtain ⟨x1, x2⟩ := x
  clear hK hstop h1 h2
  simp only [encL]
  gi_wp2
  exact HK.out
 case body =>
  rintro l pre ⟨x1, x2⟩ a' W ⟨rfl, hkn, ⟨hb, hBW⟩, ⟨A1, C1, h1⟩, h2⟩
  simp only at h1 h2
  subst h1 h2
  obtain ⟨d0, df0⟩ := cells1 hb
  have hbs := bodyB_pts P pre.length
  have hbm := bodyB_mono P (show pre.length + 1 ≤ n by omega)
  have HN : Hid ((bodyB (pts P (pre.length + 1))).length + 8 = (bodyB (pts P pre.length)).length + 8 + ((headP (P pre.length).T (P pre.length).B.length).length + (P pre.length).B.length)) := by
   show _ = _
   omega
  have hy1 : (bodyB (pts P pre.length)).length + 8 + ((headP (P pre.length).T (P pre.length).B.length).length + (P pre.length).B.length) ≤ 1000000 := by omega
  have HB := hide hb
  have HBW := hide hBW
  clear hb hBW hstop hbs hbm hI0
  generalize (headP (P pre.length).T (P pre.length).B.length).length = y at *
  generalize (bodyB (pts P pre.length)).length + 8 = z at *
  generalize (P pre.length).B.length = b at *
  generalize (P pre.length).pB = pb at *
  generalize (P pre.length).cB = cb at *
  have hz0 : (0 : Int) ≤ (z : Int) := by omega
  have hzy : (z : Int) + ((y : Int) + (b : Int)) ≤ 1000000 := by omega
  gi_wp2
  refine ⟨KeepsOthers.setCell _ _ _, (Below.refl _ _).setCell (p := ⟨w.heap.size, 0, none⟩) (Nat.le_refl _) _, ?_, HBW.out.setCell (p := ⟨w.heap.size, 0, none⟩) (Nat.le_refl _) _⟩
  have h1 := heap_setCell_same W w.heap.size 0 _ _ (.int .i64 ((z : Int) + ((y : Int) + (b : Int)))) HB.out
  rw [List.length_append]
  show _ = some (Obj.cells #[.int .i64 ((bodyB (pts P (pre.length + 1))).length + 8 : Nat)] _ _)
  rw [HN.out, show ((z + (y + b) : Nat) : Int) = (z : Int) + ((y : Int) + (b : Int)) from by omega]
  exact h1
 case done =>
  rintro D xs X hD ⟨hl, hb, hB⟩ hKD
  obtain ⟨d0, df0⟩ := cells1 hb
  obtain ⟨z, hz⟩ : ∃ z, (bodyB (pts P xs.length)).length + 8 = z := ⟨_, rfl⟩
  have hM : Marks w.heap.size [{ target := .collected D, args := #[] }] X := ⟨⟨D, rfl, by have := hBw.size; omega, hKD, fun _ h => by cases h⟩, trivial⟩
  have hend : ∀ tmps : Array Value, tmps.getD 2 undef = .int .i64 (z : Nat) →
    LeavesInM Fence.wide N Tryz.prog Tryz.f68 tmps (fun e w' => e = .returned (.int .i64 (sizeB (pts P n) : Nat)) ∧ Below w.heap.size w w') [{ target := .collected D, args := #[] }] .returning X := by
   intro tmps e2
   refine leaves_marks _ _ hM (fun w' ht => ⟨_, results_tmp rfl _ _ _, ?_, ((Kept.of_below (F := fun _ => False) hB).turned ht).below (fun _ h => h.elim) (Nat.le_refl _)⟩)
   rw [e2, ← hz, hl]; rfl
  rw [hz] at d0
  clear hM hb hstop hI0 hl hz
  gi_wp2
  exact hend _ rfl
end Go.Proofs.YtppdbinppibjhaaGreatDoor
