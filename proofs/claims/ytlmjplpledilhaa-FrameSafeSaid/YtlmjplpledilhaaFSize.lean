/-
  frame.sizeOf: how many bytes a file of parts has.
-/
import Derived.Test.YtlmjplpledilhaaFLaid
namespace Go.Proofs.Ytlmjplpledilhaa
open Go.RowKit Go.Shelf

attribute [local go_sem] Oper.semAt_some

/-- The first parts of a row. -/
def pts (P : Nat → Prt) (k : Nat) : List PT := (List.range k).map fun i => pt (P i)
theorem pts_succ (P : Nat → Prt) (k : Nat) : pts P (k + 1) = pts P k ++ [pt (P k)] := by simp [pts, List.range_succ]
theorem pts_len (P : Nat → Prt) (k : Nat) : (pts P k).length = k := by simp [pts]
theorem bodyB_pts (P : Nat → Prt) (k : Nat) : (bodyB (pts P (k + 1))).length = (bodyB (pts P k)).length + (headP (P k).T (P k).B.length).length + (P k).B.length := by
  rw [pts_succ, bodyB_snoc, List.length_append]
  simp [partB, pt]; omega
theorem bodyB_mono (P : Nat → Prt) {k n : Nat} (h : k ≤ n) : (bodyB (pts P k)).length ≤ (bodyB (pts P n)).length := by
  induction n with
  | zero => have : k = 0 := by omega
            subst this; exact Nat.le_refl _
  | succ n ih =>
    by_cases e : k = n + 1
    · subst e; exact Nat.le_refl _
    · have := ih (by omega)
      have := bodyB_pts P n
      omega
theorem bodyB_one (P : Nat → Prt) {k n : Nat} (h : k < n) : (P k).B.length ≤ (bodyB (pts P n)).length := by
  have := bodyB_mono P (show k + 1 ≤ n by omega)
  have := bodyB_pts P k
  omega

def SI (w0 : World) (N0 : Nat) (P : Nat → Prt) (pre : List LV) (W : World) : Prop :=
  W.heap[N0]? = some (.cells #[.int .i64 ((bodyB (pts P pre.length)).length + 8 : Nat)] 3 (0, 0)) ∧ Below w0.heap.size w0 W
def SM (w0 : World) (N0 n : Nat) (P : Nat → Prt) (pre : List LV) (x : LV) (W : World) : Prop :=
  pre.length < n ∧ SI w0 N0 P pre W ∧ (∃ A1 C1, x.1 = .slice A1 (headP (P pre.length).T (P pre.length).B.length).length C1) ∧ x.2 = .slice (P pre.length).pB (P pre.length).B.length (P pre.length).cB
def SE (w0 : World) (N0 n : Nat) (P : Nat → Prt) (xs : List LV) (W : World) : Prop := xs.length = n ∧ SI w0 N0 P xs W
theorem SI.own {w0 : World} {N0 B : Nat} {P : Nat → Prt} (hB : w0.heap.size ≤ B) : OwnFrom B (SI w0 N0 P) := by
  rintro pre X Y row ⟨h1, h2⟩ hg hr
  have ck := CellsKept.of_grown hg (fun r e => (hr r e).2)
  refine ⟨ck _ _ _ _ h1, h2.grown hg h2.size (fun r e => by have := (hr r e).1; omega)⟩
theorem SI.below {w0 A B : World} {N0 : Nat} {P : Nat → Prt} {pre : List LV} (h : SI w0 N0 P pre A) (hb : Below A.heap.size A B) : SI w0 N0 P pre B :=
  ⟨(hb.block _ (block_lt h.1)).trans h.1, h.2.trans (hb.mono h.2.size)⟩

set_option maxRecDepth 100000 in
set_option maxHeartbeats 4000000 in
theorem sizeOf_in (N : Nat) (hN : 9 ≤ N) (a : Option Addr) (n cap : Nat) (P : Nat → Prt) (w : World) (hP : Prts w a n P) (hn : n ≤ 140737488355328) (hs : sizeB (pts P n) ≤ 1000000) :
    CallsIn Fence.wide N Try.prog 13 #[.slice a n cap] w fun e w' => e = .returned (.int .i64 (sizeB (pts P n) : Nat)) ∧ Below w.heap.size w w' := by
  unfold sizeB at hs
  refine callsIn_of_wp_marks Try.func13 rfl trivial ?_ rfl
  simp only [Try.ntmps13, List.size_toArray, List.length_cons, List.length_nil, Nat.reduceAdd, Nat.reduceSub, Array.replicate_succ, Array.replicate_zero, List.push_toArray, List.append_toArray, List.nil_append, List.cons_append]
  obtain ⟨W1, hW1⟩ : ∃ W1, w.alloc (.cells #[.int .i64 8] 3) = W1 := ⟨_, rfl⟩
  have hB1 : Below w.heap.size w W1 := by rw [← hW1]; exact below_alloc _ _
  have hs1 : W1.heap.size = w.heap.size + 1 := by rw [← hW1]; simp
  have hb1 : W1.heap[w.heap.size]? = some (.cells #[.int .i64 8] 3 (0, 0)) := by rw [← hW1]; exact heap_alloc_new _ _
  have HS1 := hide hs1
  clear hs1
  gi_wp2
  refine ⟨trivial, fun _ => by omega, (laid_in Fence.wide (N - 1) trivial rfl a n cap W1).mono ?_⟩
  rintro e w3 ⟨rfl, rfl⟩
  obtain ⟨W3, hW3⟩ : ∃ W3, W1.alloc (.cells #[.slice a n cap] 22) = W3 := ⟨_, rfl⟩
  rw [hW3]
  have hB3 : Below W1.heap.size W1 W3 := by rw [← hW3]; exact below_alloc _ _
  have hs3 : W3.heap.size = W1.heap.size + 1 := by rw [← hW3]; simp
  have hbs : W3.cell? ⟨W1.heap.size, 0, none⟩ = some (.slice a n cap) := by rw [← hW3]; exact (cell_new_l W1 _ _).1
  have hBw : Below w.heap.size w W3 := hB1.trans (hB3.mono hB1.size)
  have hI0 : SI w w.heap.size P [] W3 := ⟨(hB3.block _ (by have := HS1.out; omega)).trans hb1, hBw⟩
  have hstop := laid_stops (N - 1) (by omega) W1.heap.size n cap a P w W3 hP (fun i hi => by have := bodyB_one P hi; omega) hn hBw hbs
  have HS3 := hide hs3
  clear hb1 hbs hs3
  gi_wp2
  refine wpIn_rangeFunc_G rfl (by omega) (gf := 25) (lb := #[.pointer (some ⟨W1.heap.size, 0, none⟩)]) rfl trivial (enters_of Try.func25 (by kernel_rfl) rfl)
    hstop (fun _ _ _ _ h => (Kept.of_below (F := fun _ => False) h.2.1).keepsOthers) (fun _ _ _ h => (Kept.of_below (F := fun _ => False) h.2).keepsOthers) (fun _ _ _ h => (Kept.of_below (F := fun _ => False) h).keepsOthers) belowK_t (fun W l o o' h1 h2 h3 => (Below.refl w.heap.size W).grown (grownBy_putObj' W l o') (by have := (Array.getElem?_eq_some_iff.1 h2).1; have := hBw.size; omega) (fun k e => by cases e; have := hBw.size; omega)) (Below.refl _ _) (fun _ => rfl)
    (SI w w.heap.size P) (fun _ _ _ => False) (SM w w.heap.size n P) (SE w w.heap.size n P) (fun _ _ _ => False) (SI.own hBw.size) (fun _ _ _ _ _ h _ _ => h) ?eo (fun _ _ _ _ _ h _ _ => h)
    ?mid (fun _ _ _ h1 h2 => ⟨h2.1, h1.below h2.2⟩) (fun _ _ _ _ h _ => h) hI0
    (fun pre x a' W => a' = { tmps := #[.slice a n cap, undef, .int .i64 0, .pointer (some ⟨w.heap.size, 0, none⟩), x.1, x.2, .slice a n cap, .func (.func 25) #[] #[.pointer (some ⟨W1.heap.size, 0, none⟩)], x.1, x.2, undef, undef, undef, undef, undef, undef, undef, undef, undef, undef], defers := [] } ∧
      SM w w.heap.size n P pre x W) ?m2 ?assign ?body ?done (fun _ _ _ _ _ h _ => h.elim)
  case eo =>
    rintro xs X Y row ⟨h1, h2⟩ hg hr
    exact ⟨h1, SI.own hBw.size xs X Y row h2 hg hr⟩
  case mid =>
    rintro pre x A B h1 ⟨g1, g2, g3, g4, g5⟩
    obtain ⟨A1, C1, e⟩ := owns_slice g3
    exact ⟨g1, h1.below g2, ⟨A1, C1, e⟩, g4⟩
  case m2 =>
    rintro x a' pre X Y row ⟨h1, h2, h3, h4⟩ hg hr
    exact ⟨h1, h2, SI.own hBw.size pre X Y row h3 hg hr, h4⟩
  case assign =>
    intro l pre x W K hM hK
    have HK := hide (hK _ W (KeepsOthers.refl _) (Below.refl _ _) ⟨rfl, hM⟩)
    obtain ⟨_, _, ⟨A1, C1, h1⟩, h2⟩ := hM
    obtain ⟨x1, x2⟩ := x
    clear hK hstop h1 h2
    simp only [encL]
    gi_wp2
    exact HK.out
  case body =>
    rintro l pre ⟨x1, x2⟩ a' W ⟨rfl, hkn, ⟨hb, hBW⟩, ⟨A1, C1, h1⟩, h2⟩
    simp only at h1 h2
    subst h1 h2
    obtain ⟨d0, df0⟩ := cells1 hb
    have hbs := bodyB_pts P pre.length
    have hbm := bodyB_mono P (show pre.length + 1 ≤ n by omega)
    have HN : Hid ((bodyB (pts P (pre.length + 1))).length + 8 = (bodyB (pts P pre.length)).length + 8 + ((headP (P pre.length).T (P pre.length).B.length).length + (P pre.length).B.length)) := by
      show _ = _
      omega
    have hy1 : (bodyB (pts P pre.length)).length + 8 + ((headP (P pre.length).T (P pre.length).B.length).length + (P pre.length).B.length) ≤ 1000000 := by omega
    have HB := hide hb
    have HBW := hide hBW
    clear hb hBW hstop hbs hbm hI0
    generalize (headP (P pre.length).T (P pre.length).B.length).length = y at *
    generalize (bodyB (pts P pre.length)).length + 8 = z at *
    generalize (P pre.length).B.length = b at *
    generalize (P pre.length).pB = pb at *
    generalize (P pre.length).cB = cb at *
    have hz0 : (0 : Int) ≤ (z : Int) := by omega
    have hzy : (z : Int) + ((y : Int) + (b : Int)) ≤ 1000000 := by omega
    gi_wp2
    refine ⟨KeepsOthers.setCell _ _ _, (Below.refl _ _).setCell (p := ⟨w.heap.size, 0, none⟩) (Nat.le_refl _) _, ?_, HBW.out.setCell (p := ⟨w.heap.size, 0, none⟩) (Nat.le_refl _) _⟩
    have h1 := heap_setCell_same W w.heap.size 0 _ _ (.int .i64 ((z : Int) + ((y : Int) + (b : Int)))) HB.out
    rw [List.length_append]
    show _ = some (Obj.cells #[.int .i64 ((bodyB (pts P (pre.length + 1))).length + 8 : Nat)] _ _)
    rw [HN.out, show ((z + (y + b) : Nat) : Int) = (z : Int) + ((y : Int) + (b : Int)) from by omega]
    exact h1
  case done =>
    rintro D xs X hD ⟨hl, hb, hB⟩ hKD
    obtain ⟨d0, df0⟩ := cells1 hb
    obtain ⟨z, hz⟩ : ∃ z, (bodyB (pts P xs.length)).length + 8 = z := ⟨_, rfl⟩
    have hM : Marks w.heap.size [{ target := .collected D, args := #[] }] X := ⟨⟨D, rfl, by have := hBw.size; omega, hKD, fun _ h => by cases h⟩, trivial⟩
    have hend : ∀ tmps : Array Value, tmps.getD 2 undef = .int .i64 (z : Nat) →
        LeavesInM Fence.wide N Try.prog Try.f13 tmps (fun e w' => e = .returned (.int .i64 (sizeB (pts P n) : Nat)) ∧ Below w.heap.size w w') [{ target := .collected D, args := #[] }] .returning X := by
      intro tmps e2
      refine leaves_marks _ _ hM (fun w' ht => ⟨_, results_tmp rfl _ _ _, ?_, ((Kept.of_below (F := fun _ => False) hB).turned ht).below (fun _ h => h.elim) (Nat.le_refl _)⟩)
      rw [e2, ← hz, hl]; rfl
    rw [hz] at d0
    clear hM hb hstop hI0 hl hz
    gi_wp2
    exact hend _ rfl
theorem sizeOf_any (a : Option Addr) (n cap : Nat) (P : Nat → Prt) (w : World) (hP : Prts w a n P) (hn : n ≤ 140737488355328) (hs : sizeB (pts P n) ≤ 1000000) :
    Calls Try.prog 13 #[.slice a n cap] w fun e w' => e = .returned (.int .i64 (sizeB (pts P n) : Nat)) ∧ Below w.heap.size w w' :=
  callsIn_wide.1 (sizeOf_in 9 (by omega) a n cap P w hP hn hs)
end Go.Proofs.Ytlmjplpledilhaa
