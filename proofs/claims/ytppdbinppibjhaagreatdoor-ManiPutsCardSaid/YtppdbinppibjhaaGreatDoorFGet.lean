/-
  frame.Get: the parts of a file.
-/
import Derived.Test.YtppdbinppibjhaaGreatDoorFIter
import Derived.Test.YtppdbinppibjhaaGreatDoorFWholes
import Derived.Test.YtppdbinppibjhaaGreatDoorRows2
import Derived.Test.YtppdbinppibjhaaGreatDoorPrt
set_option maxHeartbeats 4000000
set_option maxRecDepth 100000
set_option linter.unusedVariables false
set_option linter.unusedSimpArgs false
namespace Go.Proofs.YtppdbinppibjhaaGreatDoor
open Go.RowKit Go.Shelf
attribute [local go_sem] Oper.semAt_some
def errG (G : Option (List PT)) : Int := if G.isSome = true then 0 else 9
def pcells : List PV → List Value
 | [] => []
 | x :: r => .int .u8 (x.1.1 : Nat) :: x.2 :: pcells r
theorem pcells_append (a b : List PV) : pcells (a ++ b) = pcells a ++ pcells b := by
 induction a with
 | nil => rfl
 | cons x a ih => simp [pcells, ih]
def OwnPV (w : World) (B : Nat) (v : Value) (xs : List PV) : Prop :=
 w.ownsRow B 40 2 v xs.length (pcells xs) ∧ (∀ x ∈ xs, w.ownsRow B 5 1 x.2 x.1.2.length (lc x.1.2) ∧ okPart x.1) ∧
  xs.Pairwise (fun x y => ∀ g, x.2.ownBlock = some g → y.2.ownBlock ≠ some g)
theorem OwnPV.kept {w w' : World} {B : Nat} {v : Value} {xs : List PV} {F : Nat → Prop} (h : OwnPV w B v xs) (hk : Kept F w w') (hF : ∀ k, F k → v.ownBlock ≠ some k ∧ ∀ x ∈ xs, x.2.ownBlock ≠ some k) : OwnPV w' B v xs :=
 ⟨owns_keptS h.1 hk (fun g hg hf => (hF g hf).1 hg), fun x hx => ⟨owns_kept (h.2.1 x hx).1 hk (fun g hg hf => (hF g hf).2 x hx hg), (h.2.1 x hx).2⟩, h.2.2⟩
theorem OwnPV.nil (w : World) (B : Nat) : OwnPV w B (.slice none 0 0) [] := ⟨World.ownsRow_nil _ _ _ _, (by intro x h; cases h), List.Pairwise.nil⟩
theorem cells_part2 (w : World) (g t : Nat) (v : Value) (fr : Nat × Nat) (hg : w.heap[g]? = some (.cells #[.int .u8 (t : Nat), v] 40 fr)) : ∀ j u, [Value.int .u8 (t : Nat), v][j]? = some u → w.cell? ((⟨g, 0, none⟩ : Addr).add j) = some u := by
 intro j u hj
 match j, hj with
 | 0, hj => cases hj; exact cell_of_row _ g 0 _ _ _ hg
 | 1, hj => cases hj; exact cell_of_row _ g 1 _ _ _ hg
 | j + 2, hj => simp at hj
theorem RP.cells {w w' : World} {pv : Value} {F : Nat → Prop} {S : Option (List Nat)} (h : RP w pv F S) (hk : CellsKept w w') : RP w' pv F S := by
 rcases h with h | ⟨p, h1, h2⟩
 ·exact .inl h
 ·exact .inr ⟨p, h1, h2.cells hk⟩
theorem RSt.cells {w w' : World} {p N : Nat} {ok : Bool} (h : RSt w p N ok) (hk : CellsKept w w') (hs : w.heap.size ≤ w'.heap.size) : RSt w' p N ok := by
 obtain ⟨pv, a, b, S, h1, h2, h3, h4⟩ := h
 exact ⟨pv, a, b, S, hk _ _ _ _ h1, h2, (h3.cells hk).mono (fun k hk => ⟨hk.1, by omega⟩), h4⟩
theorem OwnPV.cells {w w' : World} {B : Nat} {v : Value} {xs : List PV} (h : OwnPV w B v xs) (hk : CellsKept w w') : OwnPV w' B v xs :=
 ⟨hk.own h.1, fun x hx => ⟨hk.own (h.2.1 x hx).1, (h.2.1 x hx).2⟩, h.2.2⟩
theorem info_part : (Tryz.prog.info? 40).map (fun i => (i.zero, i.size, i.bytes)) = some (some (.agg #[.int .u8 0, .slice none 0 0]), 2, 32) := by kernel_rfl
theorem RSt.size {w : World} {p N : Nat} (h : RSt w p N true) : N ≤ w.heap.size := by
 obtain ⟨pv, a, b, S, h1, h2, h3, h4⟩ := h
 rcases h3 with ⟨_, rfl⟩ | ⟨q, _, hq⟩
 ·cases h4
 ·have := hq.1; omega
theorem OwnPV.lower {w : World} {B B' : Nat} {v : Value} {xs : List PV} (h : OwnPV w B v xs) (hB : B' ≤ B) : OwnPV w B' v xs :=
 ⟨owns_lower h.1 hB, fun x hx => ⟨owns_lower (h.2.1 x hx).1 hB, (h.2.1 x hx).2⟩, h.2.2⟩
def GI (w : World) (B N0 p : Nat) (pre : List PV) (W : World) : Prop :=
 ∃ v N, W.heap[N0]? = some (.cells #[v] 41 (0, 0)) ∧ OwnPV W B v pre ∧ Kept (fun _ => False) w W ∧ RSt W p N true ∧ B ≤ W.heap.size
def GE (w : World) (B N0 p : Nat) (L0 : List Nat) (xs : List PV) (W : World) : Prop :=
 ∃ v N, W.heap[N0]? = some (.cells #[v] 41 (0, 0)) ∧ OwnPV W B v xs ∧ Kept (fun _ => False) w W ∧ ((getP L0 = some (xs.map (fun x : PV => x.1)) ∧ RSt W p N true) ∨ (getP L0 = none ∧ RSt W p N false))
def GM (w : World) (B N0 p : Nat) (pre : List PV) (x : PV) (W : World) : Prop :=
 ∃ v N, W.heap[N0]? = some (.cells #[v] 41 (0, 0)) ∧ OwnPV W B v pre ∧ Kept (fun _ => False) w W ∧ RSt W p N true ∧ N0 < N ∧ B ≤ N ∧ (∀ g, v.ownBlock = some g → g < N) ∧ (∀ y ∈ pre, ∀ g, y.2.ownBlock = some g → g < N) ∧
   W.ownsRow N 5 1 x.2 x.1.2.length (lc x.1.2) ∧ okPart x.1 ∧ pre.length ≤ 1000000
theorem GI.own {w : World} {B0 N0 p B : Nat} (hB : w.heap.size ≤ B) : OwnFrom B (GI w B0 N0 p) := by
 rintro pre X Y row ⟨v, N, h1, h2, h3, h4, h5⟩ hg hr
 have ck := CellsKept.of_grown hg (fun r e => (hr r e).2)
 exact ⟨v, N, ck _ _ _ _ h1, h2.cells ck, h3.grown hg (fun r e => .inr (by have := (hr r e).1; omega)), h4.cells ck hg.size, Nat.le_trans h5 hg.size⟩
theorem GE.own {w : World} {B0 N0 p B : Nat} {L0 : List Nat} (hB : w.heap.size ≤ B) : OwnFrom B (GE w B0 N0 p L0) := by
 rintro pre X Y row ⟨v, N, h1, h2, h3, h4⟩ hg hr
 have ck := CellsKept.of_grown hg (fun r e => (hr r e).2)
 refine ⟨v, N, ck _ _ _ _ h1, h2.cells ck, h3.grown hg (fun r e => .inr (by have := (hr r e).1; omega)), ?_⟩
 rcases h4 with ⟨h4, h5⟩ | ⟨h4, h5⟩
 ·exact .inl ⟨h4, h5.cells ck hg.size⟩
 ·exact .inr ⟨h4, h5.cells ck hg.size⟩
theorem GM.own {w : World} {B0 N0 p B : Nat} {x : PV} (hB : w.heap.size ≤ B) : OwnFrom B (fun pre => GM w B0 N0 p pre x) := by
 rintro pre X Y row ⟨v, N, h1, h2, h3, h4, h5, h6, h7, h8, h9, h10⟩ hg hr
 have ck := CellsKept.of_grown hg (fun r e => (hr r e).2)
 exact ⟨v, N, ck _ _ _ _ h1, h2.cells ck, h3.grown hg (fun r e => .inr (by have := (hr r e).1; omega)), h4.cells ck hg.size, h5, h6, h7, h8, ck.own h9, h10⟩
theorem p_not {A : World} {B p : Nat} {v : Value} {pre : List PV} (h : OwnPV A B v pre) {a b c : Value} (hp : A.heap[p]? = some (.cells #[a, b, c] 170 (0, 0))) (k : Nat) (hk : k = p) : v.ownBlock ≠ some k ∧ ∀ x ∈ pre, x.2.ownBlock ≠ some k := by
 subst hk
 exact ⟨owns_tyne h.1 hp (by decide), fun x hx => owns_tyne (h.2.1 x hx).1 hp (by decide)⟩
theorem GI.mid {w : World} {B0 N0 p : Nat} (hw : w.heap.size ≤ p) (hNp : N0 ≠ p) {n0 : Nat} (hn0 : n0 ≤ 1000000) {pre : List PV} {x : PV} {A B : World} (h : GI w B0 N0 p pre A) (hg : GParts p n0 pre A x B) : GM w B0 N0 p pre x B := by
 obtain ⟨v, N, h1, h2, h3, ⟨pv, a, b, S, h4, _⟩, h5⟩ := h
 obtain ⟨g1, g2, g3, g4, g5⟩ := hg
 refine ⟨v, A.heap.size, g1.heap h1 hNp, h2.kept g1 (fun k hk => p_not h2 h4 k hk), h3.trans g1 (fun k hk e => by omega), g2, block_lt h1, h5, fun g hv => (owns_cells h2.1 g hv).1, fun y hy g hv => (owns_cells (h2.2.1 y hy).1 g hv).1, g3, g4, by omega⟩
theorem GI.end {w : World} {B0 N0 p : Nat} (hw : w.heap.size ≤ p) (hNp : N0 ≠ p) {L0 : List Nat} {xs : List PV} {A B : World} (h : GI w B0 N0 p xs A) (hs : SParts p L0 xs A B) : GE w B0 N0 p L0 xs B := by
 obtain ⟨v, N, h1, h2, h3, h4, _⟩ := h
 rcases hs with ⟨s1, s2⟩ | ⟨s1, s2, s3⟩
 ·exact ⟨v, N, s2.heap h1 (fun h => h), h2.kept s2 (fun k hk => hk.elim), h3.trans s2 (fun _ _ h => h), .inl ⟨s1, h4.kept s2 (fun _ _ h => h.elim)⟩⟩
 ·obtain ⟨pv, a, b, S, h5, _⟩ := h4
  exact ⟨v, _, s2.heap h1 hNp, h2.kept s2 (fun k hk => p_not h2 h5 k hk), h3.trans s2 (fun k hk e => by omega), .inr ⟨s1, s3⟩⟩
theorem fget_in (n : Nat) (hn : 6 ≤ n) (A : Option Addr) (C m : Nat) (L : List Nat) (w : World) (hm : m = L.length) (h : SB w A C L) (hsz : m ≤ 1000000) :
  CallsIn Fence.wide n Tryz.prog 55 #[.slice A m C] w fun e w' => ∃ v xs, e = .returned (.tuple #[v, .int .i64 (errG (getFile L))]) ∧ OwnPV w' w.heap.size v xs ∧ xs.map (fun x : PV => x.1) = (getFile L).getD [] ∧ Below w.heap.size w w' := by
 have hwh := callsIn_wide (n := n - 1).2 (whole_any A C m L w hm h hsz)
 have hlt := h.b.lt
 refine callsIn_of_wp_marks Tryz.func55 rfl trivial ?_ rfl
 simp only [Tryz.ntmps55, List.size_toArray, List.length_cons, List.length_nil, Nat.reduceAdd, Nat.reduceSub, Array.replicate_succ, Array.replicate_zero, List.push_toArray, List.append_toArray, List.nil_append, List.cons_append]
 cases hw : wholeB L with
 | false =>
   have hg : getFile L = none := by unfold getFile; rw [hw]; rfl
   rw [hw] at hwh
   clear h hm
   gi_wp2
   refine ⟨trivial, fun _ => by omega, hwh.mono ?_⟩
   rintro e w1 ⟨rfl, hB⟩
   gi_wp2
   exact ⟨_, results_tmp2 rfl _ _ _, .slice none 0 0, [], by rw [hg]; rfl, OwnPV.nil _ _, by rw [hg]; rfl, hB⟩
 | true =>
   have hg : getFile L = getP (midB L) := by unfold getFile; rw [hw, if_pos rfl]
   have hwo := wholeB_of hw
   rw [hw] at hwh
   rw [hg]
   have hml : (midB L).length = m - 8 := by unfold midB; simp; omega
   have hC := h.l
   obtain ⟨A2, s2, b2, g2⟩ := h.mid 4 (m - 8) (by omega)
   have hmid : (L.drop 4).take (m - 8) = midB L := by
    unfold midB
    rw [List.drop_take]
    congr 1
    omega
   rw [hmid] at b2
   have s2' : ∀ wx, (Instr.slice 28 (.slice A m C) (some (.int .i64 4)) (some (.int .i64 ((m : Int) - 4))) none).run Tryz.prog wx = .ok (.slice A2 (m - 8) (C - 4)) wx := fun wx => by
    have := s2 wx
    rw [← hm, show ((4 : Nat) : Int) + ((m - 8 : Nat) : Int) = (m : Int) - 4 from by omega] at this
    exact this
   have hltm : ∀ b ∈ midB L, b < 256 := b2.b.lt
   have H2 := hide b2
   have HM := hide hm
   have HG2 := hide g2
   have HH := hide h
   have HWO := hide hwo
   clear h hm s2 b2 g2 hwo hg hmid
   gi_wp2
   refine ⟨trivial, fun _ => by omega, hwh.mono ?_⟩
   rintro e w1 ⟨rfl, hB1⟩
   obtain ⟨W1, hW1⟩ : ∃ W1, w1.alloc (.cells #[.slice none 0 0] 41) = W1 := ⟨_, rfl⟩
   have hK1 : Kept (fun _ => False) w W1 := by rw [← hW1]; exact (Kept.of_below hB1).alloc _
   have hbx1 : W1.heap[w1.heap.size]? = some (.cells #[.slice none 0 0] 41 (0, 0)) := by rw [← hW1]; exact heap_alloc_new _ _
   have hrd := callsIn_wide (n := n - 1).2 (fread_any A2 (C - 4) (m - 8) (midB L) W1 hml.symm (H2.out.kept hK1 (fun _ _ _ _ _ h => h)) (by omega))
   clear hwh
   gi_wp2
   refine ⟨trivial, fun _ => by omega, hrd.mono ?_⟩
   rintro e w2 ⟨p, pv, rfl, hp1, hF2, hB2⟩
   gi_wp2
   refine ⟨trivial, fun _ => by omega, (frParts_in Fence.wide (n - 1) trivial rfl (some ⟨p, 0, none⟩) w2).mono ?_⟩
   rintro e w3 ⟨rfl, rfl⟩
   obtain ⟨W3, hW3⟩ : ∃ W3, w2.alloc (.cells #[.pointer (some ⟨p, 0, none⟩)] 164) = W3 := ⟨_, rfl⟩
   rw [hW3]
   have hB3 : Below w2.heap.size w2 W3 := by rw [← hW3]; exact below_alloc w2 _
   have hs3 : W3.heap.size = w2.heap.size + 1 := by rw [← hW3]; simp
   have hp2 : p < w2.heap.size := block_lt hF2.1
   have hs1 : W1.heap.size = w1.heap.size + 1 := by rw [← hW1]; simp
   have hsw : w.heap.size ≤ w1.heap.size := hB1.size
   have hs2 : W1.heap.size ≤ w2.heap.size := hB2.size
   have hbx3 : W3.heap[w1.heap.size]? = some (.cells #[.slice none 0 0] 41 (0, 0)) := (hB3.block _ (by omega)).trans ((hB2.block _ (by omega)).trans hbx1)
   have hK3 : Kept (fun _ => False) w W3 := (hK1.trans (Kept.of_below (F := fun _ => False) hB2) (fun _ _ h => h)).trans (Kept.of_below (F := fun _ => False) hB3) (fun _ _ h => h)
   have hF3 := hF2.kept (Kept.of_below (F := fun _ => False) hB3) (fun _ _ h => h.elim)
   have hIt : IterAt W3 w2.heap.size p A2 (midB L) := by
    refine ⟨by rw [← hW3]; exact heap_alloc_new _ _, pv, A2, C - 4, 0, hF3.1, hF3.2.1, fun g o s e h0 => (hF3.2.2.1 g o s e h0).2, fun g o s e => ⟨o, s, e⟩⟩
   have hstop := parts_stops (n - 1) (by omega) w2.heap.size p A2 (midB L) (by omega) hltm (by omega) W3 hIt
   have hAw : ∀ g o s, A2 = some ⟨g, o, s⟩ → g < w.heap.size := fun g o s e => by
    obtain ⟨o1, s1, e1⟩ := HG2.out g o s e
    exact HH.out.at g o1 s1 e1 (by have := HWO.out.1; omega)
   have hNp : w1.heap.size ≠ p := by omega
   have hwp : w.heap.size ≤ p := by omega
   have hbs3 : W3.heap[w2.heap.size]? = some (.cells #[.pointer (some ⟨p, 0, none⟩)] 164 (0, 0)) := hIt.1
   have HST := hide hF3.st
   clear hrd hF2 hF3 hIt hbx1 hK1
   gi_wp2
   refine wpIn_rangeFunc_G rfl (by omega) (gf := 158) (lb := #[.pointer (some ⟨w2.heap.size, 0, none⟩)]) rfl trivial (enters_of Tryz.func158 (by kernel_rfl) rfl)
    hstop (fun _ _ _ _ h => h.1.keepsOthers) (fun _ _ _ h => h.elim (fun h => h.2.keepsOthers) (fun h => h.2.1.keepsOthers)) (fun _ _ _ h => h.keepsOthers) keepsKs_t (fun W l o o' h1 h2 h3 => keepsKs_b (w := W3) W l o o' h1 h2 h3) (Below.refl _ _) (fun _ => rfl)
    (GI w W3.heap.size w1.heap.size p) (fun _ _ _ => False) (GM w W3.heap.size w1.heap.size p) (GE w W3.heap.size w1.heap.size p (midB L)) (fun _ _ _ => False) (GI.own hK3.size) (fun _ _ _ _ _ h _ _ => h) (GE.own hK3.size) (fun _ _ _ _ _ h _ _ => h)
    (fun _ _ _ _ h1 h2 => h1.mid hwp hNp (by omega) h2) (fun _ _ _ h1 h2 => h1.end hwp hNp h2) (fun _ _ _ _ h _ => h) ?start
    (fun pre x a' W => ∃ b6, a' = { tmps := #[.slice A m C, undef, .slice none 0 0, .int .i64 0, .pointer (some ⟨w1.heap.size, 0, none⟩), .pointer (some ⟨p, 0, none⟩), .pointer (some ⟨b6, 0, none⟩), .slice A m C, .bool true, .bool false, .slice A m C, .slice A m C, .int .i64 m, .int .i64 ((m : Int) - 4), .slice A2 (m - 8) (C - 4), .pointer (some ⟨p, 0, none⟩), .pointer (some ⟨p, 0, none⟩), .func (.func 158) #[] #[.pointer (some ⟨w2.heap.size, 0, none⟩)], .agg #[.int .u8 (x.1.1 : Nat), x.2], undef, undef, undef, undef, undef, undef, undef, undef, undef, undef, undef], defers := [] } ∧
     W.heap[b6]? = some (.cells #[.int .u8 (x.1.1 : Nat), x.2] 40 (0, 0)) ∧ GM w W3.heap.size w1.heap.size p pre x W) ?m2 ?assign ?body ?done (fun _ _ _ _ _ h _ => h.elim)
   case start => exact ⟨_, _, hbx3, OwnPV.nil _ _, hK3, HST.out, Nat.le_refl _⟩
   case m2 =>
    rintro x a' pre X Y row ⟨b6, h1, h2, h3⟩ hg hr
    have ck := CellsKept.of_grown hg (fun r e => (hr r e).2)
    exact ⟨b6, h1, ck _ _ _ _ h2, GM.own (x := x) hK3.size pre X Y row h3 hg hr⟩
   case assign =>
    intro l pre x W K hM hK
    obtain ⟨TA, TC, hx2⟩ : ∃ TA TC, x.2 = .slice TA x.1.2.length TC := by
     obtain ⟨v, N, h1, h2, h3, h4, h5, h6, h7, h8, h9, h10⟩ := hM
     exact owns_slice h9
    obtain ⟨⟨xt, xb⟩, xv⟩ := x
    simp only at hx2
    subst hx2
    have HK := hide (hK _ (W.alloc (.cells #[.int .u8 (xt : Nat), .slice TA xb.length TC] 40)) (KeepsOthers.alloc _ _) (fun k _ c t f hx => (Below.heap_alloc _ _ _ (block_lt hx)).trans hx) ⟨W.heap.size, rfl, heap_alloc_new _ _, (GM.own (x := ((xt, xb), .slice TA xb.length TC)) hK3.size).alloc _ hM⟩)
    clear hM hK hstop
    simp only [encP]
    gi_wp2
    exact HK.out
   case body =>
    rintro l pre x a' W ⟨b6, rfl, hb6, hM⟩
    obtain ⟨i0, hi, hq0, hq1, hq2⟩ := info_parts info_part
    have HM0 := hide hM
    obtain ⟨v, N, h1, h2, h3, h4, h5, h6, h7, h8, h9, h10, hlp⟩ := hM
    obtain ⟨TA, TC, hx2⟩ := owns_slice h9
    obtain ⟨⟨xt, xb⟩, xv⟩ := x
    simp only at hx2 hb6 h9 h10
    subst hx2
    obtain ⟨c0, c1, cf0, cf1⟩ := cells2 hb6
    obtain ⟨d0, df0⟩ := cells1 h1
    obtain ⟨VA, VC, rfl⟩ := owns_slice h2.1
    obtain ⟨Wa, hWa⟩ : ∃ Wa, W.alloc (.cells #[.int .u8 (xt : Nat), .slice TA xb.length TC] 40) = Wa := ⟨_, rfl⟩
    have hKa : Kept (fun _ => False) W Wa := by rw [← hWa]; exact Kept.of_below (below_alloc _ _)
    have hna : Wa.heap[W.heap.size]? = some (.cells #[.int .u8 (xt : Nat), .slice TA xb.length TC] 40 (0, 0)) := by rw [← hWa]; exact heap_alloc_new _ _
    have hnews := cells_part2 Wa W.heap.size xt _ _ hna
    have howna := owns_keptS h2.1 hKa (fun _ _ h => h)
    have hrl := (RSt.size h4)
    have hsa : W3.heap.size ≤ Wa.heap.size := by have := hKa.size; omega
    have hone : ∀ u ∈ [Value.int .u8 (xt : Nat), Value.slice TA xb.length TC], u.oneCell' = true := by
     intro u hu
     simp at hu
     rcases hu with rfl | rfl <;> rfl
    have hda : Wa.cell? ⟨w1.heap.size, 0, none⟩ = some (.slice VA pre.length VC) := hKa.cell d0 (fun h => h)
    have hdf : Wa.frozen? ⟨w1.heap.size, 0, none⟩ = false := hKa.unfrozen d0 (fun h => h) df0
    have HD := hide (And.intro h1 (And.intro h2 (And.intro h3 (And.intro h4 (And.intro h9 h10)))))
    have HN := hide (And.intro h5 (And.intro h6 (And.intro h7 h8)))
    have HKa := hide hKa
    have HNA := hide hna
    clear h1 h2 h3 h4 h5 h6 h7 h8 h9 h10 hKa hna hstop hb6
    gi_wp2_with (gi_at_builtin; refine listIn_appendS _ rfl (.tmp 19) (.tmp 21) 41 rfl 40 i0 (.agg #[.int .u8 0, .slice none 0 0]) 2 32 Tryz.underlying41 hi hq0 hq1 hq2 rfl (by omega) W3.heap.size (.slice VA pre.length VC) pre.length (pcells pre) rfl howna ⟨W.heap.size, 0, none⟩ 1 1 [.int .u8 (xt : Nat), .slice TA xb.length TC] rfl rfl hnews hone (by unfold maxLen; omega) (by omega) hsa ?_; intro A' C' wb hown hg ho; have e0 := (hg.kept (F := fun k => k ≠ w1.heap.size) (fun g hgb e => by subst e; exact owns_tyne howna (HKa.out.heap HD.out.1 (fun h => h)) (by decide) hgb)).cell hda (fun h => h rfl); have ef0 := (hg.kept (F := fun k => k ≠ w1.heap.size) (fun g hgb e => by subst e; exact owns_tyne howna (HKa.out.heap HD.out.1 (fun h => h)) (by decide) hgb)).unfrozen hda (fun h => h rfl) hdf)
    obtain ⟨h1, h2, h3, h4, h9, h10⟩ := HD.out
    obtain ⟨h5, h6, h7, h8⟩ := HN.out
    have hN0o : ∀ g, (Value.slice VA pre.length VC).ownBlock = some g → g ≠ w1.heap.size := fun g hgb e => by subst e; exact owns_tyne h2.1 h1 (by decide) hgb
    have hKb : Kept (fun k => (Value.slice VA pre.length VC).ownBlock = some k ∨ k = w1.heap.size) W (wb.setCell ⟨w1.heap.size, 0, none⟩ (.slice A' (pre.length + 1) C')) :=
     ((HKa.out.mono (G := fun k => (Value.slice VA pre.length VC).ownBlock = some k ∨ k = w1.heap.size) (fun _ _ h => h.elim)).trans (hg.kept (F := fun k => (Value.slice VA pre.length VC).ownBlock = some k ∨ k = w1.heap.size) (fun _ h => .inl h)) (fun _ _ h => h)).setCell (.inl (.inr rfl)) _
    have hob : ∀ g, (Value.slice VA pre.length VC).ownBlock = some g → W3.heap.size ≤ g := fun g hgb => (owns_cells h2.1 g hgb).2.1
    have hbb : wb.heap[w1.heap.size]? = some (.cells #[.slice VA pre.length VC] 41 (0, 0)) := (hg.kept (F := fun k => k ≠ w1.heap.size) (fun g hgb => hN0o g hgb)).heap (HKa.out.heap h1 (fun h => h)) (fun h => h rfl)
    have hKc : Kept (fun k => k = w1.heap.size) wb (wb.setCell ⟨w1.heap.size, 0, none⟩ (.slice A' (pre.length + 1) C')) := (Kept.refl (fun k => k = w1.heap.size) wb).setCell (.inl rfl) _
    refine ⟨hKb.keepsOthers, fun k hk c t f hx => hKb.heap hx (fun hh => ?_), ⟨.slice A' (pre.length + 1) C', N, heap_setCell_same _ w1.heap.size 0 _ _ _ hbb, ⟨?_, ?_, ?_⟩, h3.trans hKb (fun k hk hh => ?_), h4.kept hKb (fun k hk hh => ?_), by have := hKb.size; omega⟩⟩
    ·rcases hk with hk | hk | ⟨o, s, hk⟩
     ·rcases hh with hh | hh
      ·have := hob k hh; omega
      ·omega
     ·rcases hh with hh | hh
      ·have := hob k hh; omega
      ·omega
     ·have hx1 := hAw k o s hk
      rcases hh with hh | hh
      ·have := hob k hh; omega
      ·omega
    ·rw [pcells_append, List.length_append]
     exact owns_keptS hown hKc (fun g hgb e => by subst e; exact owns_tyne hown hbb (by decide) hgb)
    ·intro y hy
     rcases List.mem_append.1 hy with hy | hy
     ·refine ⟨owns_kept (h2.2.1 y hy).1 hKb (fun g hgb hh => ?_), (h2.2.1 y hy).2⟩
      rcases hh with hh | hh
      ·exact owns_apart h2.1 (h2.2.1 y hy).1 (by decide) g hh hgb
      ·subst hh; exact owns_tyne (h2.2.1 y hy).1 h1 (by decide) hgb
     ·have hy' : y = ((xt, xb), .slice TA xb.length TC) := by simpa using hy
      subst hy'
      refine ⟨owns_lower (owns_kept h9 hKb (fun g hgb hh => ?_)) h6, h10⟩
      rcases hh with hh | hh
      ·exact owns_apart h2.1 h9 (by decide) g hh hgb
      ·subst hh; exact owns_tyne h9 h1 (by decide) hgb
    ·refine List.pairwise_append.2 ⟨h2.2.2, List.pairwise_singleton _ _, fun y hy z hz g hgb hgz => ?_⟩
     have hz' : z = ((xt, xb), .slice TA xb.length TC) := by simpa using hz
     subst hz'
     have := h8 y hy g hgb
     have := (owns_cells h9 g hgz).2.1
     omega
    ·rcases hh with hh | hh
     ·have := hob k hh; omega
     ·omega
    ·rcases hh with hh | hh
     ·refine ⟨fun e => ?_, h7 k hh⟩
      have := hob k hh; omega
     ·exact ⟨by omega, by omega⟩
   case done =>
    rintro D xs X hD hE hKD
    obtain ⟨v, N, h1, h2, h3, h4⟩ := hE
    have hM : Marks w.heap.size [{ target := .collected D, args := #[] }] X := ⟨⟨D, rfl, by have := hK3.size; omega, hKD, fun _ h => by cases h⟩, trivial⟩
    have hXs := h3.size
    obtain ⟨d0, df0⟩ := cells1 h1
    clear hstop h1
    rcases h4 with ⟨h4, pv', a, b, S, hp, _, hRP, hS⟩ | ⟨h4, pv', a, b, S, hp, _, hRP, hS⟩
    ·have hend : ∀ tmps : Array Value, tmps.getD 2 undef = v → tmps.getD 3 undef = .int .i64 0 →
       LeavesInM Fence.wide n Tryz.prog Tryz.f55 tmps (fun e w' => ∃ v xs, e = .returned (.tuple #[v, .int .i64 (errG (getP (midB L)))]) ∧ OwnPV w' w.heap.size v xs ∧ xs.map (fun x : PV => x.1) = (getP (midB L)).getD [] ∧ Below w.heap.size w w') [{ target := .collected D, args := #[] }] .returning X := by
      intro tmps e2 e3
      refine leaves_marks _ _ hM (fun w' ht => ⟨_, results_tmp2 rfl _ _ _, v, xs, ?_, (h2.cells ht.cells).lower hK3.size, ?_, (h3.turned ht).below (fun _ h => h.elim) (Nat.le_refl _)⟩)
      ·rw [e2, e3, h4]; rfl
      ·rw [h4]; rfl
     obtain ⟨c0, c1, c2, f0, f1, f2⟩ := cells3 hp
     have hok := callsIn_wide (n := n - 1).2 (ok_any pv' _ S X hRP)
     rw [hS] at hok
     clear hM h2 h3 h4 hp hRP
     gi_wp2
     refine ⟨trivial, fun _ => by omega, hok.mono ?_⟩
     rintro e w' ⟨rfl, rfl⟩
     gi_wp2
     exact hend _ rfl rfl
    ·have hend : ∀ tmps : Array Value, tmps.getD 2 undef = .slice none 0 0 → tmps.getD 3 undef = .int .i64 9 →
       LeavesInM Fence.wide n Tryz.prog Tryz.f55 tmps (fun e w' => ∃ v xs, e = .returned (.tuple #[v, .int .i64 (errG (getP (midB L)))]) ∧ OwnPV w' w.heap.size v xs ∧ xs.map (fun x : PV => x.1) = (getP (midB L)).getD [] ∧ Below w.heap.size w w') [{ target := .collected D, args := #[] }] .returning X := by
      intro tmps e2 e3
      refine leaves_marks _ _ hM (fun w' ht => ⟨_, results_tmp2 rfl _ _ _, .slice none 0 0, [], ?_, OwnPV.nil _ _, ?_, (h3.turned ht).below (fun _ h => h.elim) (Nat.le_refl _)⟩)
      ·rw [e2, e3, h4]; rfl
      ·rw [h4]; rfl
     obtain ⟨c0, c1, c2, f0, f1, f2⟩ := cells3 hp
     have hok := callsIn_wide (n := n - 1).2 (ok_any pv' _ S X hRP)
     rw [hS] at hok
     clear hM h2 h3 h4 hp hRP
     gi_wp2
     refine ⟨trivial, fun _ => by omega, hok.mono ?_⟩
     rintro e w' ⟨rfl, rfl⟩
     gi_wp2
     exact hend _ rfl rfl
theorem fget_any (A : Option Addr) (C m : Nat) (L : List Nat) (w : World) (hm : m = L.length) (h : SB w A C L) (hsz : m ≤ 1000000) :
  Calls Tryz.prog 55 #[.slice A m C] w fun e w' => ∃ v xs, e = .returned (.tuple #[v, .int .i64 (errG (getFile L))]) ∧ OwnPV w' w.heap.size v xs ∧ xs.map (fun x : PV => x.1) = (getFile L).getD [] ∧ Below w.heap.size w w' :=
 callsIn_wide.1 (fget_in 6 (by omega) A C m L w hm h hsz)
end Go.Proofs.YtppdbinppibjhaaGreatDoor
