/-
  The reference's Put.
-/
import Derived.Test.YtppdbinppibjhaaGreatDoorMRefR
import Derived.Test.YtppdbinppibjhaaGreatDoorMRights
import Derived.Test.YtppdbinppibjhaaGreatDoorMPut
import Derived.Test.YtppdbinppibjhaaGreatDoorFRPuts
import Derived.Test.YtppdbinppibjhaaGreatDoorMShAll
import Derived.Test.YtppdbinppibjhaaGreatDoorRows2
import Derived.Test.YtppdbinppibjhaaGreatDoorLentI
import Derived.Test.YtppdbinppibjhaaGreatDoorMAwake
import Derived.Test.YtppdbinppibjhaaGreatDoorAparts2
set_option maxHeartbeats 4000000
set_option maxRecDepth 100000
set_option linter.unusedVariables false
set_option linter.unusedSimpArgs false
namespace Go.Proofs.YtppdbinppibjhaaGreatDoor
open Go.RowKit Go.Shelf
def RSoloX (B p X : Nat) (S : Option (List Nat)) (N : Nat) (w : World) : Prop := ∃ F, RW w p F S N ∧ (∀ x, F x → B ≤ x ∧ x < w.heap.size ∧ x ≠ X) ∧ B ≤ w.heap.size ∧ X < w.heap.size
section
variable {B p X N : Nat} {S : Option (List Nat)} {w w' : World}
theorem RSoloX.of (h : RSolo B p S N w) (o : Obj) : RSoloX B p w.heap.size S N (w.alloc o) := by
 obtain ⟨F, h1, h2, h3⟩ := h
 exact ⟨F, h1.kept (Kept.of_below (F := fun _ => False) (below_alloc w o)) (fun _ _ h => h), fun x hx => by have := h2 x hx; simp; omega, by simp; omega, by simp⟩
theorem RSoloX.solo (h : RSoloX B p X S N w) : RSolo B p S N w := by
 obtain ⟨F, h1, h2, h3, _⟩ := h
 exact ⟨F, h1, fun x hx => ⟨(h2 x hx).1, (h2 x hx).2.1⟩, h3⟩
theorem RSoloX.mono (h : RSoloX B p X S N w) {M : Nat} (hN : N ≤ M) : RSoloX B p X S M w := by
 obtain ⟨F, h1, h2, h3⟩ := h
 exact ⟨F, h1.mono (fun _ h => h) hN, h2, h3⟩
theorem RSoloX.step {F : Nat → Prop} {S2 : Option (List Nat)} (h2 : ∀ x, F x → B ≤ x ∧ x < w.heap.size ∧ x ≠ X) (h3 : B ≤ w.heap.size) (hX : X < w.heap.size) (hw : RW w' p (Fnew F w w') S2 N) (hk : Kept F w w') : RSoloX B p X S2 N w' ∧ Kept (fun x => B ≤ x ∧ x ≠ X) w w' := by
 have hs := hk.size
 refine ⟨⟨_, hw, fun x hx => ?_, by omega, by omega⟩, hk.mono (fun x _ hx => ⟨(h2 x hx).1, (h2 x hx).2.2⟩)⟩
 rcases hx with hx | hx
 ·have := h2 x hx; omega
 ·exact ⟨by omega, hx.2, by omega⟩
theorem rsx_num (x : Int) (h : RSoloX B p X S N w) (hx : (Lit.int .i64 x).wf = true) (hN : N + 6 ≤ 140737488355328) :
  Calls Tryz.prog 29 #[.pointer (some ⟨p, 0, none⟩), .int .i64 x] w fun e w' => e = .returned (.tuple #[]) ∧ RSoloX B p X (putNum S x) (N + 6) w' ∧ Kept (fun x => B ≤ x ∧ x ≠ X) w w' := by
 obtain ⟨F, h1, h2, h3, h4⟩ := h
 exact (refNumber_any p F S N x w h1 (fun k hk => (h2 k hk).2.1) hx hN).mono fun e w' ⟨he, hw, hk⟩ => ⟨he, RSoloX.step h2 h3 h4 hw hk⟩
theorem rsx_fix (n : Nat) (h : RSoloX B p X S N w) (hn : n < 4294967296) (hN : N + 6 ≤ 140737488355328) :
  Calls Tryz.prog 30 #[.pointer (some ⟨p, 0, none⟩), .int .u32 n] w fun e w' => e = .returned (.tuple #[]) ∧ RSoloX B p X (putRaw S (fixB n)) (N + 4) w' ∧ Kept (fun x => B ≤ x ∧ x ≠ X) w w' := by
 obtain ⟨F, h1, h2, h3, h4⟩ := h
 exact (refFixed_any p F S N n w h1 (fun k hk => (h2 k hk).2.1) hn hN).mono fun e w' ⟨he, hw, hk⟩ => ⟨he, RSoloX.step h2 h3 h4 hw hk⟩
theorem rsx_rise (a : Option Addr) (n cap : Nat) (f : Nat → Int) (h : RSoloX B p X S N w) (had : ∀ g off s, a = some ⟨g, off, s⟩ → 0 < n → g < B) (hf : ∀ i, (Lit.int .i64 (f i)).wf = true) (hN : N + 6 + 6 * n ≤ 140737488355328) (hb : Ints w a n f) :
  Calls Tryz.prog 31 #[.pointer (some ⟨p, 0, none⟩), .slice a n cap] w fun e w' => e = .returned (.tuple #[]) ∧ RSoloX B p X (putRising S f n) (N + 6 + 6 * n) w' ∧ Kept (fun x => B ≤ x ∧ x ≠ X) w w' := by
 obtain ⟨F, h1, h2, h3, h4⟩ := h
 exact (refRising_any p F S N a n cap f w h1 (fun k hk => (h2 k hk).2.1) (fun g off s e h0 hg => by have := had g off s e h0; have := h2 g hg; omega) hf hN hb).mono fun e w' ⟨he, hw, hk⟩ => ⟨he, RSoloX.step h2 h3 h4 hw hk⟩
end
theorem getD_wf {D : List Int} (h : ∀ d ∈ D, (Lit.int .i64 d).wf = true) (i : Nat) : (Lit.int .i64 (D.getD i 0)).wf = true := by
 rw [List.getD_eq_getElem?_getD]
 by_cases hi : i < D.length
 ·rw [List.getElem?_eq_getElem hi]; exact h _ (List.getElem_mem hi)
 ·rw [List.getElem?_eq_none (by omega)]; decide
theorem ints_B {B n : Nat} {w w' : World} {a : Option Addr} {f : Nat → Int} (hB : Below B w w') (h : Ints w a n f) (had : ∀ g off s, a = some ⟨g, off, s⟩ → 0 < n → g < B) : Ints w' a n f := by
 rcases h with h | ⟨b, off, rfl, hc⟩
 ·exact .inl h
 ·exact .inr ⟨b, off, rfl, fun i hi => (hB.cell (p := ⟨b, off + i, none⟩) (had b off none rfl (by omega))).trans (hc i hi)⟩
theorem refPutM_any (G : Int) (a : Option Addr) (n cap : Nat) (P : Nat → Shd) (w : World) (hn : n ≤ 140737488351232) (hG : (Lit.int .i64 G).wf = true) (hP : Shds w a n P) (hD : ∀ i, i < n → (P i).D.length ≤ 140737488351232) (hsz : rightM ⟨G, stsN P n⟩ = true → (partM ⟨G, stsN P n⟩).length ≤ 890000) :
  Calls Tryz.prog 13 #[.agg #[.int .i64 G, .slice a n cap]] w fun e w' => (if rightM ⟨G, stsN P n⟩ = true then ∃ v, e = .returned (.tuple #[v, .int .i64 0]) ∧ w'.ownsRow w.heap.size 5 1 v (fileM ⟨G, stsN P n⟩).length (lc (fileM ⟨G, stsN P n⟩)) else e = .returned (.tuple #[.slice none 0 0, .int .i64 2])) ∧ Below w.heap.size w w' := by
 obtain ⟨W1, hW1⟩ : ∃ W1, w.alloc (.cells #[.int .i64 G, .slice a n cap] 24) = W1 := ⟨_, rfl⟩
 have hb1 : Below w.heap.size w W1 := by rw [← hW1]; exact below_alloc _ _
 have hs1 : W1.heap.size = w.heap.size + 1 := by rw [← hW1]; simp
 have h1 : W1.heap[w.heap.size]? = some (.cells #[.int .i64 G, .slice a n cap] 24 (0, 0)) := by rw [← hW1]; exact heap_alloc_new _ _
 obtain ⟨m0, m1⟩ := cells2_at h1
 have hrr := refRightM_any G a n cap P W1 hn hG (hP.below hb1) hD
 have hSt := stsN_S hP
 obtain ⟨mm, hmm⟩ : ∃ mm : MT, mm = ⟨G, stsN P n⟩ := ⟨_, rfl⟩
 rw [← hmm] at hrr hsz ⊢
 have HW := hide hW1
 have H1 := hide (And.intro hb1 (And.intro hs1 (And.intro (hP.below hb1) (And.intro m0 m1))))
 have HM := hide (And.intro hmm (And.intro hsz (And.intro hSt (And.intro hG (And.intro hn hP)))))
 clear hW1 hb1 hs1 h1 hmm hsz hSt hP
 go_enter Tryz.func13, Tryz.ntmps13
 go_wp2_with fail
 rw [HW.out]
 refine hrr.mono ?_
 rintro e w2 ⟨rfl, hB2⟩
 have n0 := cell_thru m0 hB2
 have n1 := cell_thru m1 hB2
 by_cases hrt : rightM mm = true
 rotate_left
 ·have hrf : rightM mm = false := by simpa using hrt
  have HB := hide (below_thru H1.out.1 hB2)
  rw [hrf]
  clear hrr hB2 hD m0 m1
  go_wp2_with fail
  go_ret2
  exact ⟨rfl, HB.out⟩
 rw [hrt]
 simp only [if_true]
 obtain ⟨W3, hW3⟩ : ∃ W3, w2.alloc (.cells #[.slice none 0 0, .bool false] 57) = W3 := ⟨_, rfl⟩
 have hb3 : Below w2.heap.size w2 W3 := by rw [← hW3]; exact below_alloc _ _
 have hS0 := RSolo.fresh w2 w2.heap.size rfl
 rw [hW3] at hS0
 have q0 := cell_thru n0 hb3
 have q1 := cell_thru n1 hb3
 have hPq := (H1.out.2.2.1.below hB2)
 have hlt := hPq.lt
 have hDlt : ∀ i, i < n → ∀ g off s, (P i).pD = some ⟨g, off, s⟩ → 0 < (P i).D.length → g < w2.heap.size := fun i hi g off s e h0 => by
  obtain ⟨b, o, e', hc⟩ := (hPq.ok hi).bD.cell h0
  rw [e] at e'; cases e'
  exact block_lt_of_cell (hc 0 h0)
 have hok := rightM_ok hrt (by rw [HM.out.1]; exact HM.out.2.2.1)
 have hG0 : 0 ≤ G ∧ G ≤ maxNum ∧ n ≤ 40 := by
  obtain ⟨_, h1, h2, h3⟩ := hok
  rw [HM.out.1] at h1 h2 h3
  exact ⟨h1, h2, by simpa [stsN_length] using h3⟩
 have hall : ∀ i, i < n → okST (P i).st := fun i hi => hok.1 _ (by rw [HM.out.1]; exact List.mem_of_getElem? (stsN_get P n i hi))
 have hnG := rsolo_num G hS0 hG (by omega)
 rw [putNum_some [] G hG0.1 hG0.2.1, List.nil_append] at hnG
 have HW3 := hide hW3
 have HQ := hide (And.intro hG0 (And.intro hall (And.intro hDlt hlt)))
 have H3 := hide (And.intro (below_thru (below_thru H1.out.1 hB2) hb3) (And.intro (hPq.below hb3) (And.intro q0 (And.intro q1 (And.intro (by have := hB2.size; have := H1.out.2.1; omega : w.heap.size < w2.heap.size) hb3.size)))))
 rw [← hW3] at q0 q1
 clear hrr hB2 m0 m1 n0 n1 hW3 hb3 hS0 hPq hlt hDlt hok hG0 hall hD
 go_wp2_with fail
 rw [HW3.out]
 refine hnG.mono ?_
 rintro e w4 ⟨rfl, hS4, hB4⟩
 have hbw4 : Below w2.heap.size W3 w4 := hB4
 have cellB : ∀ {o : Nat} {v : Value} {Wa Wb : World}, Below w2.heap.size Wa Wb → Wa.cell? ⟨w.heap.size, o, none⟩ = some v → Wb.cell? ⟨w.heap.size, o, none⟩ = some v := fun hB h => (hB.cell (p := ⟨w.heap.size, _, none⟩) H3.out.2.2.2.2.1).trans h
 have r1 := cellB hB4 H3.out.2.2.2.1
 have hnn := rsolo_num (n : Int) hS4 (wf64 (by omega) (by have := HQ.out.1; omega)) (by omega)
 rw [putNum_some _ (n : Int) (by omega) (by have := HQ.out.1; unfold maxNum; omega), show ((n : Int)).toNat = n from by simp] at hnn
 have H4 := hide hB4
 clear hnG hS4 hB4 hbw4 q0 q1
 go_wp2_with fail
 refine hnn.mono ?_
 rintro e w5 ⟨rfl, hS5, hB5⟩
 have hB35 : Below w2.heap.size W3 w5 := H4.out.trans hB5
 have hP5 : ∀ W, Below w2.heap.size W3 W → w2.heap.size ≤ W.heap.size := fun W hW => by have := H3.out.2.2.2.2.2; have := hW.size; omega
 have H5 := hide (And.intro hS5 hB35)
 clear hnn r1 hS5 hB5 hB35
 go_wp2_with fail
 go_loopg [5] n (fun q s5 wr => ∃ k : Nat, k + q = n ∧ s5 = .int .i64 k ∧ RSolo w2.heap.size w2.heap.size (some (encN G.toNat ++ (encN n ++ bodyS (stsN P k)))) (12 + 24022 * k) wr ∧ Below w2.heap.size W3 wr)
 case atStart =>
  refine ⟨0, by omega, rfl, ?_, H5.out.2⟩
  rw [show stsN P 0 = [] from rfl, show bodyS [] = [] from rfl, List.append_nil]
  exact H5.out.1.mono (by omega)
 case round =>
  obtain ⟨k, hkq, rfl, hR, hbr⟩ := hrel
  have z0 := cellB hbr H3.out.2.2.1
  have z1 := cellB hbr H3.out.2.2.2.1
  have HR := hide (And.intro hR hbr)
  cases gk with
  | zero =>
    obtain rfl : k = n := by omega
    have hp : partM mm = encN G.toNat ++ (encN k ++ bodyS (stsN P k)) := by
     rw [HM.out.1]
     show encN G.toNat ++ (encN (stsN P k).length ++ _) = _
     rw [stsN_length]
    obtain ⟨F, hF, _, _⟩ := hR
    have hby := refBytes_any _ F _ _ wr hF (by have := HQ.out.1; omega)
    simp only [szO, hasO] at hby
    rw [← hp] at hby
    have hbw := below_thru H3.out.1 (Below.refl _ W3)
    clear hp hF
    go_wp2_with fail
    refine hby.mono ?_
    rintro e w6 ⟨v6, rfl, ho6, hB6⟩
    obtain ⟨_, A6, C6, rfl, hs6, _⟩ := SB.own ho6 (partM_lt mm)
    obtain ⟨W7, hW7⟩ : ∃ W7, w6.alloc (.cells #[.int .u8 1, .slice A6 (partM mm).length C6] 40) = W7 := ⟨_, rfl⟩
    have hb7 : Below w6.heap.size w6 W7 := by rw [← hW7]; exact below_alloc _ _
    have h7 : W7.heap[w6.heap.size]? = some (.cells #[.int .u8 1, .slice A6 (partM mm).length C6] 40 (0, 0)) := by rw [← hW7]; exact heap_alloc_new _ _
    have hs7 := hs6.below hb7
    have hPr : Prts W7 (some ⟨w6.heap.size, 0, none⟩) 1 (fun _ => ⟨1, partM mm, A6, C6⟩) := by
     refine .inr ⟨_, 0, rfl, fun i hi => ?_⟩
     obtain rfl : i = 0 := by omega
     obtain ⟨c0, c1⟩ := cells2_at h7
     exact ⟨⟨c0, c1⟩, ⟨show (1 : Nat) < 256 by omega, hs7.l, hs7.m, hs7.n, hs7.o, hs7.b⟩⟩
    have hfp := refPut_any _ 1 1 _ W7 hPr (by omega) (by
     show sizeB [(1, partM mm)] ≤ 900000
     have h1 := HM.out.2.1 hrt
     have h2 := encN_len6 (n := (partM mm).length) (by unfold maxNum; omega)
     simp only [sizeB, bodyB, List.length_append, List.length_nil, partB, headP, List.length_cons]
     omega)
    rw [show pts (fun _ => (⟨1, partM mm, A6, C6⟩ : Prt)) 1 = [(1, partM mm)] from rfl, ← fileB_len, show fileB [((1, partM mm) : PT)] = fileM mm from rfl] at hfp
    have hwr : Below w.heap.size w wr := H3.out.1.trans (hbr.mono (by have := H3.out.2.2.2.2.1; omega))
    have HW7 := hide hW7
    have H7 := hide (below_thru (below_thru hwr hB6) hb7)
    clear hby ho6 hs6 hB6 hb7 h7 hs7 hPr hW7 hwr hbr z0 z1
    go_wp2_with fail
    rw [HW7.out]
    refine hfp.mono ?_
    rintro e w8 ⟨v8, rfl, ho8, hB8⟩
    have H8 := hide (And.intro (owns_lower ho8 H7.out.size) (below_thru H7.out hB8))
    clear hfp ho8 hB8
    go_wp2_with fail
    go_ret2
    exact ⟨⟨v8, rfl, H8.out.1⟩, H8.out.2⟩
  | succ q =>
    have hkn : k < n := by omega
    have hkz : (k : Int) < (n : Int) := by omega
    have hk0 : (0 : Int) ≤ (k : Int) := by omega
    obtain ⟨ga, oa, rfl, ⟨x0, x1, x2, x3⟩, ok⟩ := H3.out.2.1.cells k hkn
    have hgl : ga < w2.heap.size := HQ.out.2.2.2 (by omega) ga ⟨oa, none, rfl⟩
    have x0' := (hbr.cell (p := ⟨ga, _, none⟩) hgl).trans x0
    have x1' := (hbr.cell (p := ⟨ga, _, none⟩) hgl).trans x1
    have x2' := (hbr.cell (p := ⟨ga, _, none⟩) hgl).trans x2
    have x3' := (hbr.cell (p := ⟨ga, _, none⟩) hgl).trans x3
    have hDl := HQ.out.2.2.1 k hkn
    have hbD := ints_B hbr ok.bD hDl
    have hokk := HQ.out.2.1 k hkn
    have hen : bodyS (stsN P (k + 1)) = bodyS (stsN P k) ++ encS (P k).st := by rw [stsN_succ, bodyS_snoc]
    rw [encS_st] at hen
    have hnew := RSoloX.of hR (.cells #[.int .i64 (P k).N, .int .i64 (P k).Z, .int .u32 ((P k).S : Nat), .slice (P k).pD (P k).D.length (P k).cD] 54)
    obtain ⟨W4, hW4⟩ : ∃ W4, wr.alloc (.cells #[.int .i64 (P k).N, .int .i64 (P k).Z, .int .u32 ((P k).S : Nat), .slice (P k).pD (P k).D.length (P k).cD] 54) = W4 := ⟨_, rfl⟩
    have h4 : W4.heap[wr.heap.size]? = some (.cells #[.int .i64 (P k).N, .int .i64 (P k).Z, .int .u32 ((P k).S : Nat), .slice (P k).pD (P k).D.length (P k).cD] 54 (0, 0)) := by rw [← hW4]; exact heap_alloc_new _ _
    obtain ⟨y0, y1, y2, y3⟩ := cells4_at h4
    have hbB4 : Below w2.heap.size wr W4 := by rw [← hW4]; exact (below_alloc wr _).mono (hP5 wr hbr)
    rw [hW4] at hnew
    obtain ⟨xs, hxs⟩ : ∃ xs, encN G.toNat ++ (encN n ++ bodyS (stsN P k)) = xs := ⟨_, rfl⟩
    have hen2 : xs ++ encN (P k).N.toNat ++ encN (P k).Z.toNat ++ fixB (P k).S ++ encRise (P k).D = encN G.toNat ++ (encN n ++ bodyS (stsN P (k + 1))) := by rw [← hxs, hen]; simp only [List.append_assoc]
    rw [hxs] at hnew
    obtain ⟨o1, o2, o3, o4, o5, o6⟩ := hokk
    have o1' : 0 ≤ (P k).N := o1
    have o2' : (P k).N ≤ maxNum := o2
    have o3' : 0 ≤ (P k).Z := o3
    have o4' : (P k).Z ≤ 67108864 := o4
    have o5' : (P k).S < 4294967296 := o5
    have o6' : upToR 3999 (-1) (P k).D = true := o6
    have hdl := dead_len o6'
    have hrs := putRising_l (xs ++ encN (P k).N.toNat ++ encN (P k).Z.toNat ++ fixB (P k).S) (by decide : (3999 : Int) ≤ maxNum) (by unfold maxNum; omega) o6'
    rw [hen2] at hrs
    have hk41 : k ≤ 40 := by have := HQ.out.1; omega
    have hnN := rsx_num (P k).N hnew ok.wN (by omega)
    rw [putNum_some xs _ o1' o2'] at hnN
    have hBW4 := hbr.trans (hbB4)
    have HY := hide (And.intro y0 (And.intro y1 (And.intro y2 y3)))
    have HD := hide (And.intro (ints_B hbB4 hbD hDl) (And.intro hDl (And.intro (getD_wf ok.wD) (And.intro hrs hBW4))))
    have HZ := hide (And.intro ok.wZ (And.intro o3' (And.intro o4' (And.intro o5' hdl))))
    have HW4 := hide hW4
    have y0l := y0
    rw [← hW4] at y0l
    clear hR hen hxs hen2 hnew o1 o2 o3 o4 o5 o6 o1' o2' o3' o4' o5' o6' hrs hW4 h4 y0 y1 y2 y3 hbB4 hBW4 hbD hDl hbr x0 x1 x2 x3 ok hdl hn
    obtain ⟨m, hm⟩ : ∃ m, (P k).D.length = m := ⟨_, rfl⟩
    rw [hm] at HW4 HY HZ HD x3' y0l
    clear hm
    generalize (P k).N = N at *
    generalize (P k).Z = Z5 at *
    generalize (P k).D = D at *
    generalize (P k).S = S at *
    generalize (P k).pD = pD at *
    generalize (P k).cD = cD at *
    go_wp2_with fail
    rw [HW4.out]
    refine hnN.mono ?_
    rintro e w5 ⟨rfl, hS5, hK5⟩
    have y0a := hK5.cell HY.out.1 (fun h => h.2 rfl)
    have y1a := hK5.cell HY.out.2.1 (fun h => h.2 rfl)
    have hnZ := rsx_num Z5 hS5 HZ.out.1 (by omega)
    rw [putNum_some _ _ HZ.out.2.1 (by have := HZ.out.2.2.1; unfold maxNum; omega)] at hnZ
    have H5 := hide hK5
    clear hnN hS5 hK5 y0l y0a
    go_wp2_with fail
    refine hnZ.mono ?_
    rintro e w6 ⟨rfl, hS6, hK6⟩
    have hK46 := H5.out.trans hK6 (fun _ _ h => h)
    have y2a := hK46.cell HY.out.2.2.1 (fun h => h.2 rfl)
    have hnS := rsx_fix S hS6 HZ.out.2.2.2.1 (by omega)
    have H6 := hide hK46
    clear hnZ hS6 hK6 hK46 y1a
    go_wp2_with fail
    refine hnS.mono ?_
    rintro e w7 ⟨rfl, hS7, hK7⟩
    have hK47 := H6.out.trans hK7 (fun _ _ h => h)
    have y3a := hK47.cell HY.out.2.2.2 (fun h => h.2 rfl)
    have hs4 : w2.heap.size ≤ W4.heap.size := hP5 W4 HD.out.2.2.2.2
    have hB47 : Below w2.heap.size W4 w7 := (hK47.mono (G := fun x => w2.heap.size ≤ x) (fun x _ h => h.1)).below (fun _ h => h) hs4
    have hnD := rsx_rise pD m cD (fun i => D.getD i 0) hS7 HD.out.2.1 HD.out.2.2.1 (by have := HZ.out.2.2.2.2; omega) (ints_B hB47 HD.out.1 HD.out.2.1)
    rw [show putRaw (some (xs ++ encN N.toNat ++ encN Z5.toNat)) (fixB S) = some (xs ++ encN N.toNat ++ encN Z5.toNat ++ fixB S) from rfl, HD.out.2.2.2.1] at hnD
    have H7 := hide hB47
    clear hnS hS7 hK7 hK47 y2a hB47 hs4
    go_wp2_with fail
    refine hnD.mono ?_
    rintro e w8 ⟨rfl, hS8, hK8⟩
    have hs7 : w2.heap.size ≤ w7.heap.size := hP5 w7 (HD.out.2.2.2.2.trans H7.out)
    have hB8 : Below w2.heap.size w7 w8 := (hK8.mono (G := fun x => w2.heap.size ≤ x) (fun x _ h => h.1)).below (fun _ h => h) hs7
    have H8 := hide (And.intro (hS8.solo.mono (M := 12 + 24022 * (k + 1)) (by have := HZ.out.2.2.2.2; omega)) (HD.out.2.2.2.2.trans (H7.out.trans hB8)))
    clear hnD hS8 hK8 hB8 y3a hs7
    go_wp2_with fail
    go_roundg q
    case measure => omega
    case rel => exact ⟨k + 1, by omega, by go_num, H8.out.1, H8.out.2⟩
open Go.RowKit
theorem cells2q {w : World} {p : Nat} {a b : Value} {t : TypeId} (h : w.heap[p]? = some (.cells #[a, b] t (0, 0))) :
  w.cell? ⟨p, 0, none⟩ = some a ∧ w.cell? ⟨p, 1, none⟩ = some b ∧ w.frozen? ⟨p, 0, none⟩ = false ∧ w.frozen? ⟨p, 1, none⟩ = false :=
 ⟨(cells2_at h).1, (cells2_at h).2, frozen_of_row _ _ _ _ _ h, frozen_of_row _ _ _ _ _ h⟩
theorem get_someE {t : Array Value} {s : Nat} {v : Value} (h : t.getD s undef = v) (hv : v ≠ undef) : t[s]? = some v := by
 rw [Array.getD_eq_getD_getElem?] at h
 cases e : t[s]? with
 | none => rw [e] at h; exact absurd h.symm hv
 | some u => rw [e] at h; exact congrArg some h
theorem cells4p {w : World} {p : Nat} {a b c d : Value} {t : TypeId} (h : w.heap[p]? = some (.cells #[a, b, c, d] t (0, 0))) :
  (w.cell? ⟨p, 0, none⟩ = some a ∧ w.cell? ⟨p, 1, none⟩ = some b ∧ w.cell? ⟨p, 2, none⟩ = some c ∧ w.cell? ⟨p, 3, none⟩ = some d) ∧ w.frozen? ⟨p, 0, none⟩ = false ∧ w.frozen? ⟨p, 1, none⟩ = false ∧ w.frozen? ⟨p, 2, none⟩ = false ∧ w.frozen? ⟨p, 3, none⟩ = false :=
 ⟨cells4_at h, frozen_of_row _ _ _ _ _ h, frozen_of_row _ _ _ _ _ h, frozen_of_row _ _ _ _ _ h, frozen_of_row _ _ _ _ _ h⟩
def dftS : Shd := ⟨0, 0, 0, [], none, 0⟩
def rcS : List Shd → List Value
 | [] => []
 | x :: r => .int .i64 x.N :: .int .i64 x.Z :: .int .u32 (x.S : Nat) :: .slice x.pD x.D.length x.cD :: rcS r
theorem rcS_append (a b : List Shd) : rcS (a ++ b) = rcS a ++ rcS b := by
 induction a with
 | nil => rfl
 | cons x a ih => simp [rcS, ih]
theorem rcS_get : ∀ (xs : List Shd) (i : Nat), i < xs.length → (rcS xs)[i * 4]? = some (.int .i64 (xs.getD i dftS).N) ∧ (rcS xs)[i * 4 + 1]? = some (.int .i64 (xs.getD i dftS).Z) ∧ (rcS xs)[i * 4 + 2]? = some (.int .u32 ((xs.getD i dftS).S : Nat)) ∧ (rcS xs)[i * 4 + 3]? = some (.slice (xs.getD i dftS).pD (xs.getD i dftS).D.length (xs.getD i dftS).cD)
 | [], i, h => by simp at h
 | x :: r, 0, _ => ⟨rfl, rfl, rfl, rfl⟩
 | x :: r, i + 1, h => by
   have := rcS_get r i (by simpa using h)
   simp only [rcS]
   rw [show (i + 1) * 4 = i * 4 + 1 + 1 + 1 + 1 from by omega]
   simpa using this
def LOneS (R : Nat) (W : World) (P Q : Shd) : Prop :=
 Q.N = P.N ∧ Q.Z = P.Z ∧ Q.S = P.S ∧ Q.D = P.D ∧ ∃ h, R < h ∧ Q.pD = some ⟨h, 0, none⟩ ∧ Q.cD = P.D.length + 12 ∧ IBlk W h (P.D.length + 12) (lentI (fun j => P.D.getD j 0) P.D.length)
def MOneS (i : Nat) (Q : Shd) : Prop := Q = ⟨markI i, 0, 0, [], none, 0⟩
theorem LOneS.kept {R : Nat} {W W' : World} {P Q : Shd} (h : LOneS R W P Q) (hk : Kept (fun k => k = R) W W') : LOneS R W' P Q := by
 obtain ⟨h0, h1, h2, h3, g, h4, h5, h6, h7⟩ := h
 exact ⟨h0, h1, h2, h3, g, h4, h5, h6, h7.kept hk (by show ¬ g = R; omega)⟩
def LentS (W : World) (R n : Nat) (P : Nat → Shd) (Qs : List Shd) : Prop :=
 Qs.length = n + 12 ∧ W.ownsRow R 54 4 (.slice (some ⟨R, 0, none⟩) (n + 12) (n + 12)) (n + 12) (rcS Qs) ∧ (∀ i, i < n → LOneS R W (P i) (Qs.getD i dftS)) ∧ ∀ i, i < 12 → MOneS i (Qs.getD (n + i) dftS)
theorem LentS.below {W W' : World} {R n : Nat} {P : Nat → Shd} {Qs : List Shd} (h : LentS W R n P Qs) (hb : Below W.heap.size W W') : LentS W' R n P Qs :=
 ⟨h.1, owns_thruS h.2.1 hb, fun i hi => (h.2.2.1 i hi).kept (Kept.of_below hb), h.2.2.2⟩
theorem markShard_any (i : Nat) (w : World) (hi : i < 1000) :
  Calls Tryz.prog 75 #[.int .i64 1, .int .i64 i] w fun e w' => e = .returned (.agg #[.int .i64 (markI i), .int .i64 0, .int .u32 0, .slice none 0 0]) ∧ Below w.heap.size w w' := by
 have hm := fun W : World => markI_any i W hi
 generalize markI i = z at hm ⊢
 have hS : (w.alloc (.cells #[.int .i64 z, .int .i64 0, .int .u32 0, .slice none 0 0] 54)).heap[w.heap.size]? = some (.cells #[.int .i64 z, .int .i64 0, .int .u32 0, .slice none 0 0] 54 (0, 0)) := heap_alloc_new _ _
 have HS := hide hS
 clear hS
 go_enter Tryz.func75, Tryz.ntmps75
 go_wp2_with (go_at_call 105; refine (hm _).mono ?_; rintro e w' ⟨rfl, rfl⟩)
 refine bodyPost_ret_by (results_cell_row rfl _ _ w.heap.size 54 #[.int .i64 z, .int .i64 0, .int .u32 0, .slice none 0 0] (0, 0) _ rfl HS.out Tryz.underlying54 rfl (by kernel_rfl)) rfl ⟨rfl, below_alloc w _⟩
theorem lentShard_any (N Z : Int) (S : Nat) (a : Option Addr) (len cap : Nat) (z : Nat → Int) (w : World) (hl : len ≤ 20000) (hn : a = none → cap = 0) (hlc : len ≤ cap) (hz : Ints w a len z) :
  Calls Tryz.prog 74 #[.agg #[.int .i64 N, .int .i64 Z, .int .u32 (S : Nat), .slice a len cap]] w fun e w' => ∃ g, e = .returned (.agg #[.int .i64 N, .int .i64 Z, .int .u32 (S : Nat), .slice (some ⟨g, 0, none⟩) len (len + 12)]) ∧ w.heap.size ≤ g ∧ IBlk w' g (len + 12) (lentI z len) ∧ Below w.heap.size w w' := by
 have hle := fun (W : World) (hW : Below w.heap.size w W) => lentInts_any a len cap z W hl hn hlc (hz.below hW)
 obtain ⟨W1, hW1⟩ : ∃ W1, w.alloc (.cells #[.int .i64 N, .int .i64 Z, .int .u32 (S : Nat), .slice a len cap] 54) = W1 := ⟨_, rfl⟩
 have hB1 : Below w.heap.size w W1 := by rw [← hW1]; exact below_alloc _ _
 have hs1 : W1.heap.size = w.heap.size + 1 := by rw [← hW1]; simp
 have h1 : W1.heap[w.heap.size]? = some (.cells #[.int .i64 N, .int .i64 Z, .int .u32 (S : Nat), .slice a len cap] 54 (0, 0)) := by rw [← hW1]; exact heap_alloc_new _ _
 obtain ⟨W2, hW2⟩ : ∃ W2, W1.alloc (.cells #[.int .i64 0, .int .i64 0, .int .u32 0, .slice none 0 0] 54) = W2 := ⟨_, rfl⟩
 have hB2 : Below W1.heap.size W1 W2 := by rw [← hW2]; exact below_alloc _ _
 have hs2 : W2.heap.size = W1.heap.size + 1 := by rw [← hW2]; simp
 have h2 : W2.heap[W1.heap.size]? = some (.cells #[.int .i64 0, .int .i64 0, .int .u32 0, .slice none 0 0] 54 (0, 0)) := by rw [← hW2]; exact heap_alloc_new _ _
 have h12 := (hB2.block _ (block_lt h1)).trans h1
 obtain ⟨⟨c0, c1, c2, c3⟩, f0, f1, f2, f3⟩ := cells4p h12
 have hB : Below w.heap.size w W2 := hB1.trans (hB2.mono hB1.size)
 have hl2 := hle W2 hB
 have H := hide (And.intro hs1 (And.intro hs2 (And.intro h12 (And.intro h2 hB))))
 clear hle h1 h2 h12 hs1 hs2 hz hB1 hB2 hB hn hlc
 go_enter Tryz.func74, Tryz.ntmps74
 go_wp2_with fail
 refine hl2.mono ?_
 rintro e w3 ⟨g, rfl, hg, hblk, hB3⟩
 obtain ⟨hs1, hs2, h12, h2, hB⟩ := H.out
 have k1 := (hB3.block _ (block_lt h12)).trans h12
 have k2 := (hB3.block _ (block_lt h2)).trans h2
 obtain ⟨⟨d0, d1, d2, d3⟩, g0, g1, g2, g3⟩ := cells4p k1
 obtain ⟨⟨e0, e1, e2, e3⟩, i0, i1, i2, i3⟩ := cells4p k2
 obtain ⟨w4, hw4⟩ : ∃ w4, w3.setCell ⟨w.heap.size, 3, none⟩ (.slice (some ⟨g, 0, none⟩) len (len + 12)) = w4 := ⟨_, rfl⟩
 have k4 : w4.heap[w.heap.size]? = some (.cells #[.int .i64 N, .int .i64 Z, .int .u32 (S : Nat), .slice (some ⟨g, 0, none⟩) len (len + 12)] 54 (0, 0)) := by rw [← hw4]; exact heap_setCell_same _ _ 3 _ _ _ k1
 have hK4 : Kept (fun k => k = w.heap.size) w3 w4 := by rw [← hw4]; exact (Kept.refl (fun k => k = w.heap.size) w3).setCell (.inl rfl) _
 have k24 := hK4.heap k2 (by show ¬ W1.heap.size = w.heap.size; omega)
 obtain ⟨⟨d0, d1, d2, d3⟩, g0, g1, g2, g3⟩ := cells4p k4
 obtain ⟨⟨e0, e1, e2, e3⟩, i0, i1, i2, i3⟩ := cells4p k24
 have HH := hide (And.intro hg (And.intro hblk (And.intro hB3 (And.intro hK4 (And.intro k24 k2)))))
 clear hl2 hs1 hs2 h12 h2 hB k1 k2 k4 hg hblk hB3 hK4 k24
 go_wp2_with fail
 obtain ⟨hg, hblk, hB3, hK4, k24, k2⟩ := HH.out
 obtain ⟨hs1, hs2, h12, h2, hB⟩ := H.out
 obtain ⟨w5, hw5⟩ : ∃ w5, (((w4.setCell ⟨W1.heap.size, 0, none⟩ (.int .i64 N)).setCell ⟨W1.heap.size, 1, none⟩ (.int .i64 Z)).setCell ⟨W1.heap.size, 2, none⟩ (.int .u32 (S : Nat))).setCell ⟨W1.heap.size, 3, none⟩ (.slice (some ⟨g, 0, none⟩) len (len + 12)) = w5 := ⟨_, rfl⟩
 have hS : w5.heap[W1.heap.size]? = some (.cells #[.int .i64 N, .int .i64 Z, .int .u32 (S : Nat), .slice (some ⟨g, 0, none⟩) len (len + 12)] 54 (0, 0)) := by
  rw [← hw5]
  exact heap_setCell_same _ _ 3 _ _ _ (heap_setCell_same _ _ 2 _ _ _ (heap_setCell_same _ _ 1 _ _ _ (heap_setCell_same _ _ 0 _ _ _ k24)))
 have hK5 : Kept (fun k => k = w.heap.size ∨ k = W1.heap.size) w3 w5 := by
  rw [← hw5]
  exact ((((hK4.mono (G := fun k => k = w.heap.size ∨ k = W1.heap.size) (fun _ _ h => .inl h)).setCell (.inl (.inr rfl)) _).setCell (.inl (.inr rfl)) _).setCell (.inl (.inr rfl)) _).setCell (.inl (.inr rfl)) _
 have hs2' := hB.size
 refine bodyPost_ret_by (results_cell_row rfl _ _ W1.heap.size 54 #[.int .i64 N, .int .i64 Z, .int .u32 (S : Nat), .slice (some ⟨g, 0, none⟩) len (len + 12)] (0, 0) _ rfl (by rw [hw5]; exact hS) Tryz.underlying54 rfl (by kernel_rfl)) rfl ⟨g, rfl, by omega, ?_, ?_⟩
 ·rw [hw5]
  exact hblk.kept hK5 (by show ¬ (g = w.heap.size ∨ g = W1.heap.size); omega)
 ·rw [hw5]
  exact ((Kept.of_below (F := fun k => w.heap.size ≤ k) hB).trans ((Kept.of_below (F := fun k => w.heap.size ≤ k) hB3).trans (hK5.mono (G := fun k => w.heap.size ≤ k) (fun k _ h => by rcases h with h | h <;> omega)) (fun _ _ h => h)) (fun _ _ h => h)).below (fun _ h => h) (Nat.le_refl _)
def LStS (w : World) (n : Nat) (P : Nat → Shd) (Qs : List Shd) (W : World) : Prop :=
 W.ownsRow w.heap.size 54 4 (.slice (some ⟨w.heap.size, 0, none⟩) Qs.length (n + 12)) Qs.length (rcS Qs) ∧ (∀ i, i < n → i < Qs.length → LOneS w.heap.size W (P i) (Qs.getD i dftS)) ∧ (∀ i, n + i < Qs.length → MOneS i (Qs.getD (n + i) dftS)) ∧ Below w.heap.size w W
theorem LStS.below {w W W' : World} {n : Nat} {P : Nat → Shd} {Qs : List Shd} (h : LStS w n P Qs W) (hb : Below W.heap.size W W') : LStS w n P Qs W' :=
 ⟨owns_thruS h.1 hb, fun i hi hj => (h.2.1 i hi hj).kept (Kept.of_below hb), h.2.2.1, h.2.2.2.trans (hb.mono h.2.2.2.size)⟩
theorem getDS_left {l m : List Shd} {i : Nat} (h : i < l.length) : (l ++ m).getD i dftS = l.getD i dftS := by
 rw [List.getD_eq_getElem?_getD, List.getD_eq_getElem?_getD, List.getElem?_append_left h]
theorem getDS_last {l : List Shd} {x : Shd} {i : Nat} (h : i = l.length) : (l ++ [x]).getD i dftS = x := by
 subst h
 rw [List.getD_eq_getElem?_getD, List.getElem?_append_right (Nat.le_refl _), Nat.sub_self]
 rfl
theorem LStS.add {w W W' : World} {n : Nat} {P : Nat → Shd} {Qs : List Shd} {Q : Shd} (h : LStS w n P Qs W) (hg : W.grownBy W' (some w.heap.size)) (ho : W'.ownsRow w.heap.size 54 4 (.slice (some ⟨w.heap.size, 0, none⟩) (Qs.length + 1) (n + 12)) (Qs.length + 1) (rcS Qs ++ [.int .i64 Q.N, .int .i64 Q.Z, .int .u32 (Q.S : Nat), .slice Q.pD Q.D.length Q.cD]))
  (hl : Qs.length < n → LOneS w.heap.size W (P Qs.length) Q) (hm : ∀ i, Qs.length = n + i → MOneS i Q) : LStS w n P (Qs ++ [Q]) W' := by
 have hK : Kept (fun k => k = w.heap.size) W W' := (Kept.refl (fun k => k = w.heap.size) W).grown hg (fun r e => by
  cases e
  refine .inl ⟨rfl, fun o ho' => ?_⟩
  obtain ⟨_, _, cur, hc⟩ := owns_cells h.1 w.heap.size rfl
  rw [hc] at ho'
  cases ho'
  rfl)
 have hlen : (Qs ++ [Q]).length = Qs.length + 1 := by simp
 refine ⟨?_, fun i hi hj => ?_, fun i hi => ?_, h.2.2.2.trans (hK.below (fun k e => by omega) h.2.2.2.size)⟩
 ·rw [hlen, rcS_append]
  exact ho
 ·rw [hlen] at hj
  by_cases e : i < Qs.length
  ·rw [getDS_left e]
   exact (h.2.1 i hi e).kept hK
  ·obtain rfl : i = Qs.length := by omega
   rw [getDS_last rfl]
   exact (hl hi).kept hK
 ·rw [hlen] at hi
  by_cases e : n + i < Qs.length
  ·rw [getDS_left e]
   exact h.2.2.1 i e
  ·have e2 : Qs.length = n + i := by omega
   rw [getDS_last e2.symm]
   exact hm i e2
theorem news4S {W : World} {g : Nat} {a b c d : Value} (h : W.heap[g]? = some (.cells #[a, b, c, d] 54 (0, 0))) : ∀ j u, [a, b, c, d][j]? = some u → W.cell? ((⟨g, 0, none⟩ : Addr).add j) = some u := shard_news W g a b c d _ h
theorem lentShards_any (a : Option Addr) (n cap : Nat) (P : Nat → Shd) (w : World) (hP : Shds w a n P) (hn : n ≤ 10000) (hl : ∀ i, i < n → (P i).D.length ≤ 10000) :
  Calls Tryz.prog 40 #[.slice a n cap] w fun e w' => e = .returned (.slice (some ⟨w.heap.size, 0, none⟩) n (n + 12)) ∧ (∃ Qs, LentS w' w.heap.size n P Qs) ∧ Below w.heap.size w w' := by
 obtain ⟨i0, hi, hq0, hq1, hq2⟩ := info_parts info_shard
 go_enter Tryz.func40, Tryz.ntmps40
 go_wp2_with (at_make; go_must (refine wpList_make_own _ rfl (.const (.int .i64 0)) (.tmp 9) 22 rfl w.heap.size 54 i0 (.agg #[.int .i64 0, .int .i64 0, .int .u32 0, .slice none 0 0]) 4 Tryz.underlying22 hi hq0 hq1 .i64 .i64 _ (n + 12) rfl rfl (by simp) (by rw [hq2]; omega) (by unfold maxLen; omega) (Nat.le_refl _) ?_); intro w1 hown1 hg1)
 have hS0 : LStS w n P [] w1 := ⟨hown1, (fun i _ h => by simp at h), (fun i h => by simp at h), below_grown hg1⟩
 clear hown1 hg1
 go_loopg [3, 4] n (fun q s3 s4 wr => ∃ (k : Nat) (Qs : List Shd), k + q = n ∧ s4 = .int .i64 k ∧ s3 = .slice (some ⟨w.heap.size, 0, none⟩) k (n + 12) ∧ Qs.length = k ∧ LStS w n P Qs wr)
 case atStart => exact ⟨0, [], by omega, rfl, rfl, rfl, hS0⟩
 case round =>
  obtain ⟨k, Qs, hkq, rfl, rfl, hQl, hSt⟩ := hrel
  clear hS0
  cases gk with
  | zero =>
    obtain rfl : k = n := by omega
    have HSt := hide (And.intro hSt hQl)
    clear hSt hQl hP hl
    go_wp2
    go_loopg [3, 6] 12 (fun q s3 s6 wr => ∃ (j : Nat) (Qs : List Shd), j + q = 12 ∧ s6 = .int .i64 j ∧ s3 = .slice (some ⟨w.heap.size, 0, none⟩) (k + j) (k + 12) ∧ Qs.length = k + j ∧ LStS w k P Qs wr)
    case atStart => exact ⟨0, Qs, by omega, rfl, by simp, by have := HSt.out.2; omega, HSt.out.1⟩
    case round =>
     obtain ⟨j, Qs2, hjq, rfl, rfl, hQl2, hSt2⟩ := hrel
     cases gk with
     | zero =>
       obtain rfl : j = 12 := by omega
       have HSt2 := hide (And.intro hSt2 hQl2)
       have hk0 : (0 : Int) ≤ (k : Int) := by omega
       have hk1 : (k : Int) ≤ (k : Int) + 12 := by omega
       clear hSt2 hQl2 hi hq0 hq1 hq2
       go_wp2
       go_ret
       obtain ⟨hS, hL⟩ := HSt2.out
       refine ⟨rfl, ⟨Qs2, hL, ?_, fun i hi => hS.2.1 i hi (by omega), fun i hi => hS.2.2.1 i (by omega)⟩, hS.2.2.2⟩
       have := hS.1
       rw [hL] at this
       exact this
     | succ q =>
       have hj0 : (0 : Int) ≤ (j : Int) := by omega
       have hjz : (j : Int) < 12 := by omega
       have hm := fun W : World => markShard_any j W (by omega)
       have HS2 := hide hSt2
       have HQ2 := hide hQl2
       clear hSt2 hQl2
       go_wp2_with (first
        | (go_at_call 75; refine (hm _).mono ?_; rintro e w' ⟨rfl, hbm⟩
           have HG := hide hbm
           have hS3 := (HS2.out.below hbm).below (below_alloc w' (.cells #[.int .i64 (markI j), .int .i64 0, .int .u32 0, .slice none 0 0] 54))
           have hown := hS3.1
           rw [HQ2.out] at hown
           have hnw := news4S (heap_alloc_new w' (.cells #[.int .i64 (markI j), .int .i64 0, .int .u32 0, .slice none 0 0] 54))
           have HS3 := hide hS3
           clear hbm hS3)
        | (at_builtin; go_must (refine wpList_append_fits _ rfl (.tmp 30) (.tmp 33) 22 rfl w.heap.size 54 i0 4 Tryz.underlying22 hi hq1 w.heap.size (k + j) (k + 12) (rcS Qs2) rfl hown ⟨w'.heap.size, 0, none⟩ 1 1 [.int .i64 (markI j), .int .i64 0, .int .u32 0, .slice none 0 0] rfl rfl hnw (by intro u hu; simp at hu; rcases hu with rfl | rfl | rfl | rfl <;> rfl) (by omega) ?_); intro w3 hown3 hg3))
       have hadd := HS3.out.add (Q := ⟨markI j, 0, 0, [], none, 0⟩) hg3 (by rw [HQ2.out]; exact hown3) (fun h => by have := HQ2.out; omega) (fun i hi => by
        obtain rfl : i = j := by have := HQ2.out; omega
        rfl)
       have HA := hide hadd
       clear hadd hown3 hg3 hown hnw
       go_roundg q
       case measure => omega
       case rel => exact ⟨j + 1, _, by omega, by go_num, by go_num, by rw [List.length_append, HQ2.out]; simp; omega, HA.out⟩
  | succ q =>
    have hkn : k < n := by omega
    have hkz : (k : Int) < (n : Int) := by omega
    have hk0 : (0 : Int) ≤ (k : Int) := by omega
    obtain ⟨b, off, rfl, ⟨e0, e1, e2, e3⟩, hok⟩ := (hP.below hSt.2.2.2).cells k hkn
    have hll := hl k hkn
    have hle := fun W hW => lentShard_any (P k).N (P k).Z (P k).S (P k).pD (P k).D.length (P k).cD (fun j => (P k).D.getD j 0) W (by omega) hok.nD hok.lD (hok.bD.below (w' := W) hW)
    clear hP hl
    have HS2 := hide hSt
    have HQ2 := hide hQl
    clear hSt hQl hok
    go_wp2_with (first
     | (go_at_call 74; refine (hle _ (Below.refl _ _)).mono ?_; rintro e w' ⟨g, rfl, hg, hblk, hbm⟩
        have HG := hide (And.intro hg (And.intro hblk hbm))
        have hb2 := below_step (below_alloc w' (.cells #[.int .i64 (P k).N, .int .i64 (P k).Z, .int .u32 ((P k).S : Nat), .slice (some ⟨g, 0, none⟩) (P k).D.length ((P k).D.length + 12)] 54)) (.cells #[.int .i64 (P k).N, .int .i64 (P k).Z, .int .u32 ((P k).S : Nat), .slice (some ⟨g, 0, none⟩) (P k).D.length ((P k).D.length + 12)] 54)
        have hS3 := (HS2.out.below hbm).below hb2
        have hown := hS3.1
        rw [HQ2.out] at hown
        have hnw := news4S (heap_alloc_new (w'.alloc (.cells #[.int .i64 (P k).N, .int .i64 (P k).Z, .int .u32 ((P k).S : Nat), .slice (some ⟨g, 0, none⟩) (P k).D.length ((P k).D.length + 12)] 54)) (.cells #[.int .i64 (P k).N, .int .i64 (P k).Z, .int .u32 ((P k).S : Nat), .slice (some ⟨g, 0, none⟩) (P k).D.length ((P k).D.length + 12)] 54))
        rw [World.size_alloc] at hnw
        have HS3 := hide (And.intro hS3 hb2)
        clear hg hblk hbm hS3 hb2)
     | (at_builtin; go_must (refine wpList_append_fits _ rfl (.tmp 22) (.tmp 24) 22 rfl w.heap.size 54 i0 4 Tryz.underlying22 hi hq1 w.heap.size k (n + 12) (rcS Qs) rfl hown ⟨w'.heap.size + 1, 0, none⟩ 1 1 [.int .i64 (P k).N, .int .i64 (P k).Z, .int .u32 ((P k).S : Nat), .slice (some ⟨g, 0, none⟩) (P k).D.length ((P k).D.length + 12)] rfl rfl hnw (by intro u hu; simp at hu; rcases hu with rfl | rfl | rfl | rfl <;> rfl) (by omega) ?_); intro w3 hown3 hg3))
    have hgr : w.heap.size < g := by
     have h1 := (owns_cells HS2.out.1 w.heap.size rfl).1
     have h2 := HG.out.1
     omega
    have hadd := HS3.out.1.add (Q := ⟨(P k).N, (P k).Z, (P k).S, (P k).D, some ⟨g, 0, none⟩, (P k).D.length + 12⟩) hg3 (by rw [HQ2.out]; exact hown3) (fun h => by
     rw [HQ2.out]
     exact ⟨rfl, rfl, rfl, rfl, g, hgr, rfl, rfl, HG.out.2.1.below HS3.out.2⟩) (fun i hi => by have := HQ2.out; omega)
    have HA := hide hadd
    clear hadd hown3 hg3 hown hnw hle
    go_roundg q
    case measure => omega
    case rel => exact ⟨k + 1, _, by omega, by go_num, rfl, by rw [List.length_append, HQ2.out]; simp, HA.out⟩
theorem LentS.kept {W W' : World} {R n : Nat} {P : Nat → Shd} {Qs : List Shd} {F : Nat → Prop} (h : LentS W R n P Qs) (hk : Kept F W W') (hF : ∀ k, F k → k < R) : LentS W' R n P Qs := by
 refine ⟨h.1, owns_keptS h.2.1 hk (fun g hg hf => by cases hg; exact absurd (hF _ hf) (Nat.lt_irrefl R)), fun i hi => ?_, h.2.2.2⟩
 obtain ⟨h0, h1, h2, h3, g, h4, h5, h6, h7⟩ := h.2.2.1 i hi
 exact ⟨h0, h1, h2, h3, g, h4, h5, h6, h7.kept hk (fun hf => by have := hF _ hf; omega)⟩
theorem LentS.shds {W : World} {R n : Nat} {P : Nat → Shd} {Qs : List Shd} (h : LentS W R n P Qs) (hok : ∀ i, i < n → (Lit.int .i64 (P i).N).wf = true ∧ (Lit.int .i64 (P i).Z).wf = true ∧ (P i).S < 4294967296 ∧ (∀ d ∈ (P i).D, (Lit.int .i64 d).wf = true) ∧ (P i).D.length ≤ 20000) : Shds W (some ⟨R, 0, none⟩) n (fun i => Qs.getD i dftS) := by
 refine .inr ⟨R, 0, rfl, fun i hi => ?_⟩
 obtain ⟨hl, ho, h1, _⟩ := h
 obtain ⟨e0, e1, e2, e3⟩ := rcS_get Qs i (by omega)
 have hc := ho.cells (g := R) rfl
 have c0 := hc _ _ e0
 have c1 := hc _ _ e1
 have c2 := hc _ _ e2
 have c3 := hc _ _ e3
 rw [add_none' _ rfl] at c0 c1 c2 c3
 simp only [Nat.zero_add] at c0 c1 c2 c3
 obtain ⟨q0, q1, q2, q3, g, h4, h5, h6, h7⟩ := h1 i hi
 obtain ⟨w1, w2, w3, w4, w5⟩ := hok i hi
 refine ⟨⟨by simpa using c0, by simpa [Nat.add_assoc] using c1, by simpa [Nat.add_assoc] using c2, by simpa [Nat.add_assoc] using c3⟩, ⟨by rw [q0]; exact w1, by rw [q1]; exact w2, by rw [q2]; exact w3, by rw [q3, h6]; omega, by rw [h6]; omega, by rw [h5]; exact (fun e => by cases e), .inr ⟨g, 0, h5⟩, by rw [q3]; exact w4, ?_⟩⟩
 rw [h5, q3]
 refine .inr ⟨g, 0, rfl, fun j hj => ?_⟩
 have := h7.cell (i := j) (by omega)
 rw [lentI, if_pos hj] at this
 rw [Nat.zero_add]
 exact this
theorem LentS.st {W : World} {R n : Nat} {P : Nat → Shd} {Qs : List Shd} (h : LentS W R n P Qs) (i : Nat) (hi : i < n) : (Qs.getD i dftS).st = (P i).st := by
 obtain ⟨h0, h1, h2, h3, _⟩ := h.2.2.1 i hi
 simp only [Shd.st, h0, h1, h2, h3]
theorem lentMani_any (G : Int) (a : Option Addr) (n cap : Nat) (P : Nat → Shd) (w : World) (hP : Shds w a n P) (hn : n ≤ 10000) (hl : ∀ i, i < n → (P i).D.length ≤ 10000) :
  Calls Tryz.prog 11 #[.agg #[.int .i64 G, .slice a n cap]] w fun e w' => ∃ R, e = .returned (.agg #[.int .i64 G, .slice (some ⟨R, 0, none⟩) n (n + 12)]) ∧ w.heap.size ≤ R ∧ (∃ Qs, LentS w' R n P Qs) ∧ Below w.heap.size w w' := by
 have hle := fun (W : World) (hW : Below w.heap.size w W) => lentShards_any a n cap P W (hP.below hW) hn hl
 obtain ⟨W1, hW1⟩ : ∃ W1, w.alloc (.cells #[.int .i64 G, .slice a n cap] 24) = W1 := ⟨_, rfl⟩
 have hB1 : Below w.heap.size w W1 := by rw [← hW1]; exact below_alloc _ _
 have hs1 : W1.heap.size = w.heap.size + 1 := by rw [← hW1]; simp
 have h1 : W1.heap[w.heap.size]? = some (.cells #[.int .i64 G, .slice a n cap] 24 (0, 0)) := by rw [← hW1]; exact heap_alloc_new _ _
 obtain ⟨W2, hW2⟩ : ∃ W2, W1.alloc (.cells #[.int .i64 0, .slice none 0 0] 24) = W2 := ⟨_, rfl⟩
 have hB2 : Below W1.heap.size W1 W2 := by rw [← hW2]; exact below_alloc _ _
 have hs2 : W2.heap.size = W1.heap.size + 1 := by rw [← hW2]; simp
 have h2 : W2.heap[W1.heap.size]? = some (.cells #[.int .i64 0, .slice none 0 0] 24 (0, 0)) := by rw [← hW2]; exact heap_alloc_new _ _
 have h12 := (hB2.block _ (block_lt h1)).trans h1
 obtain ⟨c0, c1, f0, f1⟩ := cells2q h12
 have hB : Below w.heap.size w W2 := hB1.trans (hB2.mono hB1.size)
 have hl2 := hle W2 hB
 have H := hide (And.intro hs1 (And.intro hs2 (And.intro h12 (And.intro h2 hB))))
 clear hle h1 h2 h12 hs1 hs2 hP hB1 hB2 hB hn hl
 go_enter Tryz.func11, Tryz.ntmps11
 go_wp2_with fail
 refine hl2.mono ?_
 rintro e w3 ⟨rfl, ⟨Qs, hQs⟩, hB3⟩
 obtain ⟨hs1, hs2, h12, h2, hB⟩ := H.out
 have k1 := (hB3.block _ (block_lt h12)).trans h12
 have k2 := (hB3.block _ (block_lt h2)).trans h2
 obtain ⟨d0, d1, g0, g1⟩ := cells2q k1
 obtain ⟨e0, e1, i0, i1⟩ := cells2q k2
 have hg : W2.heap.size ≤ W2.heap.size := Nat.le_refl _
 generalize hgR : W2.heap.size = R at hQs hg ⊢
 obtain ⟨w4, hw4⟩ : ∃ w4, w3.setCell ⟨w.heap.size, 1, none⟩ (.slice (some ⟨R, 0, none⟩) n (n + 12)) = w4 := ⟨_, rfl⟩
 have k4 : w4.heap[w.heap.size]? = some (.cells #[.int .i64 G, .slice (some ⟨R, 0, none⟩) n (n + 12)] 24 (0, 0)) := by rw [← hw4]; exact heap_setCell_same _ _ 1 _ _ _ k1
 have hK4 : Kept (fun k => k = w.heap.size) w3 w4 := by rw [← hw4]; exact (Kept.refl (fun k => k = w.heap.size) w3).setCell (.inl rfl) _
 have k24 := hK4.heap k2 (by show ¬ W1.heap.size = w.heap.size; omega)
 obtain ⟨d0, d1, g0, g1⟩ := cells2q k4
 obtain ⟨e0, e1, i0, i1⟩ := cells2q k24
 have HH := hide (And.intro hgR (And.intro hQs (And.intro hB3 (And.intro hK4 (And.intro k24 k2)))))
 clear hl2 hs1 hs2 h12 h2 hB k1 k2 k4 hg hgR hQs hB3 hK4 k24
 go_wp2_with fail
 obtain ⟨hgR, hQs, hB3, hK4, k24, k2⟩ := HH.out
 obtain ⟨hs1, hs2, h12, h2, hB⟩ := H.out
 obtain ⟨w5, hw5⟩ : ∃ w5, (w4.setCell ⟨W1.heap.size, 0, none⟩ (.int .i64 G)).setCell ⟨W1.heap.size, 1, none⟩ (.slice (some ⟨R, 0, none⟩) n (n + 12)) = w5 := ⟨_, rfl⟩
 have hS : w5.heap[W1.heap.size]? = some (.cells #[.int .i64 G, .slice (some ⟨R, 0, none⟩) n (n + 12)] 24 (0, 0)) := by
  rw [← hw5]
  exact heap_setCell_same _ _ 1 _ _ _ (heap_setCell_same _ _ 0 _ _ _ k24)
 have hK5 : Kept (fun k => k = w.heap.size ∨ k = W1.heap.size) w3 w5 := by
  rw [← hw5]
  exact ((hK4.mono (G := fun k => k = w.heap.size ∨ k = W1.heap.size) (fun _ _ h => .inl h)).setCell (.inl (.inr rfl)) _).setCell (.inl (.inr rfl)) _
 have hs2' := hB.size
 refine bodyPost_ret_by (results_cell_row rfl _ _ W1.heap.size 24 #[.int .i64 G, .slice (some ⟨R, 0, none⟩) n (n + 12)] (0, 0) _ rfl (by rw [hw5]; exact hS) Tryz.underlying24 rfl (by kernel_rfl)) rfl ⟨R, rfl, by omega, ⟨Qs, ?_⟩, ?_⟩
 ·rw [hw5]
  exact hQs.kept hK5 (fun k hk => by rcases hk with h | h <;> omega)
 ·rw [hw5]
  exact ((Kept.of_below (F := fun k => w.heap.size ≤ k) hB).trans ((Kept.of_below (F := fun k => w.heap.size ≤ k) hB3).trans (hK5.mono (G := fun k => w.heap.size ≤ k) (fun k _ h => by rcases h with h | h <;> omega)) (fun _ _ h => h)) (fun _ _ h => h)).below (fun _ h => h) (Nat.le_refl _)
open Go.RowKit
theorem keptShard_any (N Z : Int) (S l h pc : Nat) (D : Nat → Int) (pp : Option Addr) (w : World) (hL : l ≤ 20000) (hb : IBlk w h (l + 12) (lentI D l)) (hp : Ints w pp l D) :
  Calls Tryz.prog 82 #[.agg #[.int .i64 N, .int .i64 Z, .int .u32 (S : Nat), .slice (some ⟨h, 0, none⟩) l (l + 12)], .agg #[.int .i64 N, .int .i64 Z, .int .u32 (S : Nat), .slice pp l pc]] w fun e w' => e = .returned (.bool true) ∧ Below w.heap.size w w' := by
 obtain ⟨W1, hW1⟩ : ∃ W1, w.alloc (.cells #[.int .i64 N, .int .i64 Z, .int .u32 (S : Nat), .slice (some ⟨h, 0, none⟩) l (l + 12)] 54) = W1 := ⟨_, rfl⟩
 have hB1 : Below w.heap.size w W1 := by rw [← hW1]; exact below_alloc _ _
 have hs1 : W1.heap.size = w.heap.size + 1 := by rw [← hW1]; simp
 have h1 : W1.heap[w.heap.size]? = some (.cells #[.int .i64 N, .int .i64 Z, .int .u32 (S : Nat), .slice (some ⟨h, 0, none⟩) l (l + 12)] 54 (0, 0)) := by rw [← hW1]; exact heap_alloc_new _ _
 obtain ⟨W2, hW2⟩ : ∃ W2, W1.alloc (.cells #[.int .i64 N, .int .i64 Z, .int .u32 (S : Nat), .slice pp l pc] 54) = W2 := ⟨_, rfl⟩
 have hB2 : Below W1.heap.size W1 W2 := by rw [← hW2]; exact below_alloc _ _
 have h2 : W2.heap[W1.heap.size]? = some (.cells #[.int .i64 N, .int .i64 Z, .int .u32 (S : Nat), .slice pp l pc] 54 (0, 0)) := by rw [← hW2]; exact heap_alloc_new _ _
 have h12 := (hB2.block _ (block_lt h1)).trans h1
 have hB : Below w.heap.size w W2 := hB1.trans (hB2.mono hB1.size)
 obtain ⟨c0, c1, c2, c3⟩ := cells4_at h12
 obtain ⟨d0, d1, d2, d3⟩ := cells4_at h2
 have hbl : Ints w (some ⟨h, 0, none⟩) l D := by
  refine .inr ⟨h, 0, rfl, fun i hi => ?_⟩
  have := hb.cell (i := i) (by omega)
  unfold lentI at this
  rw [if_pos (by omega)] at this
  rw [Nat.zero_add]
  exact this
 have hsm := sameShard_any N Z S l D (some ⟨h, 0, none⟩) pp (l + 12) pc W2 (by omega) (hbl.below hB) (hp.below hB)
 have hkb := fun W hW => keptInts_any h pp l pc D W (by omega) (hb.below (w' := W) hW) (hp.below hW)
 have H := hide (And.intro h12 (And.intro h2 hB))
 clear hb hp hbl h1 h2 h12 hs1 hB1 hB2 hB
 go_enter Tryz.func82, Tryz.ntmps82
 go_wp2_with fail
 refine hsm.mono ?_
 rintro e w3 ⟨rfl, hB3⟩
 have hB23 := H.out.2.2.trans (hB3.mono H.out.2.2.size)
 have hk := hkb w3 hB23
 obtain ⟨c0, c1, c2, c3⟩ := cells4_at ((hB3.block _ (block_lt H.out.1)).trans H.out.1)
 obtain ⟨d0, d1, d2, d3⟩ := cells4_at ((hB3.block _ (block_lt H.out.2.1)).trans H.out.2.1)
 have H3 := hide hB23
 clear hkb hsm hB3 hB23
 go_wp2_with fail
 refine hk.mono ?_
 rintro e w4 ⟨rfl, hB4⟩
 go_wp2_with fail
 go_ret
 exact ⟨rfl, H3.out.trans (hB4.mono H3.out.size)⟩
abbrev keptS_mem (s : Nat) : Prop := s ∈ [23, 24, 25, 26, 27, 28, 29, 30, 31, 32, 33, 34, 35, 36, 37, 38, 39, 40, 41, 42, 43, 44, 45, 46, 47, 48, 49, 50, 51, 52, 53, 54, 55, 56, 57]
theorem keptS_list (s : Nat) (h : keptS_mem s) : s ∈ [23, 24, 25, 26, 27, 28, 29, 30, 31, 32, 33, 34, 35, 36, 37, 38, 39, 40, 41, 42, 43, 44, 45, 46, 47, 48, 49, 50, 51, 52, 53, 54, 55, 56, 57] := h
abbrev keptS_ops0 : Oper := ⟨some 23, .move (.tmp 6), 3, "lent.go:583", #[], none⟩
abbrev keptS_ops1 : Oper := ⟨some 24, .move (.tmp 1), 22, "lent.go:583", #[], none⟩
abbrev keptS_ops2 : Oper := ⟨some 25, .call ⟨.builtin .len, #[.tmp 24], #[22]⟩, 3, "lent.go:583", #[⟨1, .data⟩], none⟩
abbrev keptS_ops3 : Oper := ⟨some 26, .binOp .lss 3 (.tmp 23) (.tmp 25) 3, 4, "lent.go:583", #[⟨0, .data⟩, ⟨2, .data⟩], none⟩
abbrev keptS_ops4 : Oper := ⟨some 27, .move (.tmp 26), 4, "lent.go:583", #[⟨3, .data⟩], none⟩
abbrev keptS_ops5 : Oper := ⟨some 28, .move (.tmp 5), 22, "lent.go:583", #[⟨4, .guard⟩], some (4, true)⟩
abbrev keptS_ops6 : Oper := ⟨some 29, .move (.tmp 6), 3, "lent.go:583", #[⟨4, .guard⟩], some (4, true)⟩
abbrev keptS_ops7 : Oper := ⟨some 30, .indexAddr 22 (.tmp 28) (.tmp 29), 0, "lent.go:583", #[⟨5, .data⟩, ⟨6, .data⟩, ⟨4, .guard⟩], some (4, true)⟩
abbrev keptS_ops8 : Oper := ⟨some 31, .load 54 (.tmp 30), 54, "lent.go:583", #[⟨7, .data⟩, ⟨4, .guard⟩], some (4, true)⟩
abbrev keptS_ops9 : Oper := ⟨some 32, .move (.tmp 1), 22, "lent.go:583", #[⟨4, .guard⟩], some (4, true)⟩
abbrev keptS_ops10 : Oper := ⟨some 33, .move (.tmp 6), 3, "lent.go:583", #[⟨4, .guard⟩], some (4, true)⟩
abbrev keptS_ops11 : Oper := ⟨some 34, .indexAddr 22 (.tmp 32) (.tmp 33), 0, "lent.go:583", #[⟨9, .data⟩, ⟨10, .data⟩, ⟨4, .guard⟩], some (4, true)⟩
abbrev keptS_ops12 : Oper := ⟨some 35, .load 54 (.tmp 34), 54, "lent.go:583", #[⟨11, .data⟩, ⟨4, .guard⟩], some (4, true)⟩
abbrev keptS_ops13 : Oper := ⟨some 36, .call ⟨.value (.func 82), #[.tmp 31, .tmp 35], #[54, 54]⟩, 4, "lent.go:583", #[⟨8, .data⟩, ⟨12, .data⟩, ⟨4, .chain⟩, ⟨4, .guard⟩], some (4, true)⟩
abbrev keptS_ops14 : Oper := ⟨some 37, .unOp .not 4 (.tmp 36), 4, "lent.go:583", #[⟨13, .data⟩, ⟨4, .guard⟩], some (4, true)⟩
abbrev keptS_ops15 : Oper := ⟨some 38, .pick (.tmp 27) (.tmp 37) (.const (.bool false)), 4, "lent.go:583", #[⟨4, .data⟩, ⟨14, .data⟩], none⟩
abbrev keptS_ops16 : Oper := ⟨some 39, .move (.tmp 38), 4, "lent.go:583", #[⟨15, .data⟩, ⟨13, .chain⟩], none⟩
abbrev keptS_ops17 : Oper := ⟨some 40, .move (.tmp 6), 3, "lent.go:583", #[⟨16, .guard⟩], some (16, false)⟩
abbrev keptS_ops18 : Oper := ⟨some 41, .move (.tmp 1), 22, "lent.go:583", #[⟨16, .guard⟩], some (16, false)⟩
abbrev keptS_ops19 : Oper := ⟨some 42, .call ⟨.builtin .len, #[.tmp 41], #[22]⟩, 3, "lent.go:583", #[⟨18, .data⟩, ⟨16, .guard⟩], some (16, false)⟩
abbrev keptS_ops20 : Oper := ⟨some 43, .binOp .geq 3 (.tmp 40) (.tmp 42) 3, 4, "lent.go:583", #[⟨17, .data⟩, ⟨19, .data⟩, ⟨16, .guard⟩], some (16, false)⟩
abbrev keptS_ops21 : Oper := ⟨some 44, .move (.tmp 43), 4, "lent.go:583", #[⟨20, .data⟩, ⟨16, .chain⟩, ⟨16, .guard⟩], some (16, false)⟩
abbrev keptS_ops22 : Oper := ⟨some 45, .move (.tmp 5), 22, "lent.go:583", #[⟨21, .guard⟩], some (21, true)⟩
abbrev keptS_ops23 : Oper := ⟨some 46, .move (.tmp 6), 3, "lent.go:583", #[⟨21, .guard⟩], some (21, true)⟩
abbrev keptS_ops24 : Oper := ⟨some 47, .indexAddr 22 (.tmp 45) (.tmp 46), 0, "lent.go:583", #[⟨22, .data⟩, ⟨23, .data⟩, ⟨21, .guard⟩], some (21, true)⟩
abbrev keptS_ops25 : Oper := ⟨some 48, .load 54 (.tmp 47), 54, "lent.go:583", #[⟨24, .data⟩, ⟨21, .guard⟩], some (21, true)⟩
abbrev keptS_ops26 : Oper := ⟨some 49, .move (.tmp 6), 3, "lent.go:583", #[⟨21, .guard⟩], some (21, true)⟩
abbrev keptS_ops27 : Oper := ⟨some 50, .move (.tmp 1), 22, "lent.go:583", #[⟨21, .guard⟩], some (21, true)⟩
abbrev keptS_ops28 : Oper := ⟨some 51, .call ⟨.builtin .len, #[.tmp 50], #[22]⟩, 3, "lent.go:583", #[⟨27, .data⟩, ⟨21, .guard⟩], some (21, true)⟩
abbrev keptS_ops29 : Oper := ⟨some 52, .binOp .sub 3 (.tmp 49) (.tmp 51) 3, 3, "lent.go:583", #[⟨26, .data⟩, ⟨28, .data⟩, ⟨21, .guard⟩], some (21, true)⟩
abbrev keptS_ops30 : Oper := ⟨some 53, .call ⟨.value (.func 75), #[.const (.int .i64 1), .tmp 52], #[3, 3]⟩, 54, "lent.go:583", #[⟨29, .data⟩, ⟨21, .chain⟩, ⟨21, .guard⟩], some (21, true)⟩
abbrev keptS_ops31 : Oper := ⟨some 54, .call ⟨.value (.func 83), #[.tmp 48, .tmp 53], #[54, 54]⟩, 4, "lent.go:583", #[⟨25, .data⟩, ⟨30, .data⟩, ⟨30, .chain⟩, ⟨21, .guard⟩], some (21, true)⟩
abbrev keptS_ops32 : Oper := ⟨some 55, .unOp .not 4 (.tmp 54), 4, "lent.go:583", #[⟨31, .data⟩, ⟨21, .guard⟩], some (21, true)⟩
abbrev keptS_ops33 : Oper := ⟨some 56, .pick (.tmp 44) (.tmp 55) (.const (.bool false)), 4, "lent.go:583", #[⟨21, .data⟩, ⟨32, .data⟩, ⟨16, .guard⟩], some (16, false)⟩
abbrev keptS_ops34 : Oper := ⟨some 57, .pick (.tmp 39) (.const (.bool true)) (.tmp 56), 4, "lent.go:583", #[⟨16, .data⟩, ⟨33, .data⟩], none⟩
def keptS_ops : Array Oper := #[keptS_ops0, keptS_ops1, keptS_ops2, keptS_ops3, keptS_ops4, keptS_ops5, keptS_ops6, keptS_ops7, keptS_ops8, keptS_ops9, keptS_ops10, keptS_ops11, keptS_ops12, keptS_ops13, keptS_ops14, keptS_ops15, keptS_ops16, keptS_ops17, keptS_ops18, keptS_ops19, keptS_ops20, keptS_ops21, keptS_ops22, keptS_ops23, keptS_ops24, keptS_ops25, keptS_ops26, keptS_ops27, keptS_ops28, keptS_ops29, keptS_ops30, keptS_ops31, keptS_ops32, keptS_ops33, keptS_ops34]
def keptS_slot : Nat → Nat
 | 0 => 23
 | 1 => 24
 | 2 => 25
 | 3 => 26
 | 4 => 27
 | 5 => 28
 | 6 => 29
 | 7 => 30
 | 8 => 31
 | 9 => 32
 | 10 => 33
 | 11 => 34
 | 12 => 35
 | 13 => 36
 | 14 => 37
 | 15 => 38
 | 16 => 39
 | 17 => 40
 | 18 => 41
 | 19 => 42
 | 20 => 43
 | 21 => 44
 | 22 => 45
 | 23 => 46
 | 24 => 47
 | 25 => 48
 | 26 => 49
 | 27 => 50
 | 28 => 51
 | 29 => 52
 | 30 => 53
 | 31 => 54
 | 32 => 55
 | 33 => 56
 | 34 => 57
 | j + 35 => 1058 + j
theorem keptS_inj (i j : Nat) (hi : i < 35) (hj : j < 35) (h : keptS_slot i = keptS_slot j) : i = j := by
 have key : ∀ i j : Fin 35, keptS_slot i.val = keptS_slot j.val → i = j := by decide
 exact Fin.mk.inj (key ⟨i, hi⟩ ⟨j, hj⟩ h)
def keptSA_val (n k jj R b off cl S l h pc : Nat) (N Z mz : Int) (pp : Option Addr) : Nat → Value → World → Prop
 | 0, v, w => v = .int .i64 (k : Nat)
 | 1, v, w => v = .slice (some ⟨b, off, none⟩) n cl
 | 2, v, w => v = .int .i64 (n : Nat)
 | 3, v, w => v = .bool true
 | 4, v, w => v = .bool true
 | 5, v, w => v = .slice (some ⟨R, 0, none⟩) (n + 12) (n + 12)
 | 6, v, w => v = .int .i64 (k : Nat)
 | 7, v, w => v = .pointer (some ⟨R, k * 4, none⟩)
 | 8, v, w => v = .agg #[.int .i64 N, .int .i64 Z, .int .u32 (S : Nat), .slice (some ⟨h, 0, none⟩) l (l + 12)]
 | 9, v, w => v = .slice (some ⟨b, off, none⟩) n cl
 | 10, v, w => v = .int .i64 (k : Nat)
 | 11, v, w => v = .pointer (some ⟨b, off + k * 4, none⟩)
 | 12, v, w => v = .agg #[.int .i64 N, .int .i64 Z, .int .u32 (S : Nat), .slice pp l pc]
 | 13, v, w => v = .bool true
 | 14, v, w | 15, v, w | 16, v, w => v = .bool false
 | 17, v, w => v = .int .i64 (k : Nat)
 | 18, v, w => v = .slice (some ⟨b, off, none⟩) n cl
 | 19, v, w => v = .int .i64 (n : Nat)
 | 20, v, w => v = .bool false
 | 21, v, w => v = .bool false
 | 22, v, w | 23, v, w | 24, v, w | 25, v, w | 26, v, w | 27, v, w | 28, v, w | 29, v, w | 30, v, w | 31, v, w | 32, v, w => v = undef
 | 33, v, w => v = .bool false
 | 34, v, w => v = .bool false
 | _, _, _ => True
theorem keptSA_below (n k jj R b off cl S l h pc : Nat) (N Z mz : Int) (pp : Option Addr) (w w' : World) (hb : Below w.heap.size w w') : ∀ j v, keptSA_val n k jj R b off cl S l h pc N Z mz pp j v w → keptSA_val n k jj R b off cl S l h pc N Z mz pp j v w' := by
 intro j v h
 match j, h with
 | 0, h | 1, h | 2, h | 3, h | 4, h | 5, h | 6, h | 7, h | 8, h | 9, h | 10, h | 11, h | 12, h | 13, h | 14, h | 15, h | 16, h | 17, h | 18, h | 19, h | 20, h | 21, h | 22, h | 23, h | 24, h | 25, h | 26, h | 27, h | 28, h | 29, h | 30, h | 31, h | 32, h | 33, h | 34, h => exact h
 | _ + 35, h => exact h
theorem keptSA (n k jj R b off cl S l h pc : Nat) (N Z mz : Int) (pp : Option Addr) (Q : Exit → Act → World → Prop) (t0 : Array Value) (w0 : World) (ht : t0.size = 58)
  (hs1 : t0.getD 1 undef = .slice (some ⟨b, off, none⟩) n cl) (hs5 : t0.getD 5 undef = .slice (some ⟨R, 0, none⟩) (n + 12) (n + 12)) (hs6 : t0.getD 6 undef = .int .i64 (k : Nat))
  (hkn : Hid (k < n)) (hq0 : w0.cell? ⟨R, k * 4, none⟩ = some (.int .i64 N)) (hq1 : w0.cell? ⟨R, k * 4 + 1, none⟩ = some (.int .i64 Z)) (hq2 : w0.cell? ⟨R, k * 4 + 2, none⟩ = some (.int .u32 (S : Nat))) (hq3 : w0.cell? ⟨R, k * 4 + 3, none⟩ = some (.slice (some ⟨h, 0, none⟩) l (l + 12))) (hp0 : w0.cell? ⟨b, off + k * 4, none⟩ = some (.int .i64 N)) (hp1 : w0.cell? ⟨b, off + k * 4 + 1, none⟩ = some (.int .i64 Z)) (hp2 : w0.cell? ⟨b, off + k * 4 + 2, none⟩ = some (.int .u32 (S : Nat))) (hp3 : w0.cell? ⟨b, off + k * 4 + 3, none⟩ = some (.slice pp l pc))
  (cs : ∀ W, Below w0.heap.size w0 W → Calls Tryz.prog 82 #[.agg #[.int .i64 N, .int .i64 Z, .int .u32 (S : Nat), .slice (some ⟨h, 0, none⟩) l (l + 12)], .agg #[.int .i64 N, .int .i64 Z, .int .u32 (S : Nat), .slice pp l pc]] W fun e w' => e = .returned (.bool true) ∧ Below W.heap.size W w')
  (hQ : ∀ (vs : Nat → Value) (w : World), Below w0.heap.size w0 w → (vs 57 = .bool false) → Q .normal { tmps := [23, 24, 25, 26, 27, 28, 29, 30, 31, 32, 33, 34, 35, 36, 37, 38, 39, 40, 41, 42, 43, 44, 45, 46, 47, 48, 49, 50, 51, 52, 53, 54, 55, 56, 57].foldl (fun y d => y.setIfInBounds d (vs d)) t0, defers := [] } w) :
  (Code.region 7 keptS_ops true).wp Tryz.prog Q { tmps := t0, defers := [] } w0 := by
 have hsl : ∀ j, j < 35 → keptS_mem (keptS_slot j) := by
  intro j hj
  match j, hj with
  | 0, _ => exact (by decide : keptS_mem 23)
  | 1, _ => exact (by decide : keptS_mem 24)
  | 2, _ => exact (by decide : keptS_mem 25)
  | 3, _ => exact (by decide : keptS_mem 26)
  | 4, _ => exact (by decide : keptS_mem 27)
  | 5, _ => exact (by decide : keptS_mem 28)
  | 6, _ => exact (by decide : keptS_mem 29)
  | 7, _ => exact (by decide : keptS_mem 30)
  | 8, _ => exact (by decide : keptS_mem 31)
  | 9, _ => exact (by decide : keptS_mem 32)
  | 10, _ => exact (by decide : keptS_mem 33)
  | 11, _ => exact (by decide : keptS_mem 34)
  | 12, _ => exact (by decide : keptS_mem 35)
  | 13, _ => exact (by decide : keptS_mem 36)
  | 14, _ => exact (by decide : keptS_mem 37)
  | 15, _ => exact (by decide : keptS_mem 38)
  | 16, _ => exact (by decide : keptS_mem 39)
  | 17, _ => exact (by decide : keptS_mem 40)
  | 18, _ => exact (by decide : keptS_mem 41)
  | 19, _ => exact (by decide : keptS_mem 42)
  | 20, _ => exact (by decide : keptS_mem 43)
  | 21, _ => exact (by decide : keptS_mem 44)
  | 22, _ => exact (by decide : keptS_mem 45)
  | 23, _ => exact (by decide : keptS_mem 46)
  | 24, _ => exact (by decide : keptS_mem 47)
  | 25, _ => exact (by decide : keptS_mem 48)
  | 26, _ => exact (by decide : keptS_mem 49)
  | 27, _ => exact (by decide : keptS_mem 50)
  | 28, _ => exact (by decide : keptS_mem 51)
  | 29, _ => exact (by decide : keptS_mem 52)
  | 30, _ => exact (by decide : keptS_mem 53)
  | 31, _ => exact (by decide : keptS_mem 54)
  | 32, _ => exact (by decide : keptS_mem 55)
  | 33, _ => exact (by decide : keptS_mem 56)
  | 34, _ => exact (by decide : keptS_mem 57)
  | k + 35, hj => omega
 refine wp_region_inv (by kernel_rfl) keptS_slot (keptSA_val n k jj R b off cl S l h pc N Z mz pp) t0 w0 ?_ ?_ ?_ (keptSA_below n k jj R b off cl S l h pc N Z mz pp) ?_ ?_
 ·intro j o ho
  have hj : j < 35 := (Array.getElem?_eq_some_iff.1 ho).1
  rw [ht]
  match j, ho with
  | 0, ho | 1, ho | 2, ho | 3, ho | 4, ho | 5, ho | 6, ho | 7, ho | 8, ho | 9, ho | 10, ho | 11, ho | 12, ho | 13, ho | 14, ho | 15, ho | 16, ho | 17, ho | 18, ho | 19, ho | 20, ho | 21, ho | 22, ho | 23, ho | 24, ho | 25, ho | 26, ho | 27, ho | 28, ho | 29, ho | 30, ho | 31, ho | 32, ho | 33, ho | 34, ho => cases ho; exact ⟨rfl, by decide⟩
  | k + 35, _ => omega
 ·intro i j hi hj h
  exact keptS_inj i j hi hj h
 ·intro j o ho
  have hj : j < 35 := (Array.getElem?_eq_some_iff.1 ho).1
  match j, ho with
  | 0, ho | 1, ho | 2, ho | 3, ho | 4, ho | 5, ho | 6, ho | 7, ho | 8, ho | 9, ho | 10, ho | 11, ho | 12, ho | 13, ho | 14, ho | 15, ho | 16, ho | 17, ho | 18, ho | 19, ho | 20, ho | 21, ho | 22, ho | 23, ho | 24, ho | 25, ho | 26, ho | 27, ho | 28, ho | 29, ho | 30, ho | 31, ho | 32, ho | 33, ho | 34, ho => cases ho; decide
  | k + 35, _ => omega
 ·intro j o ho x w hB hdef hsz hs hdeps
  have hs' : ∀ s, ¬ keptS_mem s → x.tmps.getD s undef = t0.getD s undef := fun s hn => hs s (fun j hj e => hn (by rw [e]; exact hsl j hj))
  have u1 := (hs' 1 (by decide)).trans hs1
  have u5 := (hs' 5 (by decide)).trans hs5
  have u6 := (hs' 6 (by decide)).trans hs6
  have hj : j < 35 := (Array.getElem?_eq_some_iff.1 ho).1
  clear hs hs' hsl hsz ht hQ hs1 hs5 hs6
  simp only [Array.getD_eq_getD_getElem?] at u1 u5 u6
  match j, ho with
  | 0, ho =>
    have e : o = keptS_ops0 := (Option.some.inj ho).symm; unfold keptS_ops0 at e
    subst e
    clear hdeps
    refine wpOp_step ho (fun K hK => ?_)
    clear ho
    go_simp
    exact hK _ _ ⟨_, act_putD x hdef _ _, rfl, Below.refl _ _⟩
  | 1, ho =>
    have e : o = keptS_ops1 := (Option.some.inj ho).symm; unfold keptS_ops1 at e
    subst e
    clear hdeps
    refine wpOp_step ho (fun K hK => ?_)
    clear ho
    go_simp
    exact hK _ _ ⟨_, act_putD x hdef _ _, rfl, Below.refl _ _⟩
  | 2, ho =>
    have e : o = keptS_ops2 := (Option.some.inj ho).symm; unfold keptS_ops2 at e
    subst e
    have q1 : x.tmps.getD 24 undef = .slice (some ⟨b, off, none⟩) n cl := hdeps ⟨1, .data⟩ (by simp) rfl
    simp only [Array.getD_eq_getD_getElem?] at q1
    clear hdeps
    refine wpOp_step ho (fun K hK => ?_)
    clear ho
    go_simp
    exact hK _ _ ⟨_, act_putD x hdef _ _, rfl, Below.refl _ _⟩
  | 3, ho =>
    have e : o = keptS_ops3 := (Option.some.inj ho).symm; unfold keptS_ops3 at e
    subst e
    have q0 : x.tmps.getD 23 undef = .int .i64 (k : Nat) := hdeps ⟨0, .data⟩ (by simp) rfl
    have q2 : x.tmps.getD 25 undef = .int .i64 (n : Nat) := hdeps ⟨2, .data⟩ (by simp) rfl
    simp only [Array.getD_eq_getD_getElem?] at q0 q2
    clear hdeps
    have kz : (k : Int) < (n : Int) := by have := hkn.out; omega
    have kz0 : (0 : Int) ≤ (k : Int) := by omega
    have kz1 : (k : Int) < (n : Int) + 12 := by omega
    refine wpOp_step ho (fun K hK => ?_)
    clear ho
    go_simp
    exact hK _ _ ⟨_, act_putD x hdef _ _, rfl, Below.refl _ _⟩
  | 4, ho =>
    have e : o = keptS_ops4 := (Option.some.inj ho).symm; unfold keptS_ops4 at e
    subst e
    have q3 : x.tmps.getD 26 undef = .bool true := hdeps ⟨3, .data⟩ (by simp) rfl
    simp only [Array.getD_eq_getD_getElem?] at q3
    clear hdeps
    refine wpOp_step ho (fun K hK => ?_)
    clear ho
    go_simp
    exact hK _ _ ⟨_, act_putD x hdef _ _, rfl, Below.refl _ _⟩
  | 5, ho =>
    have e : o = keptS_ops5 := (Option.some.inj ho).symm; unfold keptS_ops5 at e
    subst e
    have q4 : x.tmps.getD 27 undef = .bool true := hdeps ⟨4, .guard⟩ (by simp) rfl
    have e4 : (keptS_ops[4]?.bind fun x => x.dst) = some 27 := rfl
    have g4 := get_someE q4 (fun h => by cases h)
    simp only [Array.getD_eq_getD_getElem?] at q4
    clear hdeps
    refine wpOp_step ho (fun K hK => ?_)
    clear ho
    go_simp
    exact hK _ _ ⟨_, act_putD x hdef _ _, rfl, Below.refl _ _⟩
  | 6, ho =>
    have e : o = keptS_ops6 := (Option.some.inj ho).symm; unfold keptS_ops6 at e
    subst e
    have q4 : x.tmps.getD 27 undef = .bool true := hdeps ⟨4, .guard⟩ (by simp) rfl
    have e4 : (keptS_ops[4]?.bind fun x => x.dst) = some 27 := rfl
    have g4 := get_someE q4 (fun h => by cases h)
    simp only [Array.getD_eq_getD_getElem?] at q4
    clear hdeps
    refine wpOp_step ho (fun K hK => ?_)
    clear ho
    go_simp
    exact hK _ _ ⟨_, act_putD x hdef _ _, rfl, Below.refl _ _⟩
  | 7, ho =>
    have e : o = keptS_ops7 := (Option.some.inj ho).symm; unfold keptS_ops7 at e
    subst e
    have q5 : x.tmps.getD 28 undef = .slice (some ⟨R, 0, none⟩) (n + 12) (n + 12) := hdeps ⟨5, .data⟩ (by simp) rfl
    have q6 : x.tmps.getD 29 undef = .int .i64 (k : Nat) := hdeps ⟨6, .data⟩ (by simp) rfl
    have q4 : x.tmps.getD 27 undef = .bool true := hdeps ⟨4, .guard⟩ (by simp) rfl
    have e4 : (keptS_ops[4]?.bind fun x => x.dst) = some 27 := rfl
    have g4 := get_someE q4 (fun h => by cases h)
    simp only [Array.getD_eq_getD_getElem?] at q5 q6 q4
    clear hdeps
    have kz : (k : Int) < (n : Int) := by have := hkn.out; omega
    have kz0 : (0 : Int) ≤ (k : Int) := by omega
    have kz1 : (k : Int) < (n : Int) + 12 := by omega
    refine wpOp_step ho (fun K hK => ?_)
    clear ho
    go_simp
    exact hK _ _ ⟨_, act_putD x hdef _ _, rfl, Below.refl _ _⟩
  | 8, ho =>
    have e : o = keptS_ops8 := (Option.some.inj ho).symm; unfold keptS_ops8 at e
    subst e
    have q7 : x.tmps.getD 30 undef = .pointer (some ⟨R, k * 4, none⟩) := hdeps ⟨7, .data⟩ (by simp) rfl
    have q4 : x.tmps.getD 27 undef = .bool true := hdeps ⟨4, .guard⟩ (by simp) rfl
    have e4 : (keptS_ops[4]?.bind fun x => x.dst) = some 27 := rfl
    have g4 := get_someE q4 (fun h => by cases h)
    simp only [Array.getD_eq_getD_getElem?] at q7 q4
    clear hdeps
    have c0 := cell_thru hq0 hB
    have c1 := cell_thru hq1 hB
    have c2 := cell_thru hq2 hB
    have c3 := cell_thru hq3 hB
    refine wpOp_step ho (fun K hK => ?_)
    clear ho
    go_simp
    exact hK _ _ ⟨_, act_putD x hdef _ _, rfl, Below.refl _ _⟩
  | 9, ho =>
    have e : o = keptS_ops9 := (Option.some.inj ho).symm; unfold keptS_ops9 at e
    subst e
    have q4 : x.tmps.getD 27 undef = .bool true := hdeps ⟨4, .guard⟩ (by simp) rfl
    have e4 : (keptS_ops[4]?.bind fun x => x.dst) = some 27 := rfl
    have g4 := get_someE q4 (fun h => by cases h)
    simp only [Array.getD_eq_getD_getElem?] at q4
    clear hdeps
    refine wpOp_step ho (fun K hK => ?_)
    clear ho
    go_simp
    exact hK _ _ ⟨_, act_putD x hdef _ _, rfl, Below.refl _ _⟩
  | 10, ho =>
    have e : o = keptS_ops10 := (Option.some.inj ho).symm; unfold keptS_ops10 at e
    subst e
    have q4 : x.tmps.getD 27 undef = .bool true := hdeps ⟨4, .guard⟩ (by simp) rfl
    have e4 : (keptS_ops[4]?.bind fun x => x.dst) = some 27 := rfl
    have g4 := get_someE q4 (fun h => by cases h)
    simp only [Array.getD_eq_getD_getElem?] at q4
    clear hdeps
    refine wpOp_step ho (fun K hK => ?_)
    clear ho
    go_simp
    exact hK _ _ ⟨_, act_putD x hdef _ _, rfl, Below.refl _ _⟩
  | 11, ho =>
    have e : o = keptS_ops11 := (Option.some.inj ho).symm; unfold keptS_ops11 at e
    subst e
    have q9 : x.tmps.getD 32 undef = .slice (some ⟨b, off, none⟩) n cl := hdeps ⟨9, .data⟩ (by simp) rfl
    have q10 : x.tmps.getD 33 undef = .int .i64 (k : Nat) := hdeps ⟨10, .data⟩ (by simp) rfl
    have q4 : x.tmps.getD 27 undef = .bool true := hdeps ⟨4, .guard⟩ (by simp) rfl
    have e4 : (keptS_ops[4]?.bind fun x => x.dst) = some 27 := rfl
    have g4 := get_someE q4 (fun h => by cases h)
    simp only [Array.getD_eq_getD_getElem?] at q9 q10 q4
    clear hdeps
    have kz : (k : Int) < (n : Int) := by have := hkn.out; omega
    have kz0 : (0 : Int) ≤ (k : Int) := by omega
    have kz1 : (k : Int) < (n : Int) + 12 := by omega
    refine wpOp_step ho (fun K hK => ?_)
    clear ho
    go_simp
    exact hK _ _ ⟨_, act_putD x hdef _ _, rfl, Below.refl _ _⟩
  | 12, ho =>
    have e : o = keptS_ops12 := (Option.some.inj ho).symm; unfold keptS_ops12 at e
    subst e
    have q11 : x.tmps.getD 34 undef = .pointer (some ⟨b, off + k * 4, none⟩) := hdeps ⟨11, .data⟩ (by simp) rfl
    have q4 : x.tmps.getD 27 undef = .bool true := hdeps ⟨4, .guard⟩ (by simp) rfl
    have e4 : (keptS_ops[4]?.bind fun x => x.dst) = some 27 := rfl
    have g4 := get_someE q4 (fun h => by cases h)
    simp only [Array.getD_eq_getD_getElem?] at q11 q4
    clear hdeps
    have c0 := cell_thru hp0 hB
    have c1 := cell_thru hp1 hB
    have c2 := cell_thru hp2 hB
    have c3 := cell_thru hp3 hB
    refine wpOp_step ho (fun K hK => ?_)
    clear ho
    go_simp
    exact hK _ _ ⟨_, act_putD x hdef _ _, rfl, Below.refl _ _⟩
  | 13, ho =>
    have e : o = keptS_ops13 := (Option.some.inj ho).symm; unfold keptS_ops13 at e
    subst e
    have q8 : x.tmps.getD 31 undef = .agg #[.int .i64 N, .int .i64 Z, .int .u32 (S : Nat), .slice (some ⟨h, 0, none⟩) l (l + 12)] := hdeps ⟨8, .data⟩ (by simp) rfl
    have q12 : x.tmps.getD 35 undef = .agg #[.int .i64 N, .int .i64 Z, .int .u32 (S : Nat), .slice pp l pc] := hdeps ⟨12, .data⟩ (by simp) rfl
    have q4 : x.tmps.getD 27 undef = .bool true := hdeps ⟨4, .guard⟩ (by simp) rfl
    have e4 : (keptS_ops[4]?.bind fun x => x.dst) = some 27 := rfl
    have g4 := get_someE q4 (fun h => by cases h)
    simp only [Array.getD_eq_getD_getElem?] at q8 q12 q4
    clear hdeps
    refine wpOp_step ho (fun K hK => ?_)
    clear ho
    go_simp
    refine (cs w hB).mono ?_
    rintro e w' ⟨rfl, hb⟩
    exact hK _ _ ⟨_, act_putD x hdef _ _, rfl, hb⟩
  | 14, ho =>
    have e : o = keptS_ops14 := (Option.some.inj ho).symm; unfold keptS_ops14 at e
    subst e
    have q13 : x.tmps.getD 36 undef = .bool true := hdeps ⟨13, .data⟩ (by simp) rfl
    have q4 : x.tmps.getD 27 undef = .bool true := hdeps ⟨4, .guard⟩ (by simp) rfl
    have e4 : (keptS_ops[4]?.bind fun x => x.dst) = some 27 := rfl
    have g4 := get_someE q4 (fun h => by cases h)
    simp only [Array.getD_eq_getD_getElem?] at q13 q4
    clear hdeps
    refine wpOp_step ho (fun K hK => ?_)
    clear ho
    go_simp
    exact hK _ _ ⟨_, act_putD x hdef _ _, rfl, Below.refl _ _⟩
  | 15, ho =>
    have e : o = keptS_ops15 := (Option.some.inj ho).symm; unfold keptS_ops15 at e
    subst e
    have q4 : x.tmps.getD 27 undef = .bool true := hdeps ⟨4, .data⟩ (by simp) rfl
    have q14 : x.tmps.getD 37 undef = .bool false := hdeps ⟨14, .data⟩ (by simp) rfl
    simp only [Array.getD_eq_getD_getElem?] at q4 q14
    clear hdeps
    refine wpOp_step ho (fun K hK => ?_)
    clear ho
    go_simp
    exact hK _ _ ⟨_, act_putD x hdef _ _, rfl, Below.refl _ _⟩
  | 16, ho =>
    have e : o = keptS_ops16 := (Option.some.inj ho).symm; unfold keptS_ops16 at e
    subst e
    have q15 : x.tmps.getD 38 undef = .bool false := hdeps ⟨15, .data⟩ (by simp) rfl
    simp only [Array.getD_eq_getD_getElem?] at q15
    clear hdeps
    refine wpOp_step ho (fun K hK => ?_)
    clear ho
    go_simp
    exact hK _ _ ⟨_, act_putD x hdef _ _, rfl, Below.refl _ _⟩
  | 17, ho =>
    have e : o = keptS_ops17 := (Option.some.inj ho).symm; unfold keptS_ops17 at e
    subst e
    have q16 : x.tmps.getD 39 undef = .bool false := hdeps ⟨16, .guard⟩ (by simp) rfl
    have e16 : (keptS_ops[16]?.bind fun x => x.dst) = some 39 := rfl
    have g16 := get_someE q16 (fun h => by cases h)
    simp only [Array.getD_eq_getD_getElem?] at q16
    clear hdeps
    refine wpOp_step ho (fun K hK => ?_)
    clear ho
    go_simp
    exact hK _ _ ⟨_, act_putD x hdef _ _, rfl, Below.refl _ _⟩
  | 18, ho =>
    have e : o = keptS_ops18 := (Option.some.inj ho).symm; unfold keptS_ops18 at e
    subst e
    have q16 : x.tmps.getD 39 undef = .bool false := hdeps ⟨16, .guard⟩ (by simp) rfl
    have e16 : (keptS_ops[16]?.bind fun x => x.dst) = some 39 := rfl
    have g16 := get_someE q16 (fun h => by cases h)
    simp only [Array.getD_eq_getD_getElem?] at q16
    clear hdeps
    refine wpOp_step ho (fun K hK => ?_)
    clear ho
    go_simp
    exact hK _ _ ⟨_, act_putD x hdef _ _, rfl, Below.refl _ _⟩
  | 19, ho =>
    have e : o = keptS_ops19 := (Option.some.inj ho).symm; unfold keptS_ops19 at e
    subst e
    have q18 : x.tmps.getD 41 undef = .slice (some ⟨b, off, none⟩) n cl := hdeps ⟨18, .data⟩ (by simp) rfl
    have q16 : x.tmps.getD 39 undef = .bool false := hdeps ⟨16, .guard⟩ (by simp) rfl
    have e16 : (keptS_ops[16]?.bind fun x => x.dst) = some 39 := rfl
    have g16 := get_someE q16 (fun h => by cases h)
    simp only [Array.getD_eq_getD_getElem?] at q18 q16
    clear hdeps
    refine wpOp_step ho (fun K hK => ?_)
    clear ho
    go_simp
    exact hK _ _ ⟨_, act_putD x hdef _ _, rfl, Below.refl _ _⟩
  | 20, ho =>
    have e : o = keptS_ops20 := (Option.some.inj ho).symm; unfold keptS_ops20 at e
    subst e
    have q17 : x.tmps.getD 40 undef = .int .i64 (k : Nat) := hdeps ⟨17, .data⟩ (by simp) rfl
    have q19 : x.tmps.getD 42 undef = .int .i64 (n : Nat) := hdeps ⟨19, .data⟩ (by simp) rfl
    have q16 : x.tmps.getD 39 undef = .bool false := hdeps ⟨16, .guard⟩ (by simp) rfl
    have e16 : (keptS_ops[16]?.bind fun x => x.dst) = some 39 := rfl
    have g16 := get_someE q16 (fun h => by cases h)
    simp only [Array.getD_eq_getD_getElem?] at q17 q19 q16
    clear hdeps
    have kz : (k : Int) < (n : Int) := by have := hkn.out; omega
    have kz0 : (0 : Int) ≤ (k : Int) := by omega
    have kz1 : (k : Int) < (n : Int) + 12 := by omega
    have hd1 : decide ((n : Int) ≤ (k : Int)) = false := decide_eq_false (by omega)
    have hd2 : decide (n ≤ k) = false := decide_eq_false (by have := hkn.out; omega)
    refine wpOp_step ho (fun K hK => ?_)
    clear ho
    go_simp
    exact hK _ _ ⟨_, act_putD x hdef _ _, rfl, Below.refl _ _⟩
  | 21, ho =>
    have e : o = keptS_ops21 := (Option.some.inj ho).symm; unfold keptS_ops21 at e
    subst e
    have q20 : x.tmps.getD 43 undef = .bool false := hdeps ⟨20, .data⟩ (by simp) rfl
    have q16 : x.tmps.getD 39 undef = .bool false := hdeps ⟨16, .guard⟩ (by simp) rfl
    have e16 : (keptS_ops[16]?.bind fun x => x.dst) = some 39 := rfl
    have g16 := get_someE q16 (fun h => by cases h)
    simp only [Array.getD_eq_getD_getElem?] at q20 q16
    clear hdeps
    refine wpOp_step ho (fun K hK => ?_)
    clear ho
    go_simp
    exact hK _ _ ⟨_, act_putD x hdef _ _, rfl, Below.refl _ _⟩
  | 22, ho =>
    have e : o = keptS_ops22 := (Option.some.inj ho).symm; unfold keptS_ops22 at e
    subst e
    have q21 : x.tmps.getD 44 undef = .bool false := hdeps ⟨21, .guard⟩ (by simp) rfl
    have e21 : (keptS_ops[21]?.bind fun x => x.dst) = some 44 := rfl
    have g21 := get_someE q21 (fun h => by cases h)
    simp only [Array.getD_eq_getD_getElem?] at q21
    clear hdeps
    refine wpOp_step ho (fun K hK => ?_)
    clear ho
    go_simp
    exact hK _ _ ⟨_, act_putD x hdef _ _, rfl, Below.refl _ _⟩
  | 23, ho =>
    have e : o = keptS_ops23 := (Option.some.inj ho).symm; unfold keptS_ops23 at e
    subst e
    have q21 : x.tmps.getD 44 undef = .bool false := hdeps ⟨21, .guard⟩ (by simp) rfl
    have e21 : (keptS_ops[21]?.bind fun x => x.dst) = some 44 := rfl
    have g21 := get_someE q21 (fun h => by cases h)
    simp only [Array.getD_eq_getD_getElem?] at q21
    clear hdeps
    refine wpOp_step ho (fun K hK => ?_)
    clear ho
    go_simp
    exact hK _ _ ⟨_, act_putD x hdef _ _, rfl, Below.refl _ _⟩
  | 24, ho =>
    have e : o = keptS_ops24 := (Option.some.inj ho).symm; unfold keptS_ops24 at e
    subst e
    have q22 : x.tmps.getD 45 undef = undef := hdeps ⟨22, .data⟩ (by simp) rfl
    have q23 : x.tmps.getD 46 undef = undef := hdeps ⟨23, .data⟩ (by simp) rfl
    have q21 : x.tmps.getD 44 undef = .bool false := hdeps ⟨21, .guard⟩ (by simp) rfl
    have e21 : (keptS_ops[21]?.bind fun x => x.dst) = some 44 := rfl
    have g21 := get_someE q21 (fun h => by cases h)
    simp only [Array.getD_eq_getD_getElem?] at q22 q23 q21
    clear hdeps
    refine wpOp_step ho (fun K hK => ?_)
    clear ho
    go_simp
    exact hK _ _ ⟨_, act_putD x hdef _ _, rfl, Below.refl _ _⟩
  | 25, ho =>
    have e : o = keptS_ops25 := (Option.some.inj ho).symm; unfold keptS_ops25 at e
    subst e
    have q24 : x.tmps.getD 47 undef = undef := hdeps ⟨24, .data⟩ (by simp) rfl
    have q21 : x.tmps.getD 44 undef = .bool false := hdeps ⟨21, .guard⟩ (by simp) rfl
    have e21 : (keptS_ops[21]?.bind fun x => x.dst) = some 44 := rfl
    have g21 := get_someE q21 (fun h => by cases h)
    simp only [Array.getD_eq_getD_getElem?] at q24 q21
    clear hdeps
    refine wpOp_step ho (fun K hK => ?_)
    clear ho
    go_simp
    exact hK _ _ ⟨_, act_putD x hdef _ _, rfl, Below.refl _ _⟩
  | 26, ho =>
    have e : o = keptS_ops26 := (Option.some.inj ho).symm; unfold keptS_ops26 at e
    subst e
    have q21 : x.tmps.getD 44 undef = .bool false := hdeps ⟨21, .guard⟩ (by simp) rfl
    have e21 : (keptS_ops[21]?.bind fun x => x.dst) = some 44 := rfl
    have g21 := get_someE q21 (fun h => by cases h)
    simp only [Array.getD_eq_getD_getElem?] at q21
    clear hdeps
    refine wpOp_step ho (fun K hK => ?_)
    clear ho
    go_simp
    exact hK _ _ ⟨_, act_putD x hdef _ _, rfl, Below.refl _ _⟩
  | 27, ho =>
    have e : o = keptS_ops27 := (Option.some.inj ho).symm; unfold keptS_ops27 at e
    subst e
    have q21 : x.tmps.getD 44 undef = .bool false := hdeps ⟨21, .guard⟩ (by simp) rfl
    have e21 : (keptS_ops[21]?.bind fun x => x.dst) = some 44 := rfl
    have g21 := get_someE q21 (fun h => by cases h)
    simp only [Array.getD_eq_getD_getElem?] at q21
    clear hdeps
    refine wpOp_step ho (fun K hK => ?_)
    clear ho
    go_simp
    exact hK _ _ ⟨_, act_putD x hdef _ _, rfl, Below.refl _ _⟩
  | 28, ho =>
    have e : o = keptS_ops28 := (Option.some.inj ho).symm; unfold keptS_ops28 at e
    subst e
    have q27 : x.tmps.getD 50 undef = undef := hdeps ⟨27, .data⟩ (by simp) rfl
    have q21 : x.tmps.getD 44 undef = .bool false := hdeps ⟨21, .guard⟩ (by simp) rfl
    have e21 : (keptS_ops[21]?.bind fun x => x.dst) = some 44 := rfl
    have g21 := get_someE q21 (fun h => by cases h)
    simp only [Array.getD_eq_getD_getElem?] at q27 q21
    clear hdeps
    refine wpOp_step ho (fun K hK => ?_)
    clear ho
    go_simp
    exact hK _ _ ⟨_, act_putD x hdef _ _, rfl, Below.refl _ _⟩
  | 29, ho =>
    have e : o = keptS_ops29 := (Option.some.inj ho).symm; unfold keptS_ops29 at e
    subst e
    have q26 : x.tmps.getD 49 undef = undef := hdeps ⟨26, .data⟩ (by simp) rfl
    have q28 : x.tmps.getD 51 undef = undef := hdeps ⟨28, .data⟩ (by simp) rfl
    have q21 : x.tmps.getD 44 undef = .bool false := hdeps ⟨21, .guard⟩ (by simp) rfl
    have e21 : (keptS_ops[21]?.bind fun x => x.dst) = some 44 := rfl
    have g21 := get_someE q21 (fun h => by cases h)
    simp only [Array.getD_eq_getD_getElem?] at q26 q28 q21
    clear hdeps
    refine wpOp_step ho (fun K hK => ?_)
    clear ho
    go_simp
    exact hK _ _ ⟨_, act_putD x hdef _ _, rfl, Below.refl _ _⟩
  | 30, ho =>
    have e : o = keptS_ops30 := (Option.some.inj ho).symm; unfold keptS_ops30 at e
    subst e
    have q29 : x.tmps.getD 52 undef = undef := hdeps ⟨29, .data⟩ (by simp) rfl
    have q21 : x.tmps.getD 44 undef = .bool false := hdeps ⟨21, .guard⟩ (by simp) rfl
    have e21 : (keptS_ops[21]?.bind fun x => x.dst) = some 44 := rfl
    have g21 := get_someE q21 (fun h => by cases h)
    simp only [Array.getD_eq_getD_getElem?] at q29 q21
    clear hdeps
    refine wpOp_step ho (fun K hK => ?_)
    clear ho
    go_simp
    exact hK _ _ ⟨_, act_putD x hdef _ _, rfl, Below.refl _ _⟩
  | 31, ho =>
    have e : o = keptS_ops31 := (Option.some.inj ho).symm; unfold keptS_ops31 at e
    subst e
    have q25 : x.tmps.getD 48 undef = undef := hdeps ⟨25, .data⟩ (by simp) rfl
    have q30 : x.tmps.getD 53 undef = undef := hdeps ⟨30, .data⟩ (by simp) rfl
    have q21 : x.tmps.getD 44 undef = .bool false := hdeps ⟨21, .guard⟩ (by simp) rfl
    have e21 : (keptS_ops[21]?.bind fun x => x.dst) = some 44 := rfl
    have g21 := get_someE q21 (fun h => by cases h)
    simp only [Array.getD_eq_getD_getElem?] at q25 q30 q21
    clear hdeps
    refine wpOp_step ho (fun K hK => ?_)
    clear ho
    go_simp
    exact hK _ _ ⟨_, act_putD x hdef _ _, rfl, Below.refl _ _⟩
  | 32, ho =>
    have e : o = keptS_ops32 := (Option.some.inj ho).symm; unfold keptS_ops32 at e
    subst e
    have q31 : x.tmps.getD 54 undef = undef := hdeps ⟨31, .data⟩ (by simp) rfl
    have q21 : x.tmps.getD 44 undef = .bool false := hdeps ⟨21, .guard⟩ (by simp) rfl
    have e21 : (keptS_ops[21]?.bind fun x => x.dst) = some 44 := rfl
    have g21 := get_someE q21 (fun h => by cases h)
    simp only [Array.getD_eq_getD_getElem?] at q31 q21
    clear hdeps
    refine wpOp_step ho (fun K hK => ?_)
    clear ho
    go_simp
    exact hK _ _ ⟨_, act_putD x hdef _ _, rfl, Below.refl _ _⟩
  | 33, ho =>
    have e : o = keptS_ops33 := (Option.some.inj ho).symm; unfold keptS_ops33 at e
    subst e
    have q21 : x.tmps.getD 44 undef = .bool false := hdeps ⟨21, .data⟩ (by simp) rfl
    have q32 : x.tmps.getD 55 undef = undef := hdeps ⟨32, .data⟩ (by simp) rfl
    have q16 : x.tmps.getD 39 undef = .bool false := hdeps ⟨16, .guard⟩ (by simp) rfl
    have e16 : (keptS_ops[16]?.bind fun x => x.dst) = some 39 := rfl
    have g16 := get_someE q16 (fun h => by cases h)
    simp only [Array.getD_eq_getD_getElem?] at q21 q32 q16
    clear hdeps
    refine wpOp_step ho (fun K hK => ?_)
    clear ho
    go_simp
    exact hK _ _ ⟨_, act_putD x hdef _ _, rfl, Below.refl _ _⟩
  | 34, ho =>
    have e : o = keptS_ops34 := (Option.some.inj ho).symm; unfold keptS_ops34 at e
    subst e
    have q16 : x.tmps.getD 39 undef = .bool false := hdeps ⟨16, .data⟩ (by simp) rfl
    have q33 : x.tmps.getD 56 undef = .bool false := hdeps ⟨33, .data⟩ (by simp) rfl
    simp only [Array.getD_eq_getD_getElem?] at q16 q33
    clear hdeps
    refine wpOp_step ho (fun K hK => ?_)
    clear ho
    go_simp
    exact hK _ _ ⟨_, act_putD x hdef _ _, rfl, Below.refl _ _⟩
  | k + 35, _ => omega
 ·intro x w hB hdef hsz hs hv
  have hx := frame_sets x.tmps t0 hsz [23, 24, 25, 26, 27, 28, 29, 30, 31, 32, 33, 34, 35, 36, 37, 38, 39, 40, 41, 42, 43, 44, 45, 46, 47, 48, 49, 50, 51, 52, 53, 54, 55, 56, 57] (fun s hn => hs s (fun j hj e => hn (keptS_list s (by rw [e]; exact hsl j hj))))
  have hq := hQ (fun d => x.tmps.getD d undef) w hB (hv 34 (by decide))
  obtain ⟨T, Df⟩ := x
  dsimp only at hx hdef hq
  subst hdef
  rw [← hx] at hq
  exact hq
def keptSB_val (n k jj R b off cl S l h pc : Nat) (N Z mz : Int) (pp lA : Option Addr) : Nat → Value → World → Prop
 | 0, v, w => v = .int .i64 (k : Nat)
 | 1, v, w => v = .slice lA n cl
 | 2, v, w => v = .int .i64 (n : Nat)
 | 3, v, w => v = .bool false
 | 4, v, w => v = .bool false
 | 5, v, w | 6, v, w | 7, v, w | 8, v, w | 9, v, w | 10, v, w | 11, v, w | 12, v, w | 13, v, w | 14, v, w => v = undef
 | 15, v, w => v = .bool false
 | 16, v, w => v = .bool false
 | 17, v, w => v = .int .i64 (k : Nat)
 | 18, v, w => v = .slice lA n cl
 | 19, v, w => v = .int .i64 (n : Nat)
 | 20, v, w => v = .bool true
 | 21, v, w => v = .bool true
 | 22, v, w => v = .slice (some ⟨R, 0, none⟩) (n + 12) (n + 12)
 | 23, v, w => v = .int .i64 (k : Nat)
 | 24, v, w => v = .pointer (some ⟨R, k * 4, none⟩)
 | 25, v, w => v = .agg #[.int .i64 mz, .int .i64 0, .int .u32 0, .slice none 0 0]
 | 26, v, w => v = .int .i64 (k : Nat)
 | 27, v, w => v = .slice lA n cl
 | 28, v, w => v = .int .i64 (n : Nat)
 | 29, v, w => v = .int .i64 (jj : Nat)
 | 30, v, w => v = .agg #[.int .i64 mz, .int .i64 0, .int .u32 0, .slice none 0 0]
 | 31, v, w => v = .bool true
 | 32, v, w | 33, v, w | 34, v, w => v = .bool false
 | _, _, _ => True
theorem keptSB_below (n k jj R b off cl S l h pc : Nat) (N Z mz : Int) (pp lA : Option Addr) (w w' : World) (hb : Below w.heap.size w w') : ∀ j v, keptSB_val n k jj R b off cl S l h pc N Z mz pp lA j v w → keptSB_val n k jj R b off cl S l h pc N Z mz pp lA j v w' := by
 intro j v h
 match j, h with
 | 0, h | 1, h | 2, h | 3, h | 4, h | 5, h | 6, h | 7, h | 8, h | 9, h | 10, h | 11, h | 12, h | 13, h | 14, h | 15, h | 16, h | 17, h | 18, h | 19, h | 20, h | 21, h | 22, h | 23, h | 24, h | 25, h | 26, h | 27, h | 28, h | 29, h | 30, h | 31, h | 32, h | 33, h | 34, h => exact h
 | _ + 35, h => exact h
theorem keptSB (n k jj R b off cl S l h pc : Nat) (N Z mz : Int) (pp lA : Option Addr) (Q : Exit → Act → World → Prop) (t0 : Array Value) (w0 : World) (ht : t0.size = 58)
  (hs1 : t0.getD 1 undef = .slice lA n cl) (hs5 : t0.getD 5 undef = .slice (some ⟨R, 0, none⟩) (n + 12) (n + 12)) (hs6 : t0.getD 6 undef = .int .i64 (k : Nat))
  (hkn : Hid (k = n + jj ∧ jj < 12 ∧ n ≤ 1000000)) (hq0 : w0.cell? ⟨R, k * 4, none⟩ = some (.int .i64 mz)) (hq1 : w0.cell? ⟨R, k * 4 + 1, none⟩ = some (.int .i64 0)) (hq2 : w0.cell? ⟨R, k * 4 + 2, none⟩ = some (.int .u32 0)) (hq3 : w0.cell? ⟨R, k * 4 + 3, none⟩ = some (.slice none 0 0))
  (cm : ∀ W, Calls Tryz.prog 75 #[.int .i64 1, .int .i64 (jj : Nat)] W fun e w' => e = .returned (.agg #[.int .i64 mz, .int .i64 0, .int .u32 0, .slice none 0 0]) ∧ Below W.heap.size W w')
  (cs : ∀ W, Calls Tryz.prog 83 #[.agg #[.int .i64 mz, .int .i64 0, .int .u32 0, .slice none 0 0], .agg #[.int .i64 mz, .int .i64 0, .int .u32 0, .slice none 0 0]] W fun e w' => e = .returned (.bool true) ∧ Below W.heap.size W w')
  (hQ : ∀ (vs : Nat → Value) (w : World), Below w0.heap.size w0 w → (vs 57 = .bool false) → Q .normal { tmps := [23, 24, 25, 26, 27, 28, 29, 30, 31, 32, 33, 34, 35, 36, 37, 38, 39, 40, 41, 42, 43, 44, 45, 46, 47, 48, 49, 50, 51, 52, 53, 54, 55, 56, 57].foldl (fun y d => y.setIfInBounds d (vs d)) t0, defers := [] } w) :
  (Code.region 7 keptS_ops true).wp Tryz.prog Q { tmps := t0, defers := [] } w0 := by
 have hsl : ∀ j, j < 35 → keptS_mem (keptS_slot j) := by
  intro j hj
  match j, hj with
  | 0, _ => exact (by decide : keptS_mem 23)
  | 1, _ => exact (by decide : keptS_mem 24)
  | 2, _ => exact (by decide : keptS_mem 25)
  | 3, _ => exact (by decide : keptS_mem 26)
  | 4, _ => exact (by decide : keptS_mem 27)
  | 5, _ => exact (by decide : keptS_mem 28)
  | 6, _ => exact (by decide : keptS_mem 29)
  | 7, _ => exact (by decide : keptS_mem 30)
  | 8, _ => exact (by decide : keptS_mem 31)
  | 9, _ => exact (by decide : keptS_mem 32)
  | 10, _ => exact (by decide : keptS_mem 33)
  | 11, _ => exact (by decide : keptS_mem 34)
  | 12, _ => exact (by decide : keptS_mem 35)
  | 13, _ => exact (by decide : keptS_mem 36)
  | 14, _ => exact (by decide : keptS_mem 37)
  | 15, _ => exact (by decide : keptS_mem 38)
  | 16, _ => exact (by decide : keptS_mem 39)
  | 17, _ => exact (by decide : keptS_mem 40)
  | 18, _ => exact (by decide : keptS_mem 41)
  | 19, _ => exact (by decide : keptS_mem 42)
  | 20, _ => exact (by decide : keptS_mem 43)
  | 21, _ => exact (by decide : keptS_mem 44)
  | 22, _ => exact (by decide : keptS_mem 45)
  | 23, _ => exact (by decide : keptS_mem 46)
  | 24, _ => exact (by decide : keptS_mem 47)
  | 25, _ => exact (by decide : keptS_mem 48)
  | 26, _ => exact (by decide : keptS_mem 49)
  | 27, _ => exact (by decide : keptS_mem 50)
  | 28, _ => exact (by decide : keptS_mem 51)
  | 29, _ => exact (by decide : keptS_mem 52)
  | 30, _ => exact (by decide : keptS_mem 53)
  | 31, _ => exact (by decide : keptS_mem 54)
  | 32, _ => exact (by decide : keptS_mem 55)
  | 33, _ => exact (by decide : keptS_mem 56)
  | 34, _ => exact (by decide : keptS_mem 57)
  | k + 35, hj => omega
 refine wp_region_inv (by kernel_rfl) keptS_slot (keptSB_val n k jj R b off cl S l h pc N Z mz pp lA) t0 w0 ?_ ?_ ?_ (keptSB_below n k jj R b off cl S l h pc N Z mz pp lA) ?_ ?_
 ·intro j o ho
  have hj : j < 35 := (Array.getElem?_eq_some_iff.1 ho).1
  rw [ht]
  match j, ho with
  | 0, ho | 1, ho | 2, ho | 3, ho | 4, ho | 5, ho | 6, ho | 7, ho | 8, ho | 9, ho | 10, ho | 11, ho | 12, ho | 13, ho | 14, ho | 15, ho | 16, ho | 17, ho | 18, ho | 19, ho | 20, ho | 21, ho | 22, ho | 23, ho | 24, ho | 25, ho | 26, ho | 27, ho | 28, ho | 29, ho | 30, ho | 31, ho | 32, ho | 33, ho | 34, ho => cases ho; exact ⟨rfl, by decide⟩
  | k + 35, _ => omega
 ·intro i j hi hj h
  exact keptS_inj i j hi hj h
 ·intro j o ho
  have hj : j < 35 := (Array.getElem?_eq_some_iff.1 ho).1
  match j, ho with
  | 0, ho | 1, ho | 2, ho | 3, ho | 4, ho | 5, ho | 6, ho | 7, ho | 8, ho | 9, ho | 10, ho | 11, ho | 12, ho | 13, ho | 14, ho | 15, ho | 16, ho | 17, ho | 18, ho | 19, ho | 20, ho | 21, ho | 22, ho | 23, ho | 24, ho | 25, ho | 26, ho | 27, ho | 28, ho | 29, ho | 30, ho | 31, ho | 32, ho | 33, ho | 34, ho => cases ho; decide
  | k + 35, _ => omega
 ·intro j o ho x w hB hdef hsz hs hdeps
  have hs' : ∀ s, ¬ keptS_mem s → x.tmps.getD s undef = t0.getD s undef := fun s hn => hs s (fun j hj e => hn (by rw [e]; exact hsl j hj))
  have u1 := (hs' 1 (by decide)).trans hs1
  have u5 := (hs' 5 (by decide)).trans hs5
  have u6 := (hs' 6 (by decide)).trans hs6
  have hj : j < 35 := (Array.getElem?_eq_some_iff.1 ho).1
  clear hs hs' hsl hsz ht hQ hs1 hs5 hs6
  simp only [Array.getD_eq_getD_getElem?] at u1 u5 u6
  match j, ho with
  | 0, ho =>
    have e : o = keptS_ops0 := (Option.some.inj ho).symm; unfold keptS_ops0 at e
    subst e
    clear hdeps
    refine wpOp_step ho (fun K hK => ?_)
    clear ho
    go_simp
    exact hK _ _ ⟨_, act_putD x hdef _ _, rfl, Below.refl _ _⟩
  | 1, ho =>
    have e : o = keptS_ops1 := (Option.some.inj ho).symm; unfold keptS_ops1 at e
    subst e
    clear hdeps
    refine wpOp_step ho (fun K hK => ?_)
    clear ho
    go_simp
    exact hK _ _ ⟨_, act_putD x hdef _ _, rfl, Below.refl _ _⟩
  | 2, ho =>
    have e : o = keptS_ops2 := (Option.some.inj ho).symm; unfold keptS_ops2 at e
    subst e
    have q1 : x.tmps.getD 24 undef = .slice lA n cl := hdeps ⟨1, .data⟩ (by simp) rfl
    simp only [Array.getD_eq_getD_getElem?] at q1
    clear hdeps
    refine wpOp_step ho (fun K hK => ?_)
    clear ho
    go_simp
    exact hK _ _ ⟨_, act_putD x hdef _ _, rfl, Below.refl _ _⟩
  | 3, ho =>
    have e : o = keptS_ops3 := (Option.some.inj ho).symm; unfold keptS_ops3 at e
    subst e
    have q0 : x.tmps.getD 23 undef = .int .i64 (k : Nat) := hdeps ⟨0, .data⟩ (by simp) rfl
    have q2 : x.tmps.getD 25 undef = .int .i64 (n : Nat) := hdeps ⟨2, .data⟩ (by simp) rfl
    simp only [Array.getD_eq_getD_getElem?] at q0 q2
    clear hdeps
    have kz1 : (k : Int) < (n : Int) + 12 := by have := hkn.out; omega
    have kz0 : (0 : Int) ≤ (k : Int) := by omega
    have kz2 : (n : Int) ≤ (k : Int) := by have := hkn.out; omega
    have hd1 : decide ((k : Int) < (n : Int)) = false := decide_eq_false (by omega)
    have hd2 : decide (k < n) = false := decide_eq_false (by have := hkn.out; omega)
    refine wpOp_step ho (fun K hK => ?_)
    clear ho
    go_simp
    exact hK _ _ ⟨_, act_putD x hdef _ _, rfl, Below.refl _ _⟩
  | 4, ho =>
    have e : o = keptS_ops4 := (Option.some.inj ho).symm; unfold keptS_ops4 at e
    subst e
    have q3 : x.tmps.getD 26 undef = .bool false := hdeps ⟨3, .data⟩ (by simp) rfl
    simp only [Array.getD_eq_getD_getElem?] at q3
    clear hdeps
    refine wpOp_step ho (fun K hK => ?_)
    clear ho
    go_simp
    exact hK _ _ ⟨_, act_putD x hdef _ _, rfl, Below.refl _ _⟩
  | 5, ho =>
    have e : o = keptS_ops5 := (Option.some.inj ho).symm; unfold keptS_ops5 at e
    subst e
    have q4 : x.tmps.getD 27 undef = .bool false := hdeps ⟨4, .guard⟩ (by simp) rfl
    have e4 : (keptS_ops[4]?.bind fun x => x.dst) = some 27 := rfl
    have g4 := get_someE q4 (fun h => by cases h)
    simp only [Array.getD_eq_getD_getElem?] at q4
    clear hdeps
    refine wpOp_step ho (fun K hK => ?_)
    clear ho
    go_simp
    exact hK _ _ ⟨_, act_putD x hdef _ _, rfl, Below.refl _ _⟩
  | 6, ho =>
    have e : o = keptS_ops6 := (Option.some.inj ho).symm; unfold keptS_ops6 at e
    subst e
    have q4 : x.tmps.getD 27 undef = .bool false := hdeps ⟨4, .guard⟩ (by simp) rfl
    have e4 : (keptS_ops[4]?.bind fun x => x.dst) = some 27 := rfl
    have g4 := get_someE q4 (fun h => by cases h)
    simp only [Array.getD_eq_getD_getElem?] at q4
    clear hdeps
    refine wpOp_step ho (fun K hK => ?_)
    clear ho
    go_simp
    exact hK _ _ ⟨_, act_putD x hdef _ _, rfl, Below.refl _ _⟩
  | 7, ho =>
    have e : o = keptS_ops7 := (Option.some.inj ho).symm; unfold keptS_ops7 at e
    subst e
    have q5 : x.tmps.getD 28 undef = undef := hdeps ⟨5, .data⟩ (by simp) rfl
    have q6 : x.tmps.getD 29 undef = undef := hdeps ⟨6, .data⟩ (by simp) rfl
    have q4 : x.tmps.getD 27 undef = .bool false := hdeps ⟨4, .guard⟩ (by simp) rfl
    have e4 : (keptS_ops[4]?.bind fun x => x.dst) = some 27 := rfl
    have g4 := get_someE q4 (fun h => by cases h)
    simp only [Array.getD_eq_getD_getElem?] at q5 q6 q4
    clear hdeps
    refine wpOp_step ho (fun K hK => ?_)
    clear ho
    go_simp
    exact hK _ _ ⟨_, act_putD x hdef _ _, rfl, Below.refl _ _⟩
  | 8, ho =>
    have e : o = keptS_ops8 := (Option.some.inj ho).symm; unfold keptS_ops8 at e
    subst e
    have q7 : x.tmps.getD 30 undef = undef := hdeps ⟨7, .data⟩ (by simp) rfl
    have q4 : x.tmps.getD 27 undef = .bool false := hdeps ⟨4, .guard⟩ (by simp) rfl
    have e4 : (keptS_ops[4]?.bind fun x => x.dst) = some 27 := rfl
    have g4 := get_someE q4 (fun h => by cases h)
    simp only [Array.getD_eq_getD_getElem?] at q7 q4
    clear hdeps
    refine wpOp_step ho (fun K hK => ?_)
    clear ho
    go_simp
    exact hK _ _ ⟨_, act_putD x hdef _ _, rfl, Below.refl _ _⟩
  | 9, ho =>
    have e : o = keptS_ops9 := (Option.some.inj ho).symm; unfold keptS_ops9 at e
    subst e
    have q4 : x.tmps.getD 27 undef = .bool false := hdeps ⟨4, .guard⟩ (by simp) rfl
    have e4 : (keptS_ops[4]?.bind fun x => x.dst) = some 27 := rfl
    have g4 := get_someE q4 (fun h => by cases h)
    simp only [Array.getD_eq_getD_getElem?] at q4
    clear hdeps
    refine wpOp_step ho (fun K hK => ?_)
    clear ho
    go_simp
    exact hK _ _ ⟨_, act_putD x hdef _ _, rfl, Below.refl _ _⟩
  | 10, ho =>
    have e : o = keptS_ops10 := (Option.some.inj ho).symm; unfold keptS_ops10 at e
    subst e
    have q4 : x.tmps.getD 27 undef = .bool false := hdeps ⟨4, .guard⟩ (by simp) rfl
    have e4 : (keptS_ops[4]?.bind fun x => x.dst) = some 27 := rfl
    have g4 := get_someE q4 (fun h => by cases h)
    simp only [Array.getD_eq_getD_getElem?] at q4
    clear hdeps
    refine wpOp_step ho (fun K hK => ?_)
    clear ho
    go_simp
    exact hK _ _ ⟨_, act_putD x hdef _ _, rfl, Below.refl _ _⟩
  | 11, ho =>
    have e : o = keptS_ops11 := (Option.some.inj ho).symm; unfold keptS_ops11 at e
    subst e
    have q9 : x.tmps.getD 32 undef = undef := hdeps ⟨9, .data⟩ (by simp) rfl
    have q10 : x.tmps.getD 33 undef = undef := hdeps ⟨10, .data⟩ (by simp) rfl
    have q4 : x.tmps.getD 27 undef = .bool false := hdeps ⟨4, .guard⟩ (by simp) rfl
    have e4 : (keptS_ops[4]?.bind fun x => x.dst) = some 27 := rfl
    have g4 := get_someE q4 (fun h => by cases h)
    simp only [Array.getD_eq_getD_getElem?] at q9 q10 q4
    clear hdeps
    refine wpOp_step ho (fun K hK => ?_)
    clear ho
    go_simp
    exact hK _ _ ⟨_, act_putD x hdef _ _, rfl, Below.refl _ _⟩
  | 12, ho =>
    have e : o = keptS_ops12 := (Option.some.inj ho).symm; unfold keptS_ops12 at e
    subst e
    have q11 : x.tmps.getD 34 undef = undef := hdeps ⟨11, .data⟩ (by simp) rfl
    have q4 : x.tmps.getD 27 undef = .bool false := hdeps ⟨4, .guard⟩ (by simp) rfl
    have e4 : (keptS_ops[4]?.bind fun x => x.dst) = some 27 := rfl
    have g4 := get_someE q4 (fun h => by cases h)
    simp only [Array.getD_eq_getD_getElem?] at q11 q4
    clear hdeps
    refine wpOp_step ho (fun K hK => ?_)
    clear ho
    go_simp
    exact hK _ _ ⟨_, act_putD x hdef _ _, rfl, Below.refl _ _⟩
  | 13, ho =>
    have e : o = keptS_ops13 := (Option.some.inj ho).symm; unfold keptS_ops13 at e
    subst e
    have q8 : x.tmps.getD 31 undef = undef := hdeps ⟨8, .data⟩ (by simp) rfl
    have q12 : x.tmps.getD 35 undef = undef := hdeps ⟨12, .data⟩ (by simp) rfl
    have q4 : x.tmps.getD 27 undef = .bool false := hdeps ⟨4, .guard⟩ (by simp) rfl
    have e4 : (keptS_ops[4]?.bind fun x => x.dst) = some 27 := rfl
    have g4 := get_someE q4 (fun h => by cases h)
    simp only [Array.getD_eq_getD_getElem?] at q8 q12 q4
    clear hdeps
    refine wpOp_step ho (fun K hK => ?_)
    clear ho
    go_simp
    exact hK _ _ ⟨_, act_putD x hdef _ _, rfl, Below.refl _ _⟩
  | 14, ho =>
    have e : o = keptS_ops14 := (Option.some.inj ho).symm; unfold keptS_ops14 at e
    subst e
    have q13 : x.tmps.getD 36 undef = undef := hdeps ⟨13, .data⟩ (by simp) rfl
    have q4 : x.tmps.getD 27 undef = .bool false := hdeps ⟨4, .guard⟩ (by simp) rfl
    have e4 : (keptS_ops[4]?.bind fun x => x.dst) = some 27 := rfl
    have g4 := get_someE q4 (fun h => by cases h)
    simp only [Array.getD_eq_getD_getElem?] at q13 q4
    clear hdeps
    refine wpOp_step ho (fun K hK => ?_)
    clear ho
    go_simp
    exact hK _ _ ⟨_, act_putD x hdef _ _, rfl, Below.refl _ _⟩
  | 15, ho =>
    have e : o = keptS_ops15 := (Option.some.inj ho).symm; unfold keptS_ops15 at e
    subst e
    have q4 : x.tmps.getD 27 undef = .bool false := hdeps ⟨4, .data⟩ (by simp) rfl
    have q14 : x.tmps.getD 37 undef = undef := hdeps ⟨14, .data⟩ (by simp) rfl
    simp only [Array.getD_eq_getD_getElem?] at q4 q14
    clear hdeps
    refine wpOp_step ho (fun K hK => ?_)
    clear ho
    go_simp
    exact hK _ _ ⟨_, act_putD x hdef _ _, rfl, Below.refl _ _⟩
  | 16, ho =>
    have e : o = keptS_ops16 := (Option.some.inj ho).symm; unfold keptS_ops16 at e
    subst e
    have q15 : x.tmps.getD 38 undef = .bool false := hdeps ⟨15, .data⟩ (by simp) rfl
    simp only [Array.getD_eq_getD_getElem?] at q15
    clear hdeps
    refine wpOp_step ho (fun K hK => ?_)
    clear ho
    go_simp
    exact hK _ _ ⟨_, act_putD x hdef _ _, rfl, Below.refl _ _⟩
  | 17, ho =>
    have e : o = keptS_ops17 := (Option.some.inj ho).symm; unfold keptS_ops17 at e
    subst e
    have q16 : x.tmps.getD 39 undef = .bool false := hdeps ⟨16, .guard⟩ (by simp) rfl
    have e16 : (keptS_ops[16]?.bind fun x => x.dst) = some 39 := rfl
    have g16 := get_someE q16 (fun h => by cases h)
    simp only [Array.getD_eq_getD_getElem?] at q16
    clear hdeps
    refine wpOp_step ho (fun K hK => ?_)
    clear ho
    go_simp
    exact hK _ _ ⟨_, act_putD x hdef _ _, rfl, Below.refl _ _⟩
  | 18, ho =>
    have e : o = keptS_ops18 := (Option.some.inj ho).symm; unfold keptS_ops18 at e
    subst e
    have q16 : x.tmps.getD 39 undef = .bool false := hdeps ⟨16, .guard⟩ (by simp) rfl
    have e16 : (keptS_ops[16]?.bind fun x => x.dst) = some 39 := rfl
    have g16 := get_someE q16 (fun h => by cases h)
    simp only [Array.getD_eq_getD_getElem?] at q16
    clear hdeps
    refine wpOp_step ho (fun K hK => ?_)
    clear ho
    go_simp
    exact hK _ _ ⟨_, act_putD x hdef _ _, rfl, Below.refl _ _⟩
  | 19, ho =>
    have e : o = keptS_ops19 := (Option.some.inj ho).symm; unfold keptS_ops19 at e
    subst e
    have q18 : x.tmps.getD 41 undef = .slice lA n cl := hdeps ⟨18, .data⟩ (by simp) rfl
    have q16 : x.tmps.getD 39 undef = .bool false := hdeps ⟨16, .guard⟩ (by simp) rfl
    have e16 : (keptS_ops[16]?.bind fun x => x.dst) = some 39 := rfl
    have g16 := get_someE q16 (fun h => by cases h)
    simp only [Array.getD_eq_getD_getElem?] at q18 q16
    clear hdeps
    refine wpOp_step ho (fun K hK => ?_)
    clear ho
    go_simp
    exact hK _ _ ⟨_, act_putD x hdef _ _, rfl, Below.refl _ _⟩
  | 20, ho =>
    have e : o = keptS_ops20 := (Option.some.inj ho).symm; unfold keptS_ops20 at e
    subst e
    have q17 : x.tmps.getD 40 undef = .int .i64 (k : Nat) := hdeps ⟨17, .data⟩ (by simp) rfl
    have q19 : x.tmps.getD 42 undef = .int .i64 (n : Nat) := hdeps ⟨19, .data⟩ (by simp) rfl
    have q16 : x.tmps.getD 39 undef = .bool false := hdeps ⟨16, .guard⟩ (by simp) rfl
    have e16 : (keptS_ops[16]?.bind fun x => x.dst) = some 39 := rfl
    have g16 := get_someE q16 (fun h => by cases h)
    simp only [Array.getD_eq_getD_getElem?] at q17 q19 q16
    clear hdeps
    have kz1 : (k : Int) < (n : Int) + 12 := by have := hkn.out; omega
    have kz0 : (0 : Int) ≤ (k : Int) := by omega
    have kz2 : (n : Int) ≤ (k : Int) := by have := hkn.out; omega
    refine wpOp_step ho (fun K hK => ?_)
    clear ho
    go_simp
    exact hK _ _ ⟨_, act_putD x hdef _ _, rfl, Below.refl _ _⟩
  | 21, ho =>
    have e : o = keptS_ops21 := (Option.some.inj ho).symm; unfold keptS_ops21 at e
    subst e
    have q20 : x.tmps.getD 43 undef = .bool true := hdeps ⟨20, .data⟩ (by simp) rfl
    have q16 : x.tmps.getD 39 undef = .bool false := hdeps ⟨16, .guard⟩ (by simp) rfl
    have e16 : (keptS_ops[16]?.bind fun x => x.dst) = some 39 := rfl
    have g16 := get_someE q16 (fun h => by cases h)
    simp only [Array.getD_eq_getD_getElem?] at q20 q16
    clear hdeps
    refine wpOp_step ho (fun K hK => ?_)
    clear ho
    go_simp
    exact hK _ _ ⟨_, act_putD x hdef _ _, rfl, Below.refl _ _⟩
  | 22, ho =>
    have e : o = keptS_ops22 := (Option.some.inj ho).symm; unfold keptS_ops22 at e
    subst e
    have q21 : x.tmps.getD 44 undef = .bool true := hdeps ⟨21, .guard⟩ (by simp) rfl
    have e21 : (keptS_ops[21]?.bind fun x => x.dst) = some 44 := rfl
    have g21 := get_someE q21 (fun h => by cases h)
    simp only [Array.getD_eq_getD_getElem?] at q21
    clear hdeps
    refine wpOp_step ho (fun K hK => ?_)
    clear ho
    go_simp
    exact hK _ _ ⟨_, act_putD x hdef _ _, rfl, Below.refl _ _⟩
  | 23, ho =>
    have e : o = keptS_ops23 := (Option.some.inj ho).symm; unfold keptS_ops23 at e
    subst e
    have q21 : x.tmps.getD 44 undef = .bool true := hdeps ⟨21, .guard⟩ (by simp) rfl
    have e21 : (keptS_ops[21]?.bind fun x => x.dst) = some 44 := rfl
    have g21 := get_someE q21 (fun h => by cases h)
    simp only [Array.getD_eq_getD_getElem?] at q21
    clear hdeps
    refine wpOp_step ho (fun K hK => ?_)
    clear ho
    go_simp
    exact hK _ _ ⟨_, act_putD x hdef _ _, rfl, Below.refl _ _⟩
  | 24, ho =>
    have e : o = keptS_ops24 := (Option.some.inj ho).symm; unfold keptS_ops24 at e
    subst e
    have q22 : x.tmps.getD 45 undef = .slice (some ⟨R, 0, none⟩) (n + 12) (n + 12) := hdeps ⟨22, .data⟩ (by simp) rfl
    have q23 : x.tmps.getD 46 undef = .int .i64 (k : Nat) := hdeps ⟨23, .data⟩ (by simp) rfl
    have q21 : x.tmps.getD 44 undef = .bool true := hdeps ⟨21, .guard⟩ (by simp) rfl
    have e21 : (keptS_ops[21]?.bind fun x => x.dst) = some 44 := rfl
    have g21 := get_someE q21 (fun h => by cases h)
    simp only [Array.getD_eq_getD_getElem?] at q22 q23 q21
    clear hdeps
    have kz1 : (k : Int) < (n : Int) + 12 := by have := hkn.out; omega
    have kz0 : (0 : Int) ≤ (k : Int) := by omega
    have kz2 : (n : Int) ≤ (k : Int) := by have := hkn.out; omega
    refine wpOp_step ho (fun K hK => ?_)
    clear ho
    go_simp
    exact hK _ _ ⟨_, act_putD x hdef _ _, rfl, Below.refl _ _⟩
  | 25, ho =>
    have e : o = keptS_ops25 := (Option.some.inj ho).symm; unfold keptS_ops25 at e
    subst e
    have q24 : x.tmps.getD 47 undef = .pointer (some ⟨R, k * 4, none⟩) := hdeps ⟨24, .data⟩ (by simp) rfl
    have q21 : x.tmps.getD 44 undef = .bool true := hdeps ⟨21, .guard⟩ (by simp) rfl
    have e21 : (keptS_ops[21]?.bind fun x => x.dst) = some 44 := rfl
    have g21 := get_someE q21 (fun h => by cases h)
    simp only [Array.getD_eq_getD_getElem?] at q24 q21
    clear hdeps
    have c0 := cell_thru hq0 hB
    have c1 := cell_thru hq1 hB
    have c2 := cell_thru hq2 hB
    have c3 := cell_thru hq3 hB
    refine wpOp_step ho (fun K hK => ?_)
    clear ho
    go_simp
    exact hK _ _ ⟨_, act_putD x hdef _ _, rfl, Below.refl _ _⟩
  | 26, ho =>
    have e : o = keptS_ops26 := (Option.some.inj ho).symm; unfold keptS_ops26 at e
    subst e
    have q21 : x.tmps.getD 44 undef = .bool true := hdeps ⟨21, .guard⟩ (by simp) rfl
    have e21 : (keptS_ops[21]?.bind fun x => x.dst) = some 44 := rfl
    have g21 := get_someE q21 (fun h => by cases h)
    simp only [Array.getD_eq_getD_getElem?] at q21
    clear hdeps
    refine wpOp_step ho (fun K hK => ?_)
    clear ho
    go_simp
    exact hK _ _ ⟨_, act_putD x hdef _ _, rfl, Below.refl _ _⟩
  | 27, ho =>
    have e : o = keptS_ops27 := (Option.some.inj ho).symm; unfold keptS_ops27 at e
    subst e
    have q21 : x.tmps.getD 44 undef = .bool true := hdeps ⟨21, .guard⟩ (by simp) rfl
    have e21 : (keptS_ops[21]?.bind fun x => x.dst) = some 44 := rfl
    have g21 := get_someE q21 (fun h => by cases h)
    simp only [Array.getD_eq_getD_getElem?] at q21
    clear hdeps
    refine wpOp_step ho (fun K hK => ?_)
    clear ho
    go_simp
    exact hK _ _ ⟨_, act_putD x hdef _ _, rfl, Below.refl _ _⟩
  | 28, ho =>
    have e : o = keptS_ops28 := (Option.some.inj ho).symm; unfold keptS_ops28 at e
    subst e
    have q27 : x.tmps.getD 50 undef = .slice lA n cl := hdeps ⟨27, .data⟩ (by simp) rfl
    have q21 : x.tmps.getD 44 undef = .bool true := hdeps ⟨21, .guard⟩ (by simp) rfl
    have e21 : (keptS_ops[21]?.bind fun x => x.dst) = some 44 := rfl
    have g21 := get_someE q21 (fun h => by cases h)
    simp only [Array.getD_eq_getD_getElem?] at q27 q21
    clear hdeps
    refine wpOp_step ho (fun K hK => ?_)
    clear ho
    go_simp
    exact hK _ _ ⟨_, act_putD x hdef _ _, rfl, Below.refl _ _⟩
  | 29, ho =>
    have e : o = keptS_ops29 := (Option.some.inj ho).symm; unfold keptS_ops29 at e
    subst e
    have q26 : x.tmps.getD 49 undef = .int .i64 (k : Nat) := hdeps ⟨26, .data⟩ (by simp) rfl
    have q28 : x.tmps.getD 51 undef = .int .i64 (n : Nat) := hdeps ⟨28, .data⟩ (by simp) rfl
    have q21 : x.tmps.getD 44 undef = .bool true := hdeps ⟨21, .guard⟩ (by simp) rfl
    have e21 : (keptS_ops[21]?.bind fun x => x.dst) = some 44 := rfl
    have g21 := get_someE q21 (fun h => by cases h)
    simp only [Array.getD_eq_getD_getElem?] at q26 q28 q21
    clear hdeps
    have ks : IntKind.i64.wrap (jj : Int) = (jj : Int) := IntWalk.i64_in _ (by have := hkn.out; omega)
    have ks2 : (k : Int) - (n : Int) = (jj : Int) := by have := hkn.out; omega
    refine wpOp_step ho (fun K hK => ?_)
    clear ho
    go_simp
    exact hK _ _ ⟨_, act_putD x hdef _ _, rfl, Below.refl _ _⟩
  | 30, ho =>
    have e : o = keptS_ops30 := (Option.some.inj ho).symm; unfold keptS_ops30 at e
    subst e
    have q29 : x.tmps.getD 52 undef = .int .i64 (jj : Nat) := hdeps ⟨29, .data⟩ (by simp) rfl
    have q21 : x.tmps.getD 44 undef = .bool true := hdeps ⟨21, .guard⟩ (by simp) rfl
    have e21 : (keptS_ops[21]?.bind fun x => x.dst) = some 44 := rfl
    have g21 := get_someE q21 (fun h => by cases h)
    simp only [Array.getD_eq_getD_getElem?] at q29 q21
    clear hdeps
    refine wpOp_step ho (fun K hK => ?_)
    clear ho
    go_simp
    refine (cm w).mono ?_
    rintro e w' ⟨rfl, hb⟩
    exact hK _ _ ⟨_, act_putD x hdef _ _, rfl, hb⟩
  | 31, ho =>
    have e : o = keptS_ops31 := (Option.some.inj ho).symm; unfold keptS_ops31 at e
    subst e
    have q25 : x.tmps.getD 48 undef = .agg #[.int .i64 mz, .int .i64 0, .int .u32 0, .slice none 0 0] := hdeps ⟨25, .data⟩ (by simp) rfl
    have q30 : x.tmps.getD 53 undef = .agg #[.int .i64 mz, .int .i64 0, .int .u32 0, .slice none 0 0] := hdeps ⟨30, .data⟩ (by simp) rfl
    have q21 : x.tmps.getD 44 undef = .bool true := hdeps ⟨21, .guard⟩ (by simp) rfl
    have e21 : (keptS_ops[21]?.bind fun x => x.dst) = some 44 := rfl
    have g21 := get_someE q21 (fun h => by cases h)
    simp only [Array.getD_eq_getD_getElem?] at q25 q30 q21
    clear hdeps
    refine wpOp_step ho (fun K hK => ?_)
    clear ho
    go_simp
    refine (cs w).mono ?_
    rintro e w' ⟨rfl, hb⟩
    exact hK _ _ ⟨_, act_putD x hdef _ _, rfl, hb⟩
  | 32, ho =>
    have e : o = keptS_ops32 := (Option.some.inj ho).symm; unfold keptS_ops32 at e
    subst e
    have q31 : x.tmps.getD 54 undef = .bool true := hdeps ⟨31, .data⟩ (by simp) rfl
    have q21 : x.tmps.getD 44 undef = .bool true := hdeps ⟨21, .guard⟩ (by simp) rfl
    have e21 : (keptS_ops[21]?.bind fun x => x.dst) = some 44 := rfl
    have g21 := get_someE q21 (fun h => by cases h)
    simp only [Array.getD_eq_getD_getElem?] at q31 q21
    clear hdeps
    refine wpOp_step ho (fun K hK => ?_)
    clear ho
    go_simp
    exact hK _ _ ⟨_, act_putD x hdef _ _, rfl, Below.refl _ _⟩
  | 33, ho =>
    have e : o = keptS_ops33 := (Option.some.inj ho).symm; unfold keptS_ops33 at e
    subst e
    have q21 : x.tmps.getD 44 undef = .bool true := hdeps ⟨21, .data⟩ (by simp) rfl
    have q32 : x.tmps.getD 55 undef = .bool false := hdeps ⟨32, .data⟩ (by simp) rfl
    have q16 : x.tmps.getD 39 undef = .bool false := hdeps ⟨16, .guard⟩ (by simp) rfl
    have e16 : (keptS_ops[16]?.bind fun x => x.dst) = some 39 := rfl
    have g16 := get_someE q16 (fun h => by cases h)
    simp only [Array.getD_eq_getD_getElem?] at q21 q32 q16
    clear hdeps
    refine wpOp_step ho (fun K hK => ?_)
    clear ho
    go_simp
    exact hK _ _ ⟨_, act_putD x hdef _ _, rfl, Below.refl _ _⟩
  | 34, ho =>
    have e : o = keptS_ops34 := (Option.some.inj ho).symm; unfold keptS_ops34 at e
    subst e
    have q16 : x.tmps.getD 39 undef = .bool false := hdeps ⟨16, .data⟩ (by simp) rfl
    have q33 : x.tmps.getD 56 undef = .bool false := hdeps ⟨33, .data⟩ (by simp) rfl
    simp only [Array.getD_eq_getD_getElem?] at q16 q33
    clear hdeps
    refine wpOp_step ho (fun K hK => ?_)
    clear ho
    go_simp
    exact hK _ _ ⟨_, act_putD x hdef _ _, rfl, Below.refl _ _⟩
  | k + 35, _ => omega
 ·intro x w hB hdef hsz hs hv
  have hx := frame_sets x.tmps t0 hsz [23, 24, 25, 26, 27, 28, 29, 30, 31, 32, 33, 34, 35, 36, 37, 38, 39, 40, 41, 42, 43, 44, 45, 46, 47, 48, 49, 50, 51, 52, 53, 54, 55, 56, 57] (fun s hn => hs s (fun j hj e => hn (keptS_list s (by rw [e]; exact hsl j hj))))
  have hq := hQ (fun d => x.tmps.getD d undef) w hB (hv 34 (by decide))
  obtain ⟨T, Df⟩ := x
  dsimp only at hx hdef hq
  subst hdef
  rw [← hx] at hq
  exact hq
theorem keptShards_any (R : Nat) (a : Option Addr) (n ca : Nat) (P : Nat → Shd) (Qs : List Shd) (w : World) (hn : n ≤ 10000) (hl : ∀ i, i < n → (P i).D.length ≤ 10000) (ha : Shds w a n P) (hQ : LentS w R n P Qs) :
  Calls Tryz.prog 48 #[.slice (some ⟨R, 0, none⟩) n (n + 12), .slice a n ca] w fun e w' => e = .returned (.bool true) ∧ Below w.heap.size w w' := by
 have hn0 : (0 : Int) ≤ (n : Int) := by omega
 have hn1 : (n : Int) ≤ 10000 := by omega
 go_enter Tryz.func48, Tryz.ntmps48
 go_wp2
 go_loopg [6] (n + 12) (fun q s6 wr => ∃ k : Nat, k + q = n + 12 ∧ s6 = .int .i64 k ∧ Below w.heap.size w wr)
 case atStart => exact ⟨0, by omega, rfl, Below.refl _ _⟩
 case round =>
  obtain ⟨k, hkq, rfl, hbr⟩ := hrel
  have hk0 : (0 : Int) ≤ (k : Int) := by omega
  cases gk with
  | zero =>
    have hkz : ¬ ((k : Int) < (n : Int) + 12) := by omega
    clear ha hl hQ
    go_wp2
    go_ret
    exact ⟨rfl, hbr⟩
  | succ q =>
    have hkz : (k : Int) < (n : Int) + 12 := by omega
    have hQr := hQ.below hbr
    obtain ⟨e0, e1, e2, e3⟩ := rcS_get Qs k (by have := hQ.1; omega)
    have hc := hQr.2.1.cells (g := R) rfl
    have x0 := hc _ _ e0
    have x1 := hc _ _ e1
    have x2 := hc _ _ e2
    have x3 := hc _ _ e3
    rw [add_none' _ rfl] at x0 x1 x2 x3
    simp only [Nat.zero_add] at x0 x1 x2 x3
    by_cases hkn : k < n
    ·obtain ⟨b, off, rfl, ⟨y0, y1, y2, y3⟩, ok⟩ := (ha.below hbr).cells k hkn
     obtain ⟨hQN, hQZ, hQS, hQD, h, _, hpD, hcD, hblk⟩ := hQr.2.2.1 k hkn
     have hll := hl k hkn
     rw [hQN] at x0
     rw [hQZ] at x1
     rw [hQS] at x2
     rw [hpD, hQD, hcD] at x3
     have cs := fun W hW => keptShard_any (P k).N (P k).Z (P k).S (P k).D.length h (P k).cD (fun j => (P k).D.getD j 0) (P k).pD W (by omega) (hblk.below (w' := W) hW) (ok.bD.below hW)
     have HK := hide hkn
     clear ha hl hQ hQr hc e0 e1 e2 e3 ok hQN hQZ hQS hQD hpD hcD hblk hll hkn
     generalize (P k).N = N at *
     generalize (P k).Z = Z at *
     generalize (P k).S = S at *
     generalize (P k).D.length = l at *
     generalize (P k).cD = pc at *
     generalize (P k).pD = pp at *
     go_wp2
     refine keptSA n k 0 R b off ca S l h pc N Z 0 pp _ _ _ rfl rfl rfl rfl HK x0 x1 x2 x3 y0 y1 y2 y3 cs ?_
     intro vs w2 hB2 h57
     simp only [List.foldl_cons, List.foldl_nil, List.setIfInBounds_toArray, List.set_cons_succ, List.set_cons_zero]
     rw [h57]
     generalize vs 23 = z23
     generalize vs 24 = z24
     generalize vs 25 = z25
     generalize vs 26 = z26
     generalize vs 27 = z27
     generalize vs 28 = z28
     generalize vs 29 = z29
     generalize vs 30 = z30
     generalize vs 31 = z31
     generalize vs 32 = z32
     generalize vs 33 = z33
     generalize vs 34 = z34
     generalize vs 35 = z35
     generalize vs 36 = z36
     generalize vs 37 = z37
     generalize vs 38 = z38
     generalize vs 39 = z39
     generalize vs 40 = z40
     generalize vs 41 = z41
     generalize vs 42 = z42
     generalize vs 43 = z43
     generalize vs 44 = z44
     generalize vs 45 = z45
     generalize vs 46 = z46
     generalize vs 47 = z47
     generalize vs 48 = z48
     generalize vs 49 = z49
     generalize vs 50 = z50
     generalize vs 51 = z51
     generalize vs 52 = z52
     generalize vs 53 = z53
     generalize vs 54 = z54
     generalize vs 55 = z55
     generalize vs 56 = z56
     have HB := hide (hbr.trans (hB2.mono hbr.size))
     clear cs x0 x1 x2 x3 y0 y1 y2 y3 hB2
     go_wp2_with fail
     go_roundg q
     case measure => omega
     case rel => exact ⟨k + 1, by omega, by go_num, HB.out⟩
    ·obtain ⟨j, rfl⟩ : ∃ j, k = n + j := ⟨k - n, by omega⟩
     have hmk := hQr.2.2.2 j (by omega)
     unfold MOneS at hmk
     rw [hmk] at x0 x1 x2 x3
     have cm := fun W => markShard_any j W (by omega)
     have cs := fun W => sameShard_any (markI j) 0 0 0 (fun _ => 0) none none 0 0 W (by omega) (.inl rfl) (.inl rfl)
     have HK : Hid (n + j = n + j ∧ j < 12 ∧ n ≤ 1000000) := ⟨rfl, by omega, by omega⟩
     obtain ⟨k, hk⟩ : ∃ k, n + j = k := ⟨_, rfl⟩
     clear ha hl hQ hQr hc e0 e1 e2 e3 hmk
     rw [hk] at x0 x1 x2 x3 hkz hk0 hkq ⊢
     have HK2 : Hid (k = n + j ∧ j < 12 ∧ n ≤ 1000000) := ⟨hk.symm, HK.out.2.1, HK.out.2.2⟩
     clear HK hk hkn
     generalize markI j = mz at *
     go_wp2
     refine keptSB n k j R 0 0 ca 0 0 0 0 0 0 mz none a _ _ _ rfl rfl rfl rfl HK2 x0 x1 x2 x3 cm cs ?_
     intro vs w2 hB2 h57
     simp only [List.foldl_cons, List.foldl_nil, List.setIfInBounds_toArray, List.set_cons_succ, List.set_cons_zero]
     rw [h57]
     generalize vs 23 = z23
     generalize vs 24 = z24
     generalize vs 25 = z25
     generalize vs 26 = z26
     generalize vs 27 = z27
     generalize vs 28 = z28
     generalize vs 29 = z29
     generalize vs 30 = z30
     generalize vs 31 = z31
     generalize vs 32 = z32
     generalize vs 33 = z33
     generalize vs 34 = z34
     generalize vs 35 = z35
     generalize vs 36 = z36
     generalize vs 37 = z37
     generalize vs 38 = z38
     generalize vs 39 = z39
     generalize vs 40 = z40
     generalize vs 41 = z41
     generalize vs 42 = z42
     generalize vs 43 = z43
     generalize vs 44 = z44
     generalize vs 45 = z45
     generalize vs 46 = z46
     generalize vs 47 = z47
     generalize vs 48 = z48
     generalize vs 49 = z49
     generalize vs 50 = z50
     generalize vs 51 = z51
     generalize vs 52 = z52
     generalize vs 53 = z53
     generalize vs 54 = z54
     generalize vs 55 = z55
     generalize vs 56 = z56
     have HB := hide (hbr.trans (hB2.mono hbr.size))
     clear cs cm x0 x1 x2 x3 hB2
     go_wp2_with fail
     go_roundg q
     case measure => omega
     case rel => exact ⟨k + 1, by omega, by go_num, HB.out⟩
theorem keptMani_any (G : Int) (R : Nat) (a : Option Addr) (n ca : Nat) (P : Nat → Shd) (Qs : List Shd) (w : World) (hn : n ≤ 10000) (hl : ∀ i, i < n → (P i).D.length ≤ 10000) (ha : Shds w a n P) (hQ : LentS w R n P Qs) :
  Calls Tryz.prog 17 #[.agg #[.int .i64 G, .slice (some ⟨R, 0, none⟩) n (n + 12)], .agg #[.int .i64 G, .slice a n ca]] w fun e w' => e = .returned (.bool true) ∧ Below w.heap.size w w' := by
 have hok : ∀ i, i < n → (Lit.int .i64 (P i).N).wf = true ∧ (Lit.int .i64 (P i).Z).wf = true ∧ (P i).S < 4294967296 ∧ (∀ d ∈ (P i).D, (Lit.int .i64 d).wf = true) ∧ (P i).D.length ≤ 20000 := fun i hi => by
  obtain ⟨_, _, _, _, ok⟩ := ha.cells i hi
  exact ⟨ok.wN, ok.wZ, ok.lS, ok.wD, by have := hl i hi; omega⟩
 have hsm := fun (W : World) (hW : Below w.heap.size w W) => sameMani_any G (some ⟨R, 0, none⟩) a n (n + 12) ca (fun i => Qs.getD i dftS) P W (by omega) ((hQ.below hW).shds hok) (ha.below hW) (fun i hi => by
  have := hl i hi
  have e := congrArg ST.D (hQ.st i hi)
  simp only [Shd.st] at e
  rw [e]; omega) (fun i hi => hQ.st i hi)
 have hkp := fun (W : World) (hW : Below w.heap.size w W) => keptShards_any R a n ca P Qs W hn hl (ha.below hW) (hQ.below hW)
 obtain ⟨W1, hW1⟩ : ∃ W1, w.alloc (.cells #[.int .i64 G, .slice (some ⟨R, 0, none⟩) n (n + 12)] 24) = W1 := ⟨_, rfl⟩
 have hB1 : Below w.heap.size w W1 := by rw [← hW1]; exact below_alloc _ _
 have hs1 : W1.heap.size = w.heap.size + 1 := by rw [← hW1]; simp
 have h1 : W1.heap[w.heap.size]? = some (.cells #[.int .i64 G, .slice (some ⟨R, 0, none⟩) n (n + 12)] 24 (0, 0)) := by rw [← hW1]; exact heap_alloc_new _ _
 obtain ⟨W2, hW2⟩ : ∃ W2, W1.alloc (.cells #[.int .i64 G, .slice a n ca] 24) = W2 := ⟨_, rfl⟩
 have hB2 : Below W1.heap.size W1 W2 := by rw [← hW2]; exact below_alloc _ _
 have h2 : W2.heap[W1.heap.size]? = some (.cells #[.int .i64 G, .slice a n ca] 24 (0, 0)) := by rw [← hW2]; exact heap_alloc_new _ _
 have h12 := (hB2.block _ (block_lt h1)).trans h1
 obtain ⟨e0, e1⟩ := cells2_at h12
 obtain ⟨d0, d1⟩ := cells2_at h2
 have hB : Below w.heap.size w W2 := hB1.trans (hB2.mono hB1.size)
 have hs2 := hsm W2 hB
 have H := hide (And.intro h12 (And.intro h2 hB))
 clear ha hQ hsm h1 h2 h12 hs1 hn hl hok
 go_enter Tryz.func17, Tryz.ntmps17
 go_wp2_with fail
 refine hs2.mono ?_
 rintro e w3 ⟨rfl, hB3⟩
 have hB23 := H.out.2.2.trans (hB3.mono H.out.2.2.size)
 have hk := hkp w3 hB23
 obtain ⟨c0, c1⟩ := cells2_at ((hB3.block _ (block_lt H.out.1)).trans H.out.1)
 obtain ⟨f0, f1⟩ := cells2_at ((hB3.block _ (block_lt H.out.2.1)).trans H.out.2.1)
 have H3 := hide hB23
 clear hkp hs2 hB3 hB23 e0 e1 d0 d1
 go_wp2_with fail
 refine hk.mono ?_
 rintro e w4 ⟨rfl, hB4⟩
 go_wp2_with fail
 go_ret
 exact ⟨rfl, H3.out.trans (hB4.mono H3.out.size)⟩
open Go.RowKit
abbrev mputs_ops0 : Oper := ⟨some 31, .move (.tmp 5), 29, "law.go:38", #[], none⟩
abbrev mputs_ops1 : Oper := ⟨some 32, .move (.tmp 7), 29, "law.go:38", #[], none⟩
abbrev mputs_ops2 : Oper := ⟨some 33, .binOp .eql 29 (.tmp 31) (.tmp 32) 29, 4, "law.go:38", #[⟨0, .data⟩, ⟨1, .data⟩], none⟩
abbrev mputs_ops3 : Oper := ⟨some 34, .move (.tmp 33), 4, "law.go:38", #[⟨2, .data⟩], none⟩
abbrev mputs_ops4 : Oper := ⟨some 35, .move (.tmp 4), 28, "law.go:38", #[⟨3, .guard⟩], some (3, true)⟩
abbrev mputs_ops5 : Oper := ⟨some 36, .move (.tmp 6), 28, "law.go:38", #[⟨3, .guard⟩], some (3, true)⟩
abbrev mputs_ops6 : Oper := ⟨some 37, .call ⟨.value (.func 14), #[.tmp 35, .tmp 36], #[28, 28]⟩, 4, "law.go:38", #[⟨4, .data⟩, ⟨5, .data⟩, ⟨3, .chain⟩, ⟨3, .guard⟩], some (3, true)⟩
abbrev mputs_ops7 : Oper := ⟨some 38, .pick (.tmp 34) (.tmp 37) (.const (.bool false)), 4, "law.go:38", #[⟨3, .data⟩, ⟨6, .data⟩], none⟩
abbrev mputs_ops8 : Oper := ⟨some 39, .move (.tmp 38), 4, "law.go:38", #[⟨7, .data⟩, ⟨6, .chain⟩], none⟩
abbrev mputs_ops9 : Oper := ⟨some 40, .load 24 (.tmp 3), 24, "law.go:38", #[⟨8, .guard⟩], some (8, true)⟩
abbrev mputs_ops10 : Oper := ⟨some 41, .call ⟨.value (.func 15), #[.tmp 40], #[24]⟩, 4, "law.go:38", #[⟨9, .data⟩, ⟨8, .chain⟩, ⟨8, .guard⟩], some (8, true)⟩
abbrev mputs_ops11 : Oper := ⟨some 42, .load 24 (.tmp 1), 24, "law.go:38", #[⟨8, .guard⟩], some (8, true)⟩
abbrev mputs_ops12 : Oper := ⟨some 43, .call ⟨.value (.func 16), #[.tmp 42], #[24]⟩, 4, "law.go:38", #[⟨11, .data⟩, ⟨10, .chain⟩, ⟨8, .guard⟩], some (8, true)⟩
abbrev mputs_ops13 : Oper := ⟨some 44, .binOp .eql 4 (.tmp 41) (.tmp 43) 4, 4, "law.go:38", #[⟨10, .data⟩, ⟨12, .data⟩, ⟨8, .guard⟩], some (8, true)⟩
abbrev mputs_ops14 : Oper := ⟨some 45, .pick (.tmp 39) (.tmp 44) (.const (.bool false)), 4, "law.go:38", #[⟨8, .data⟩, ⟨13, .data⟩], none⟩
abbrev mputs_ops15 : Oper := ⟨some 46, .move (.tmp 45), 4, "law.go:38", #[⟨14, .data⟩, ⟨12, .chain⟩], none⟩
abbrev mputs_ops16 : Oper := ⟨some 47, .load 24 (.tmp 3), 24, "law.go:38", #[⟨15, .guard⟩], some (15, true)⟩
abbrev mputs_ops17 : Oper := ⟨some 48, .load 24 (.tmp 1), 24, "law.go:38", #[⟨15, .guard⟩], some (15, true)⟩
abbrev mputs_ops18 : Oper := ⟨some 49, .call ⟨.value (.func 17), #[.tmp 47, .tmp 48], #[24, 24]⟩, 4, "law.go:38", #[⟨16, .data⟩, ⟨17, .data⟩, ⟨15, .chain⟩, ⟨15, .guard⟩], some (15, true)⟩
abbrev mputs_ops19 : Oper := ⟨some 50, .pick (.tmp 46) (.tmp 49) (.const (.bool false)), 4, "law.go:38", #[⟨15, .data⟩, ⟨18, .data⟩], none⟩
abbrev mputs_ops20 : Oper := ⟨some 51, .move (.tmp 50), 4, "law.go:38", #[⟨19, .data⟩, ⟨18, .chain⟩], none⟩
abbrev mputs_ops21 : Oper := ⟨some 52, .move (.tmp 4), 28, "law.go:38", #[⟨20, .guard⟩], some (20, true)⟩
abbrev mputs_ops22 : Oper := ⟨some 53, .move (.tmp 8), 28, "law.go:38", #[⟨20, .guard⟩], some (20, true)⟩
abbrev mputs_ops23 : Oper := ⟨some 54, .buildSlice 36 2 #[(0, .tmp 52), (1, .tmp 53)], 36, "law.go:38", #[⟨21, .data⟩, ⟨22, .data⟩, ⟨20, .guard⟩], some (20, true)⟩
abbrev mputs_ops24 : Oper := ⟨some 55, .call ⟨.value (.func 18), #[.tmp 54], #[36]⟩, 4, "law.go:38", #[⟨23, .data⟩, ⟨20, .chain⟩, ⟨20, .guard⟩], some (20, true)⟩
abbrev mputs_ops25 : Oper := ⟨some 56, .pick (.tmp 51) (.tmp 55) (.const (.bool false)), 4, "law.go:38", #[⟨20, .data⟩, ⟨24, .data⟩], none⟩
abbrev mputs_ops26 : Oper := ⟨some 57, .move (.tmp 56), 4, "law.go:38", #[⟨25, .data⟩, ⟨24, .chain⟩], none⟩
abbrev mputs_ops27 : Oper := ⟨some 58, .load 24 (.tmp 3), 24, "law.go:38", #[⟨26, .guard⟩], some (26, true)⟩
abbrev mputs_ops28 : Oper := ⟨some 59, .load 24 (.tmp 1), 24, "law.go:38", #[⟨26, .guard⟩], some (26, true)⟩
abbrev mputs_ops29 : Oper := ⟨some 60, .call ⟨.value (.func 17), #[.tmp 58, .tmp 59], #[24, 24]⟩, 4, "law.go:38", #[⟨27, .data⟩, ⟨28, .data⟩, ⟨26, .chain⟩, ⟨26, .guard⟩], some (26, true)⟩
abbrev mputs_ops30 : Oper := ⟨some 61, .pick (.tmp 57) (.tmp 60) (.const (.bool false)), 4, "law.go:38", #[⟨26, .data⟩, ⟨29, .data⟩], none⟩
abbrev mputs_ops31 : Oper := ⟨some 62, .move (.tmp 61), 4, "law.go:38", #[⟨30, .data⟩, ⟨29, .chain⟩], none⟩
abbrev mputs_ops32 : Oper := ⟨some 63, .call ⟨.value (.func 10), #[], #[]⟩, 4, "law.go:38", #[⟨31, .chain⟩, ⟨31, .guard⟩], some (31, true)⟩
abbrev mputs_ops33 : Oper := ⟨some 64, .pick (.tmp 62) (.tmp 63) (.const (.bool false)), 4, "law.go:38", #[⟨31, .data⟩, ⟨32, .data⟩], none⟩
abbrev mputs_ops34 : Oper := ⟨some 2, .assign (.tmp 64), 4, "law.go:38", #[⟨33, .data⟩, ⟨32, .chain⟩, ⟨0, .phase⟩, ⟨1, .phase⟩, ⟨2, .phase⟩, ⟨3, .phase⟩, ⟨4, .phase⟩, ⟨5, .phase⟩, ⟨6, .phase⟩, ⟨7, .phase⟩, ⟨8, .phase⟩, ⟨9, .phase⟩, ⟨10, .phase⟩, ⟨11, .phase⟩, ⟨12, .phase⟩, ⟨13, .phase⟩, ⟨14, .phase⟩, ⟨15, .phase⟩, ⟨16, .phase⟩, ⟨17, .phase⟩, ⟨18, .phase⟩, ⟨19, .phase⟩, ⟨20, .phase⟩, ⟨21, .phase⟩, ⟨22, .phase⟩, ⟨23, .phase⟩, ⟨24, .phase⟩, ⟨25, .phase⟩, ⟨26, .phase⟩, ⟨27, .phase⟩, ⟨28, .phase⟩, ⟨29, .phase⟩, ⟨30, .phase⟩, ⟨31, .phase⟩, ⟨32, .phase⟩, ⟨33, .phase⟩], none⟩
def mputs_ops : Array Oper := #[mputs_ops0, mputs_ops1, mputs_ops2, mputs_ops3, mputs_ops4, mputs_ops5, mputs_ops6, mputs_ops7, mputs_ops8, mputs_ops9, mputs_ops10, mputs_ops11, mputs_ops12, mputs_ops13, mputs_ops14, mputs_ops15, mputs_ops16, mputs_ops17, mputs_ops18, mputs_ops19, mputs_ops20, mputs_ops21, mputs_ops22, mputs_ops23, mputs_ops24, mputs_ops25, mputs_ops26, mputs_ops27, mputs_ops28, mputs_ops29, mputs_ops30, mputs_ops31, mputs_ops32, mputs_ops33, mputs_ops34]
def mputs_slot : Nat → Nat
 | 0 => 31
 | 1 => 32
 | 2 => 33
 | 3 => 34
 | 4 => 35
 | 5 => 36
 | 6 => 37
 | 7 => 38
 | 8 => 39
 | 9 => 40
 | 10 => 41
 | 11 => 42
 | 12 => 43
 | 13 => 44
 | 14 => 45
 | 15 => 46
 | 16 => 47
 | 17 => 48
 | 18 => 49
 | 19 => 50
 | 20 => 51
 | 21 => 52
 | 22 => 53
 | 23 => 54
 | 24 => 55
 | 25 => 56
 | 26 => 57
 | 27 => 58
 | 28 => 59
 | 29 => 60
 | 30 => 61
 | 31 => 62
 | 32 => 63
 | 33 => 64
 | 34 => 2
 | j + 35 => 1065 + j
theorem mputs_inj (i j : Nat) (hi : i < 35) (hj : j < 35) (h : mputs_slot i = mputs_slot j) : i = j := by
 have key : ∀ i j : Fin 35, mputs_slot i.val = mputs_slot j.val → i = j := by decide
 exact Fin.mk.inj (key ⟨i, hi⟩ ⟨j, hj⟩ h)
def mputs_pre : Nat → Bool
 | 0 => true
 | 1 => true
 | 2 => true
 | 3 => true
 | 4 => true
 | 5 => true
 | 6 => true
 | 7 => true
 | 8 => true
 | 9 => true
 | 10 => true
 | 11 => true
 | 12 => true
 | 13 => true
 | 14 => true
 | 15 => true
 | 16 => true
 | 17 => true
 | 18 => true
 | 19 => true
 | 20 => true
 | 21 => true
 | 22 => true
 | 23 => true
 | _ => false
def mputsR_val (n cap R bl bm s C2 C3 C4 : Nat) (G er : Int) (rr : Bool) (a A2 A3 A4 : Option Addr) (F : Nat → Prop) : Bool → Nat → Value → World → Prop
 | false, 0, v, w => v = .int .i64 er
 | true, 0, v, w => v = .int .i64 er
 | false, 1, v, w => v = .int .i64 er
 | true, 1, v, w => v = .int .i64 er
 | false, 2, v, w => v = .bool true
 | true, 2, v, w => v = .bool true
 | false, 3, v, w => v = .bool true
 | true, 3, v, w => v = .bool true
 | false, 4, v, w => v = .slice A2 s C2
 | true, 4, v, w => v = .slice A2 s C2
 | false, 5, v, w => v = .slice A3 s C3
 | true, 5, v, w => v = .slice A3 s C3
 | false, 6, v, w => v = .bool true
 | true, 6, v, w => v = .bool true
 | false, 7, v, w => v = .bool true
 | true, 7, v, w => v = .bool true
 | false, 8, v, w => v = .bool true
 | true, 8, v, w => v = .bool true
 | false, 9, v, w => v = .agg #[.int .i64 G, .slice (some ⟨R, 0, none⟩) n (n + 12)]
 | true, 9, v, w => v = .agg #[.int .i64 G, .slice (some ⟨R, 0, none⟩) n (n + 12)]
 | false, 10, v, w => v = .bool rr
 | true, 10, v, w => v = .bool rr
 | false, 11, v, w => v = .agg #[.int .i64 G, .slice a n cap]
 | true, 11, v, w => v = .agg #[.int .i64 G, .slice a n cap]
 | false, 12, v, w => v = .bool rr
 | true, 12, v, w => v = .bool rr
 | false, 13, v, w => v = .bool true
 | true, 13, v, w => v = .bool true
 | false, 14, v, w => v = .bool true
 | true, 14, v, w => v = .bool true
 | false, 15, v, w => v = .bool true
 | true, 15, v, w => v = .bool true
 | false, 16, v, w => v = .agg #[.int .i64 G, .slice (some ⟨R, 0, none⟩) n (n + 12)]
 | true, 16, v, w => v = .agg #[.int .i64 G, .slice (some ⟨R, 0, none⟩) n (n + 12)]
 | false, 17, v, w => v = .agg #[.int .i64 G, .slice a n cap]
 | true, 17, v, w => v = .agg #[.int .i64 G, .slice a n cap]
 | false, 18, v, w => v = .bool true
 | true, 18, v, w => v = .bool true
 | false, 19, v, w => v = .bool true
 | true, 19, v, w => v = .bool true
 | false, 20, v, w => v = .bool true
 | true, 20, v, w => v = .bool true
 | false, 21, v, w => v = .slice A2 s C2
 | true, 21, v, w => v = .slice A2 s C2
 | false, 22, v, w => v = .slice A4 s C4
 | true, 22, v, w => v = .slice A4 s C4
 | false, 23, v, w => ∃ g, v = .slice (some ⟨g, 0, none⟩) 2 2 ∧ w.heap[g]? = some (.cells #[.slice A2 s C2, .slice A4 s C4] 28 (0, 0))
 | true, 23, v, w => True
 | false, 24, v, w => False
 | true, 24, v, w => v = .bool true
 | false, 25, v, w => False
 | true, 25, v, w => v = .bool true
 | false, 26, v, w => False
 | true, 26, v, w => v = .bool true
 | false, 27, v, w => False
 | true, 27, v, w => v = .agg #[.int .i64 G, .slice (some ⟨R, 0, none⟩) n (n + 12)]
 | false, 28, v, w => False
 | true, 28, v, w => v = .agg #[.int .i64 G, .slice a n cap]
 | false, 29, v, w => False
 | true, 29, v, w => v = .bool true
 | false, 30, v, w => False
 | true, 30, v, w => v = .bool true
 | false, 31, v, w => False
 | true, 31, v, w => v = .bool true
 | false, 32, v, w => False
 | true, 32, v, w => v = .bool true
 | false, 33, v, w => False
 | true, 33, v, w => v = .bool true
 | false, 34, v, w => False
 | true, 34, v, w => v = .bool true
 | _, _, _, _ => True
theorem mputsR_below (n cap R bl bm s C2 C3 C4 : Nat) (G er : Int) (rr : Bool) (a A2 A3 A4 : Option Addr) (F : Nat → Prop) (b : Bool) (w w' : World) (hb : Below w.heap.size w w') : ∀ j v, mputsR_val n cap R bl bm s C2 C3 C4 G er rr a A2 A3 A4 F b j v w → mputsR_val n cap R bl bm s C2 C3 C4 G er rr a A2 A3 A4 F b j v w' := by
 intro j v h
 match b, j, h with
 | false, 0, h => exact h
 | true, 0, h => exact h
 | false, 1, h => exact h
 | true, 1, h => exact h
 | false, 2, h => exact h
 | true, 2, h => exact h
 | false, 3, h => exact h
 | true, 3, h => exact h
 | false, 4, h => exact h
 | true, 4, h => exact h
 | false, 5, h => exact h
 | true, 5, h => exact h
 | false, 6, h => exact h
 | true, 6, h => exact h
 | false, 7, h => exact h
 | true, 7, h => exact h
 | false, 8, h => exact h
 | true, 8, h => exact h
 | false, 9, h => exact h
 | true, 9, h => exact h
 | false, 10, h => exact h
 | true, 10, h => exact h
 | false, 11, h => exact h
 | true, 11, h => exact h
 | false, 12, h => exact h
 | true, 12, h => exact h
 | false, 13, h => exact h
 | true, 13, h => exact h
 | false, 14, h => exact h
 | true, 14, h => exact h
 | false, 15, h => exact h
 | true, 15, h => exact h
 | false, 16, h => exact h
 | true, 16, h => exact h
 | false, 17, h => exact h
 | true, 17, h => exact h
 | false, 18, h => exact h
 | true, 18, h => exact h
 | false, 19, h => exact h
 | true, 19, h => exact h
 | false, 20, h => exact h
 | true, 20, h => exact h
 | false, 21, h => exact h
 | true, 21, h => exact h
 | false, 22, h => exact h
 | true, 22, h => exact h
 | false, 23, h => obtain ⟨g, h1, h2⟩ := h; exact ⟨g, h1, (hb.block _ (block_lt h2)).trans h2⟩
 | true, 23, h => exact h
 | false, 24, h => exact h
 | true, 24, h => exact h
 | false, 25, h => exact h
 | true, 25, h => exact h
 | false, 26, h => exact h
 | true, 26, h => exact h
 | false, 27, h => exact h
 | true, 27, h => exact h
 | false, 28, h => exact h
 | true, 28, h => exact h
 | false, 29, h => exact h
 | true, 29, h => exact h
 | false, 30, h => exact h
 | true, 30, h => exact h
 | false, 31, h => exact h
 | true, 31, h => exact h
 | false, 32, h => exact h
 | true, 32, h => exact h
 | false, 33, h => exact h
 | true, 33, h => exact h
 | false, 34, h => exact h
 | true, 34, h => exact h
 | false, _ + 35, h => exact h
 | true, _ + 35, h => exact h
abbrev mputs_mem (s : Nat) : Prop := s ∈ [31, 32, 33, 34, 35, 36, 37, 38, 39, 40, 41, 42, 43, 44, 45, 46, 47, 48, 49, 50, 51, 52, 53, 54, 55, 56, 57, 58, 59, 60, 61, 62, 63, 64, 2]
theorem mputsR (n cap R bl bm s C2 C3 C4 : Nat) (G er : Int) (rr : Bool) (a A2 A3 A4 : Option Addr) (F : Nat → Prop) (Q : Exit → Act → World → Prop) (t0 : Array Value) (df : List Deferred) (w0 : World) (ht : t0.size = 65)
  (hs1 : t0.getD 1 undef = .pointer (some ⟨bm, 0, none⟩)) (hs3 : t0.getD 3 undef = .pointer (some ⟨bl, 0, none⟩)) (hs4 : t0.getD 4 undef = .slice A2 s C2) (hs5 : t0.getD 5 undef = .int .i64 er) (hs6 : t0.getD 6 undef = .slice A3 s C3) (hs7 : t0.getD 7 undef = .int .i64 er) (hs8 : t0.getD 8 undef = .slice A4 s C4)
  (hl0 : w0.cell? ⟨bl, 0, none⟩ = some (.int .i64 G)) (hl1 : w0.cell? ⟨bl, 1, none⟩ = some (.slice (some ⟨R, 0, none⟩) n (n + 12))) (hm0 : w0.cell? ⟨bm, 0, none⟩ = some (.int .i64 G)) (hm1 : w0.cell? ⟨bm, 1, none⟩ = some (.slice a n cap)) (hFl : ¬ F bl) (hFm : ¬ F bm)
  (csb : ∀ W, Below w0.heap.size w0 W → Calls Tryz.prog 14 #[.slice A2 s C2, .slice A3 s C3] W fun e w' => e = .returned (.bool true) ∧ Below W.heap.size W w')
  (crt : ∀ W, Below w0.heap.size w0 W → Calls Tryz.prog 15 #[.agg #[.int .i64 G, .slice (some ⟨R, 0, none⟩) n (n + 12)]] W fun e w' => e = .returned (.bool rr) ∧ Below W.heap.size W w')
  (crr : ∀ W, Below w0.heap.size w0 W → Calls Tryz.prog 16 #[.agg #[.int .i64 G, .slice a n cap]] W fun e w' => e = .returned (.bool rr) ∧ Below W.heap.size W w')
  (ck1 : ∀ W, Below w0.heap.size w0 W → Calls Tryz.prog 17 #[.agg #[.int .i64 G, .slice (some ⟨R, 0, none⟩) n (n + 12)], .agg #[.int .i64 G, .slice a n cap]] W fun e w' => e = .returned (.bool true) ∧ Below W.heap.size W w')
  (cap2 : ∀ W g, Below w0.heap.size w0 W → W.heap[g]? = some (.cells #[.slice A2 s C2, .slice A4 s C4] 28 (0, 0)) → Calls Tryz.prog 18 #[.slice (some ⟨g, 0, none⟩) 2 2] W fun e w' => e = .returned (.bool true) ∧ Kept F W w')
  (ck2 : ∀ W, Kept F w0 W → Calls Tryz.prog 17 #[.agg #[.int .i64 G, .slice (some ⟨R, 0, none⟩) n (n + 12)], .agg #[.int .i64 G, .slice a n cap]] W fun e w' => e = .returned (.bool true) ∧ Below W.heap.size W w')
  (caw : ∀ W, Calls Tryz.prog 10 #[] W fun e w' => e = .returned (.bool true) ∧ Below W.heap.size W w')
  (hQ : ∀ (vs : Nat → Value) (w : World), Kept F w0 w → vs 2 = .bool true → Q .normal { tmps := [31, 32, 33, 34, 35, 36, 37, 38, 39, 40, 41, 42, 43, 44, 45, 46, 47, 48, 49, 50, 51, 52, 53, 54, 55, 56, 57, 58, 59, 60, 61, 62, 63, 64, 2].foldl (fun y d => y.setIfInBounds d (vs d)) t0, defers := df } w) :
  (Code.region 7 mputs_ops true).wp Tryz.prog Q { tmps := t0, defers := df } w0 := by
 have hsl : ∀ j, j < 35 → mputs_mem (mputs_slot j) := by
  intro j hj
  match j, hj with
  | 0, _ => exact (by decide : mputs_mem 31)
  | 1, _ => exact (by decide : mputs_mem 32)
  | 2, _ => exact (by decide : mputs_mem 33)
  | 3, _ => exact (by decide : mputs_mem 34)
  | 4, _ => exact (by decide : mputs_mem 35)
  | 5, _ => exact (by decide : mputs_mem 36)
  | 6, _ => exact (by decide : mputs_mem 37)
  | 7, _ => exact (by decide : mputs_mem 38)
  | 8, _ => exact (by decide : mputs_mem 39)
  | 9, _ => exact (by decide : mputs_mem 40)
  | 10, _ => exact (by decide : mputs_mem 41)
  | 11, _ => exact (by decide : mputs_mem 42)
  | 12, _ => exact (by decide : mputs_mem 43)
  | 13, _ => exact (by decide : mputs_mem 44)
  | 14, _ => exact (by decide : mputs_mem 45)
  | 15, _ => exact (by decide : mputs_mem 46)
  | 16, _ => exact (by decide : mputs_mem 47)
  | 17, _ => exact (by decide : mputs_mem 48)
  | 18, _ => exact (by decide : mputs_mem 49)
  | 19, _ => exact (by decide : mputs_mem 50)
  | 20, _ => exact (by decide : mputs_mem 51)
  | 21, _ => exact (by decide : mputs_mem 52)
  | 22, _ => exact (by decide : mputs_mem 53)
  | 23, _ => exact (by decide : mputs_mem 54)
  | 24, _ => exact (by decide : mputs_mem 55)
  | 25, _ => exact (by decide : mputs_mem 56)
  | 26, _ => exact (by decide : mputs_mem 57)
  | 27, _ => exact (by decide : mputs_mem 58)
  | 28, _ => exact (by decide : mputs_mem 59)
  | 29, _ => exact (by decide : mputs_mem 60)
  | 30, _ => exact (by decide : mputs_mem 61)
  | 31, _ => exact (by decide : mputs_mem 62)
  | 32, _ => exact (by decide : mputs_mem 63)
  | 33, _ => exact (by decide : mputs_mem 64)
  | 34, _ => exact (by decide : mputs_mem 2)
  | k + 35, hj => omega
 refine wp_region_pivot 35 24 (by kernel_rfl) ?_ (by decide) mputs_pre mputs_slot (mputsR_val n cap R bl bm s C2 C3 C4 G er rr a A2 A3 A4 F) (Kept F w0) t0 df w0 ?_ (mputs_inj) ?_ ?_ rfl (mputsR_below n cap R bl bm s C2 C3 C4 G er rr a A2 A3 A4 F) ?_ ?_ ?_ ?_
 ·exact .inl rfl
 ·intro j o ho hj
  rw [ht]
  match j, ho, hj with
  | 0, ho, _ | 1, ho, _ | 2, ho, _ | 3, ho, _ | 4, ho, _ | 5, ho, _ | 6, ho, _ | 7, ho, _ | 8, ho, _ | 9, ho, _ | 10, ho, _ | 11, ho, _ | 12, ho, _ | 13, ho, _ | 14, ho, _ | 15, ho, _ | 16, ho, _ | 17, ho, _ | 18, ho, _ | 19, ho, _ | 20, ho, _ | 21, ho, _ | 22, ho, _ | 23, ho, _ | 24, ho, _ | 25, ho, _ | 26, ho, _ | 27, ho, _ | 28, ho, _ | 29, ho, _ | 30, ho, _ | 31, ho, _ | 32, ho, _ | 33, ho, _ | 34, ho, _ => cases ho; exact ⟨rfl, by decide⟩
  | k + 35, _, hj => omega
 ·intro j o ho
  have hj : j < 35 := (Array.getElem?_eq_some_iff.1 ho).1
  match j, ho with
  | 0, ho | 1, ho | 2, ho | 3, ho | 4, ho | 5, ho | 6, ho | 7, ho | 8, ho | 9, ho | 10, ho | 11, ho | 12, ho | 13, ho | 14, ho | 15, ho | 16, ho | 17, ho | 18, ho | 19, ho | 20, ho | 21, ho | 22, ho | 23, ho | 24, ho | 25, ho | 26, ho | 27, ho | 28, ho | 29, ho | 30, ho | 31, ho | 32, ho | 33, ho | 34, ho => cases ho; decide
  | k + 35, _ => omega
 ·intro listed o hup ho hd
  have e : o = mputs_ops24 := (Option.some.inj ho).symm; unfold mputs_ops24 at e
  subst e
  have l23 : listed.getD 23 false = true := hd ⟨23, .data⟩ (by simp) rfl
  have l20 : listed.getD 20 false = true := hd ⟨20, .chain⟩ (by simp) rfl
  have l21 : listed.getD 21 false = true := hup 23 ⟨some 54, .buildSlice 36 2 #[(0, .tmp 52), (1, .tmp 53)], 36, "law.go:38", #[⟨21, .data⟩, ⟨22, .data⟩, ⟨20, .guard⟩], some (20, true)⟩ rfl l23 ⟨21, .data⟩ (by simp) rfl
  have l22 : listed.getD 22 false = true := hup 23 ⟨some 54, .buildSlice 36 2 #[(0, .tmp 52), (1, .tmp 53)], 36, "law.go:38", #[⟨21, .data⟩, ⟨22, .data⟩, ⟨20, .guard⟩], some (20, true)⟩ rfl l23 ⟨22, .data⟩ (by simp) rfl
  have l19 : listed.getD 19 false = true := hup 20 ⟨some 51, .move (.tmp 50), 4, "law.go:38", #[⟨19, .data⟩, ⟨18, .chain⟩], none⟩ rfl l20 ⟨19, .data⟩ (by simp) rfl
  have l18 : listed.getD 18 false = true := hup 20 ⟨some 51, .move (.tmp 50), 4, "law.go:38", #[⟨19, .data⟩, ⟨18, .chain⟩], none⟩ rfl l20 ⟨18, .chain⟩ (by simp) rfl
  have l15 : listed.getD 15 false = true := hup 19 ⟨some 50, .pick (.tmp 46) (.tmp 49) (.const (.bool false)), 4, "law.go:38", #[⟨15, .data⟩, ⟨18, .data⟩], none⟩ rfl l19 ⟨15, .data⟩ (by simp) rfl
  have l16 : listed.getD 16 false = true := hup 18 ⟨some 49, .call ⟨.value (.func 17), #[.tmp 47, .tmp 48], #[24, 24]⟩, 4, "law.go:38", #[⟨16, .data⟩, ⟨17, .data⟩, ⟨15, .chain⟩, ⟨15, .guard⟩], some (15, true)⟩ rfl l18 ⟨16, .data⟩ (by simp) rfl
  have l17 : listed.getD 17 false = true := hup 18 ⟨some 49, .call ⟨.value (.func 17), #[.tmp 47, .tmp 48], #[24, 24]⟩, 4, "law.go:38", #[⟨16, .data⟩, ⟨17, .data⟩, ⟨15, .chain⟩, ⟨15, .guard⟩], some (15, true)⟩ rfl l18 ⟨17, .data⟩ (by simp) rfl
  have l14 : listed.getD 14 false = true := hup 15 ⟨some 46, .move (.tmp 45), 4, "law.go:38", #[⟨14, .data⟩, ⟨12, .chain⟩], none⟩ rfl l15 ⟨14, .data⟩ (by simp) rfl
  have l12 : listed.getD 12 false = true := hup 15 ⟨some 46, .move (.tmp 45), 4, "law.go:38", #[⟨14, .data⟩, ⟨12, .chain⟩], none⟩ rfl l15 ⟨12, .chain⟩ (by simp) rfl
  have l8 : listed.getD 8 false = true := hup 14 ⟨some 45, .pick (.tmp 39) (.tmp 44) (.const (.bool false)), 4, "law.go:38", #[⟨8, .data⟩, ⟨13, .data⟩], none⟩ rfl l14 ⟨8, .data⟩ (by simp) rfl
  have l13 : listed.getD 13 false = true := hup 14 ⟨some 45, .pick (.tmp 39) (.tmp 44) (.const (.bool false)), 4, "law.go:38", #[⟨8, .data⟩, ⟨13, .data⟩], none⟩ rfl l14 ⟨13, .data⟩ (by simp) rfl
  have l10 : listed.getD 10 false = true := hup 13 ⟨some 44, .binOp .eql 4 (.tmp 41) (.tmp 43) 4, 4, "law.go:38", #[⟨10, .data⟩, ⟨12, .data⟩, ⟨8, .guard⟩], some (8, true)⟩ rfl l13 ⟨10, .data⟩ (by simp) rfl
  have l11 : listed.getD 11 false = true := hup 12 ⟨some 43, .call ⟨.value (.func 16), #[.tmp 42], #[24]⟩, 4, "law.go:38", #[⟨11, .data⟩, ⟨10, .chain⟩, ⟨8, .guard⟩], some (8, true)⟩ rfl l12 ⟨11, .data⟩ (by simp) rfl
  have l9 : listed.getD 9 false = true := hup 10 ⟨some 41, .call ⟨.value (.func 15), #[.tmp 40], #[24]⟩, 4, "law.go:38", #[⟨9, .data⟩, ⟨8, .chain⟩, ⟨8, .guard⟩], some (8, true)⟩ rfl l10 ⟨9, .data⟩ (by simp) rfl
  have l7 : listed.getD 7 false = true := hup 8 ⟨some 39, .move (.tmp 38), 4, "law.go:38", #[⟨7, .data⟩, ⟨6, .chain⟩], none⟩ rfl l8 ⟨7, .data⟩ (by simp) rfl
  have l6 : listed.getD 6 false = true := hup 8 ⟨some 39, .move (.tmp 38), 4, "law.go:38", #[⟨7, .data⟩, ⟨6, .chain⟩], none⟩ rfl l8 ⟨6, .chain⟩ (by simp) rfl
  have l3 : listed.getD 3 false = true := hup 7 ⟨some 38, .pick (.tmp 34) (.tmp 37) (.const (.bool false)), 4, "law.go:38", #[⟨3, .data⟩, ⟨6, .data⟩], none⟩ rfl l7 ⟨3, .data⟩ (by simp) rfl
  have l4 : listed.getD 4 false = true := hup 6 ⟨some 37, .call ⟨.value (.func 14), #[.tmp 35, .tmp 36], #[28, 28]⟩, 4, "law.go:38", #[⟨4, .data⟩, ⟨5, .data⟩, ⟨3, .chain⟩, ⟨3, .guard⟩], some (3, true)⟩ rfl l6 ⟨4, .data⟩ (by simp) rfl
  have l5 : listed.getD 5 false = true := hup 6 ⟨some 37, .call ⟨.value (.func 14), #[.tmp 35, .tmp 36], #[28, 28]⟩, 4, "law.go:38", #[⟨4, .data⟩, ⟨5, .data⟩, ⟨3, .chain⟩, ⟨3, .guard⟩], some (3, true)⟩ rfl l6 ⟨5, .data⟩ (by simp) rfl
  have l2 : listed.getD 2 false = true := hup 3 ⟨some 34, .move (.tmp 33), 4, "law.go:38", #[⟨2, .data⟩], none⟩ rfl l3 ⟨2, .data⟩ (by simp) rfl
  have l0 : listed.getD 0 false = true := hup 2 ⟨some 33, .binOp .eql 29 (.tmp 31) (.tmp 32) 29, 4, "law.go:38", #[⟨0, .data⟩, ⟨1, .data⟩], none⟩ rfl l2 ⟨0, .data⟩ (by simp) rfl
  have l1 : listed.getD 1 false = true := hup 2 ⟨some 33, .binOp .eql 29 (.tmp 31) (.tmp 32) 29, 4, "law.go:38", #[⟨0, .data⟩, ⟨1, .data⟩], none⟩ rfl l2 ⟨1, .data⟩ (by simp) rfl
  intro j hj hp
  match j, hj, hp with
  | 0, _, hp | 1, _, hp | 2, _, hp | 3, _, hp | 4, _, hp | 5, _, hp | 6, _, hp | 7, _, hp | 8, _, hp | 9, _, hp | 10, _, hp | 11, _, hp | 12, _, hp | 13, _, hp | 14, _, hp | 15, _, hp | 16, _, hp | 17, _, hp | 18, _, hp | 19, _, hp | 20, _, hp | 21, _, hp | 22, _, hp | 23, _, hp => assumption
  | 24, _, hp | 25, _, hp | 26, _, hp | 27, _, hp | 28, _, hp | 29, _, hp | 30, _, hp | 31, _, hp | 32, _, hp | 33, _, hp | 34, _, hp => cases hp
  | k + 35, hj, _ => omega
 ·intro w w' hb hg
  exact hg.trans (Kept.of_below (F := F) hb) (fun _ _ h => h)
 ·intro b j o ho hj hjp hpre x w hB hGw hdef hsz hs hdeps
  have hs' : ∀ s, ¬ mputs_mem s → x.tmps.getD s undef = t0.getD s undef := fun s hn => hs s (fun j hj e => hn (by rw [e]; exact hsl j hj))
  have u1 := (hs' 1 (by decide)).trans hs1
  have u3 := (hs' 3 (by decide)).trans hs3
  have u4 := (hs' 4 (by decide)).trans hs4
  have u5 := (hs' 5 (by decide)).trans hs5
  have u6 := (hs' 6 (by decide)).trans hs6
  have u7 := (hs' 7 (by decide)).trans hs7
  have u8 := (hs' 8 (by decide)).trans hs8
  clear hs hs' hsl hsz ht hQ hs1 hs3 hs4 hs5 hs6 hs7 hs8
  simp only [Array.getD_eq_getD_getElem?] at u1 u3 u4 u5 u6 u7 u8
  match b, j, ho, hj, hjp, hpre with
  | false, 0, ho, _, _, _ =>
    have e : o = mputs_ops0 := (Option.some.inj ho).symm; unfold mputs_ops0 at e
    subst e
    have hB := hB rfl
    clear hdeps
    refine wpOp_step ho (fun K hK => ?_)
    clear ho
    go_simp
    exact hK _ _ ⟨_, act_putD x hdef _ _, rfl, Below.refl _ _⟩
  | true, 0, _, _, _, hpre => exact absurd (hpre rfl) (by decide)
  | false, 1, ho, _, _, _ =>
    have e : o = mputs_ops1 := (Option.some.inj ho).symm; unfold mputs_ops1 at e
    subst e
    have hB := hB rfl
    clear hdeps
    refine wpOp_step ho (fun K hK => ?_)
    clear ho
    go_simp
    exact hK _ _ ⟨_, act_putD x hdef _ _, rfl, Below.refl _ _⟩
  | true, 1, _, _, _, hpre => exact absurd (hpre rfl) (by decide)
  | false, 2, ho, _, _, _ =>
    have e : o = mputs_ops2 := (Option.some.inj ho).symm; unfold mputs_ops2 at e
    subst e
    have q0 : x.tmps.getD 31 undef = .int .i64 er := hdeps ⟨0, .data⟩ (by simp) rfl
    have q1 : x.tmps.getD 32 undef = .int .i64 er := hdeps ⟨1, .data⟩ (by simp) rfl
    have hB := hB rfl
    simp only [Array.getD_eq_getD_getElem?] at q0 q1
    clear hdeps
    refine wpOp_step ho (fun K hK => ?_)
    clear ho
    go_simp
    exact hK _ _ ⟨_, act_putD x hdef _ _, rfl, Below.refl _ _⟩
  | true, 2, _, _, _, hpre => exact absurd (hpre rfl) (by decide)
  | false, 3, ho, _, _, _ =>
    have e : o = mputs_ops3 := (Option.some.inj ho).symm; unfold mputs_ops3 at e
    subst e
    have q2 : x.tmps.getD 33 undef = .bool true := hdeps ⟨2, .data⟩ (by simp) rfl
    have hB := hB rfl
    simp only [Array.getD_eq_getD_getElem?] at q2
    clear hdeps
    refine wpOp_step ho (fun K hK => ?_)
    clear ho
    go_simp
    exact hK _ _ ⟨_, act_putD x hdef _ _, rfl, Below.refl _ _⟩
  | true, 3, _, _, _, hpre => exact absurd (hpre rfl) (by decide)
  | false, 4, ho, _, _, _ =>
    have e : o = mputs_ops4 := (Option.some.inj ho).symm; unfold mputs_ops4 at e
    subst e
    have q3 : x.tmps.getD 34 undef = .bool true := hdeps ⟨3, .guard⟩ (by simp) rfl
    have hB := hB rfl
    have e3 : (mputs_ops[3]?.bind fun x => x.dst) = some 34 := rfl
    have g3 := get_someE q3 (fun h => by cases h)
    simp only [Array.getD_eq_getD_getElem?] at q3
    clear hdeps
    refine wpOp_step ho (fun K hK => ?_)
    clear ho
    go_simp
    exact hK _ _ ⟨_, act_putD x hdef _ _, rfl, Below.refl _ _⟩
  | true, 4, _, _, _, hpre => exact absurd (hpre rfl) (by decide)
  | false, 5, ho, _, _, _ =>
    have e : o = mputs_ops5 := (Option.some.inj ho).symm; unfold mputs_ops5 at e
    subst e
    have q3 : x.tmps.getD 34 undef = .bool true := hdeps ⟨3, .guard⟩ (by simp) rfl
    have hB := hB rfl
    have e3 : (mputs_ops[3]?.bind fun x => x.dst) = some 34 := rfl
    have g3 := get_someE q3 (fun h => by cases h)
    simp only [Array.getD_eq_getD_getElem?] at q3
    clear hdeps
    refine wpOp_step ho (fun K hK => ?_)
    clear ho
    go_simp
    exact hK _ _ ⟨_, act_putD x hdef _ _, rfl, Below.refl _ _⟩
  | true, 5, _, _, _, hpre => exact absurd (hpre rfl) (by decide)
  | false, 6, ho, _, _, _ =>
    have e : o = mputs_ops6 := (Option.some.inj ho).symm; unfold mputs_ops6 at e
    subst e
    have q4 : x.tmps.getD 35 undef = .slice A2 s C2 := hdeps ⟨4, .data⟩ (by simp) rfl
    have q5 : x.tmps.getD 36 undef = .slice A3 s C3 := hdeps ⟨5, .data⟩ (by simp) rfl
    have q3 : x.tmps.getD 34 undef = .bool true := hdeps ⟨3, .guard⟩ (by simp) rfl
    have hB := hB rfl
    have e3 : (mputs_ops[3]?.bind fun x => x.dst) = some 34 := rfl
    have g3 := get_someE q3 (fun h => by cases h)
    simp only [Array.getD_eq_getD_getElem?] at q4 q5 q3
    clear hdeps
    refine wpOp_step ho (fun K hK => ?_)
    clear ho
    go_simp
    refine (csb w hB).mono ?_
    rintro e w' ⟨rfl, hb⟩
    exact hK _ _ ⟨_, act_putD x hdef _ _, rfl, hb⟩
  | true, 6, _, _, _, hpre => exact absurd (hpre rfl) (by decide)
  | false, 7, ho, _, _, _ =>
    have e : o = mputs_ops7 := (Option.some.inj ho).symm; unfold mputs_ops7 at e
    subst e
    have q3 : x.tmps.getD 34 undef = .bool true := hdeps ⟨3, .data⟩ (by simp) rfl
    have q6 : x.tmps.getD 37 undef = .bool true := hdeps ⟨6, .data⟩ (by simp) rfl
    have hB := hB rfl
    simp only [Array.getD_eq_getD_getElem?] at q3 q6
    clear hdeps
    refine wpOp_step ho (fun K hK => ?_)
    clear ho
    go_simp
    exact hK _ _ ⟨_, act_putD x hdef _ _, rfl, Below.refl _ _⟩
  | true, 7, _, _, _, hpre => exact absurd (hpre rfl) (by decide)
  | false, 8, ho, _, _, _ =>
    have e : o = mputs_ops8 := (Option.some.inj ho).symm; unfold mputs_ops8 at e
    subst e
    have q7 : x.tmps.getD 38 undef = .bool true := hdeps ⟨7, .data⟩ (by simp) rfl
    have hB := hB rfl
    simp only [Array.getD_eq_getD_getElem?] at q7
    clear hdeps
    refine wpOp_step ho (fun K hK => ?_)
    clear ho
    go_simp
    exact hK _ _ ⟨_, act_putD x hdef _ _, rfl, Below.refl _ _⟩
  | true, 8, _, _, _, hpre => exact absurd (hpre rfl) (by decide)
  | false, 9, ho, _, _, _ =>
    have e : o = mputs_ops9 := (Option.some.inj ho).symm; unfold mputs_ops9 at e
    subst e
    have q8 : x.tmps.getD 39 undef = .bool true := hdeps ⟨8, .guard⟩ (by simp) rfl
    have hB := hB rfl
    have e8 : (mputs_ops[8]?.bind fun x => x.dst) = some 39 := rfl
    have g8 := get_someE q8 (fun h => by cases h)
    simp only [Array.getD_eq_getD_getElem?] at q8
    clear hdeps
    have c0 := cell_thru hl0 hB
    have c1 := cell_thru hl1 hB
    refine wpOp_step ho (fun K hK => ?_)
    clear ho
    go_simp
    exact hK _ _ ⟨_, act_putD x hdef _ _, rfl, Below.refl _ _⟩
  | true, 9, _, _, _, hpre => exact absurd (hpre rfl) (by decide)
  | false, 10, ho, _, _, _ =>
    have e : o = mputs_ops10 := (Option.some.inj ho).symm; unfold mputs_ops10 at e
    subst e
    have q9 : x.tmps.getD 40 undef = .agg #[.int .i64 G, .slice (some ⟨R, 0, none⟩) n (n + 12)] := hdeps ⟨9, .data⟩ (by simp) rfl
    have q8 : x.tmps.getD 39 undef = .bool true := hdeps ⟨8, .guard⟩ (by simp) rfl
    have hB := hB rfl
    have e8 : (mputs_ops[8]?.bind fun x => x.dst) = some 39 := rfl
    have g8 := get_someE q8 (fun h => by cases h)
    simp only [Array.getD_eq_getD_getElem?] at q9 q8
    clear hdeps
    refine wpOp_step ho (fun K hK => ?_)
    clear ho
    go_simp
    refine (crt w hB).mono ?_
    rintro e w' ⟨rfl, hb⟩
    exact hK _ _ ⟨_, act_putD x hdef _ _, rfl, hb⟩
  | true, 10, _, _, _, hpre => exact absurd (hpre rfl) (by decide)
  | false, 11, ho, _, _, _ =>
    have e : o = mputs_ops11 := (Option.some.inj ho).symm; unfold mputs_ops11 at e
    subst e
    have q8 : x.tmps.getD 39 undef = .bool true := hdeps ⟨8, .guard⟩ (by simp) rfl
    have hB := hB rfl
    have e8 : (mputs_ops[8]?.bind fun x => x.dst) = some 39 := rfl
    have g8 := get_someE q8 (fun h => by cases h)
    simp only [Array.getD_eq_getD_getElem?] at q8
    clear hdeps
    have c0 := cell_thru hm0 hB
    have c1 := cell_thru hm1 hB
    refine wpOp_step ho (fun K hK => ?_)
    clear ho
    go_simp
    exact hK _ _ ⟨_, act_putD x hdef _ _, rfl, Below.refl _ _⟩
  | true, 11, _, _, _, hpre => exact absurd (hpre rfl) (by decide)
  | false, 12, ho, _, _, _ =>
    have e : o = mputs_ops12 := (Option.some.inj ho).symm; unfold mputs_ops12 at e
    subst e
    have q11 : x.tmps.getD 42 undef = .agg #[.int .i64 G, .slice a n cap] := hdeps ⟨11, .data⟩ (by simp) rfl
    have q8 : x.tmps.getD 39 undef = .bool true := hdeps ⟨8, .guard⟩ (by simp) rfl
    have hB := hB rfl
    have e8 : (mputs_ops[8]?.bind fun x => x.dst) = some 39 := rfl
    have g8 := get_someE q8 (fun h => by cases h)
    simp only [Array.getD_eq_getD_getElem?] at q11 q8
    clear hdeps
    refine wpOp_step ho (fun K hK => ?_)
    clear ho
    go_simp
    refine (crr w hB).mono ?_
    rintro e w' ⟨rfl, hb⟩
    exact hK _ _ ⟨_, act_putD x hdef _ _, rfl, hb⟩
  | true, 12, _, _, _, hpre => exact absurd (hpre rfl) (by decide)
  | false, 13, ho, _, _, _ =>
    have e : o = mputs_ops13 := (Option.some.inj ho).symm; unfold mputs_ops13 at e
    subst e
    have q10 : x.tmps.getD 41 undef = .bool rr := hdeps ⟨10, .data⟩ (by simp) rfl
    have q12 : x.tmps.getD 43 undef = .bool rr := hdeps ⟨12, .data⟩ (by simp) rfl
    have q8 : x.tmps.getD 39 undef = .bool true := hdeps ⟨8, .guard⟩ (by simp) rfl
    have hB := hB rfl
    have e8 : (mputs_ops[8]?.bind fun x => x.dst) = some 39 := rfl
    have g8 := get_someE q8 (fun h => by cases h)
    simp only [Array.getD_eq_getD_getElem?] at q10 q12 q8
    clear hdeps
    refine wpOp_step ho (fun K hK => ?_)
    clear ho
    go_simp
    exact hK _ _ ⟨_, act_putD x hdef _ _, rfl, Below.refl _ _⟩
  | true, 13, _, _, _, hpre => exact absurd (hpre rfl) (by decide)
  | false, 14, ho, _, _, _ =>
    have e : o = mputs_ops14 := (Option.some.inj ho).symm; unfold mputs_ops14 at e
    subst e
    have q8 : x.tmps.getD 39 undef = .bool true := hdeps ⟨8, .data⟩ (by simp) rfl
    have q13 : x.tmps.getD 44 undef = .bool true := hdeps ⟨13, .data⟩ (by simp) rfl
    have hB := hB rfl
    simp only [Array.getD_eq_getD_getElem?] at q8 q13
    clear hdeps
    refine wpOp_step ho (fun K hK => ?_)
    clear ho
    go_simp
    exact hK _ _ ⟨_, act_putD x hdef _ _, rfl, Below.refl _ _⟩
  | true, 14, _, _, _, hpre => exact absurd (hpre rfl) (by decide)
  | false, 15, ho, _, _, _ =>
    have e : o = mputs_ops15 := (Option.some.inj ho).symm; unfold mputs_ops15 at e
    subst e
    have q14 : x.tmps.getD 45 undef = .bool true := hdeps ⟨14, .data⟩ (by simp) rfl
    have hB := hB rfl
    simp only [Array.getD_eq_getD_getElem?] at q14
    clear hdeps
    refine wpOp_step ho (fun K hK => ?_)
    clear ho
    go_simp
    exact hK _ _ ⟨_, act_putD x hdef _ _, rfl, Below.refl _ _⟩
  | true, 15, _, _, _, hpre => exact absurd (hpre rfl) (by decide)
  | false, 16, ho, _, _, _ =>
    have e : o = mputs_ops16 := (Option.some.inj ho).symm; unfold mputs_ops16 at e
    subst e
    have q15 : x.tmps.getD 46 undef = .bool true := hdeps ⟨15, .guard⟩ (by simp) rfl
    have hB := hB rfl
    have e15 : (mputs_ops[15]?.bind fun x => x.dst) = some 46 := rfl
    have g15 := get_someE q15 (fun h => by cases h)
    simp only [Array.getD_eq_getD_getElem?] at q15
    clear hdeps
    have c0 := cell_thru hl0 hB
    have c1 := cell_thru hl1 hB
    refine wpOp_step ho (fun K hK => ?_)
    clear ho
    go_simp
    exact hK _ _ ⟨_, act_putD x hdef _ _, rfl, Below.refl _ _⟩
  | true, 16, _, _, _, hpre => exact absurd (hpre rfl) (by decide)
  | false, 17, ho, _, _, _ =>
    have e : o = mputs_ops17 := (Option.some.inj ho).symm; unfold mputs_ops17 at e
    subst e
    have q15 : x.tmps.getD 46 undef = .bool true := hdeps ⟨15, .guard⟩ (by simp) rfl
    have hB := hB rfl
    have e15 : (mputs_ops[15]?.bind fun x => x.dst) = some 46 := rfl
    have g15 := get_someE q15 (fun h => by cases h)
    simp only [Array.getD_eq_getD_getElem?] at q15
    clear hdeps
    have c0 := cell_thru hm0 hB
    have c1 := cell_thru hm1 hB
    refine wpOp_step ho (fun K hK => ?_)
    clear ho
    go_simp
    exact hK _ _ ⟨_, act_putD x hdef _ _, rfl, Below.refl _ _⟩
  | true, 17, _, _, _, hpre => exact absurd (hpre rfl) (by decide)
  | false, 18, ho, _, _, _ =>
    have e : o = mputs_ops18 := (Option.some.inj ho).symm; unfold mputs_ops18 at e
    subst e
    have q16 : x.tmps.getD 47 undef = .agg #[.int .i64 G, .slice (some ⟨R, 0, none⟩) n (n + 12)] := hdeps ⟨16, .data⟩ (by simp) rfl
    have q17 : x.tmps.getD 48 undef = .agg #[.int .i64 G, .slice a n cap] := hdeps ⟨17, .data⟩ (by simp) rfl
    have q15 : x.tmps.getD 46 undef = .bool true := hdeps ⟨15, .guard⟩ (by simp) rfl
    have hB := hB rfl
    have e15 : (mputs_ops[15]?.bind fun x => x.dst) = some 46 := rfl
    have g15 := get_someE q15 (fun h => by cases h)
    simp only [Array.getD_eq_getD_getElem?] at q16 q17 q15
    clear hdeps
    refine wpOp_step ho (fun K hK => ?_)
    clear ho
    go_simp
    refine (ck1 w hB).mono ?_
    rintro e w' ⟨rfl, hb⟩
    exact hK _ _ ⟨_, act_putD x hdef _ _, rfl, hb⟩
  | true, 18, _, _, _, hpre => exact absurd (hpre rfl) (by decide)
  | false, 19, ho, _, _, _ =>
    have e : o = mputs_ops19 := (Option.some.inj ho).symm; unfold mputs_ops19 at e
    subst e
    have q15 : x.tmps.getD 46 undef = .bool true := hdeps ⟨15, .data⟩ (by simp) rfl
    have q18 : x.tmps.getD 49 undef = .bool true := hdeps ⟨18, .data⟩ (by simp) rfl
    have hB := hB rfl
    simp only [Array.getD_eq_getD_getElem?] at q15 q18
    clear hdeps
    refine wpOp_step ho (fun K hK => ?_)
    clear ho
    go_simp
    exact hK _ _ ⟨_, act_putD x hdef _ _, rfl, Below.refl _ _⟩
  | true, 19, _, _, _, hpre => exact absurd (hpre rfl) (by decide)
  | false, 20, ho, _, _, _ =>
    have e : o = mputs_ops20 := (Option.some.inj ho).symm; unfold mputs_ops20 at e
    subst e
    have q19 : x.tmps.getD 50 undef = .bool true := hdeps ⟨19, .data⟩ (by simp) rfl
    have hB := hB rfl
    simp only [Array.getD_eq_getD_getElem?] at q19
    clear hdeps
    refine wpOp_step ho (fun K hK => ?_)
    clear ho
    go_simp
    exact hK _ _ ⟨_, act_putD x hdef _ _, rfl, Below.refl _ _⟩
  | true, 20, _, _, _, hpre => exact absurd (hpre rfl) (by decide)
  | false, 21, ho, _, _, _ =>
    have e : o = mputs_ops21 := (Option.some.inj ho).symm; unfold mputs_ops21 at e
    subst e
    have q20 : x.tmps.getD 51 undef = .bool true := hdeps ⟨20, .guard⟩ (by simp) rfl
    have hB := hB rfl
    have e20 : (mputs_ops[20]?.bind fun x => x.dst) = some 51 := rfl
    have g20 := get_someE q20 (fun h => by cases h)
    simp only [Array.getD_eq_getD_getElem?] at q20
    clear hdeps
    refine wpOp_step ho (fun K hK => ?_)
    clear ho
    go_simp
    exact hK _ _ ⟨_, act_putD x hdef _ _, rfl, Below.refl _ _⟩
  | true, 21, _, _, _, hpre => exact absurd (hpre rfl) (by decide)
  | false, 22, ho, _, _, _ =>
    have e : o = mputs_ops22 := (Option.some.inj ho).symm; unfold mputs_ops22 at e
    subst e
    have q20 : x.tmps.getD 51 undef = .bool true := hdeps ⟨20, .guard⟩ (by simp) rfl
    have hB := hB rfl
    have e20 : (mputs_ops[20]?.bind fun x => x.dst) = some 51 := rfl
    have g20 := get_someE q20 (fun h => by cases h)
    simp only [Array.getD_eq_getD_getElem?] at q20
    clear hdeps
    refine wpOp_step ho (fun K hK => ?_)
    clear ho
    go_simp
    exact hK _ _ ⟨_, act_putD x hdef _ _, rfl, Below.refl _ _⟩
  | true, 22, _, _, _, hpre => exact absurd (hpre rfl) (by decide)
  | false, 23, ho, _, _, _ =>
    have e : o = mputs_ops23 := (Option.some.inj ho).symm; unfold mputs_ops23 at e
    subst e
    have q21 : x.tmps.getD 52 undef = .slice A2 s C2 := hdeps ⟨21, .data⟩ (by simp) rfl
    have q22 : x.tmps.getD 53 undef = .slice A4 s C4 := hdeps ⟨22, .data⟩ (by simp) rfl
    have q20 : x.tmps.getD 51 undef = .bool true := hdeps ⟨20, .guard⟩ (by simp) rfl
    have hB := hB rfl
    have e20 : (mputs_ops[20]?.bind fun x => x.dst) = some 51 := rfl
    have g20 := get_someE q20 (fun h => by cases h)
    simp only [Array.getD_eq_getD_getElem?] at q21 q22 q20
    clear hdeps
    refine wpOp_step ho (fun K hK => ?_)
    clear ho
    go_simp
    exact hK _ _ ⟨_, act_putD x hdef _ _, ⟨_, rfl, heap_alloc_new _ _⟩, below_alloc _ _⟩
  | true, 23, _, _, _, hpre => exact absurd (hpre rfl) (by decide)
  | _, 24, _, _, hjp, _ => exact absurd rfl hjp
  | false, 25, ho, _, _, _ =>
    have e : o = mputs_ops25 := (Option.some.inj ho).symm; unfold mputs_ops25 at e
    subst e
    exact (hdeps ⟨24, .data⟩ (by simp) rfl : False).elim
  | true, 25, ho, _, _, _ =>
    have e : o = mputs_ops25 := (Option.some.inj ho).symm; unfold mputs_ops25 at e
    subst e
    have q20 : x.tmps.getD 51 undef = .bool true := hdeps ⟨20, .data⟩ (by simp) rfl
    have q24 : x.tmps.getD 55 undef = .bool true := hdeps ⟨24, .data⟩ (by simp) rfl
    have hGw := hGw rfl
    simp only [Array.getD_eq_getD_getElem?] at q20 q24
    clear hdeps
    refine wpOp_step ho (fun K hK => ?_)
    clear ho
    go_simp
    exact hK _ _ ⟨_, act_putD x hdef _ _, rfl, Below.refl _ _⟩
  | false, 26, ho, _, _, _ =>
    have e : o = mputs_ops26 := (Option.some.inj ho).symm; unfold mputs_ops26 at e
    subst e
    exact (hdeps ⟨25, .data⟩ (by simp) rfl : False).elim
  | true, 26, ho, _, _, _ =>
    have e : o = mputs_ops26 := (Option.some.inj ho).symm; unfold mputs_ops26 at e
    subst e
    have q25 : x.tmps.getD 56 undef = .bool true := hdeps ⟨25, .data⟩ (by simp) rfl
    have hGw := hGw rfl
    simp only [Array.getD_eq_getD_getElem?] at q25
    clear hdeps
    refine wpOp_step ho (fun K hK => ?_)
    clear ho
    go_simp
    exact hK _ _ ⟨_, act_putD x hdef _ _, rfl, Below.refl _ _⟩
  | false, 27, ho, _, _, _ =>
    have e : o = mputs_ops27 := (Option.some.inj ho).symm; unfold mputs_ops27 at e
    subst e
    exact (hdeps ⟨26, .guard⟩ (by simp) rfl : False).elim
  | true, 27, ho, _, _, _ =>
    have e : o = mputs_ops27 := (Option.some.inj ho).symm; unfold mputs_ops27 at e
    subst e
    have q26 : x.tmps.getD 57 undef = .bool true := hdeps ⟨26, .guard⟩ (by simp) rfl
    have hGw := hGw rfl
    have e26 : (mputs_ops[26]?.bind fun x => x.dst) = some 57 := rfl
    have g26 := get_someE q26 (fun h => by cases h)
    simp only [Array.getD_eq_getD_getElem?] at q26
    clear hdeps
    have c0 := hGw.cell hl0 hFl
    have c1 := hGw.cell hl1 hFl
    refine wpOp_step ho (fun K hK => ?_)
    clear ho
    go_simp
    exact hK _ _ ⟨_, act_putD x hdef _ _, rfl, Below.refl _ _⟩
  | false, 28, ho, _, _, _ =>
    have e : o = mputs_ops28 := (Option.some.inj ho).symm; unfold mputs_ops28 at e
    subst e
    exact (hdeps ⟨26, .guard⟩ (by simp) rfl : False).elim
  | true, 28, ho, _, _, _ =>
    have e : o = mputs_ops28 := (Option.some.inj ho).symm; unfold mputs_ops28 at e
    subst e
    have q26 : x.tmps.getD 57 undef = .bool true := hdeps ⟨26, .guard⟩ (by simp) rfl
    have hGw := hGw rfl
    have e26 : (mputs_ops[26]?.bind fun x => x.dst) = some 57 := rfl
    have g26 := get_someE q26 (fun h => by cases h)
    simp only [Array.getD_eq_getD_getElem?] at q26
    clear hdeps
    have c0 := hGw.cell hm0 hFm
    have c1 := hGw.cell hm1 hFm
    refine wpOp_step ho (fun K hK => ?_)
    clear ho
    go_simp
    exact hK _ _ ⟨_, act_putD x hdef _ _, rfl, Below.refl _ _⟩
  | false, 29, ho, _, _, _ =>
    have e : o = mputs_ops29 := (Option.some.inj ho).symm; unfold mputs_ops29 at e
    subst e
    exact (hdeps ⟨27, .data⟩ (by simp) rfl : False).elim
  | true, 29, ho, _, _, _ =>
    have e : o = mputs_ops29 := (Option.some.inj ho).symm; unfold mputs_ops29 at e
    subst e
    have q27 : x.tmps.getD 58 undef = .agg #[.int .i64 G, .slice (some ⟨R, 0, none⟩) n (n + 12)] := hdeps ⟨27, .data⟩ (by simp) rfl
    have q28 : x.tmps.getD 59 undef = .agg #[.int .i64 G, .slice a n cap] := hdeps ⟨28, .data⟩ (by simp) rfl
    have q26 : x.tmps.getD 57 undef = .bool true := hdeps ⟨26, .guard⟩ (by simp) rfl
    have hGw := hGw rfl
    have e26 : (mputs_ops[26]?.bind fun x => x.dst) = some 57 := rfl
    have g26 := get_someE q26 (fun h => by cases h)
    simp only [Array.getD_eq_getD_getElem?] at q27 q28 q26
    clear hdeps
    refine wpOp_step ho (fun K hK => ?_)
    clear ho
    go_simp
    refine (ck2 w hGw).mono ?_
    rintro e w' ⟨rfl, hb⟩
    exact hK _ _ ⟨_, act_putD x hdef _ _, rfl, hb⟩
  | false, 30, ho, _, _, _ =>
    have e : o = mputs_ops30 := (Option.some.inj ho).symm; unfold mputs_ops30 at e
    subst e
    exact (hdeps ⟨26, .data⟩ (by simp) rfl : False).elim
  | true, 30, ho, _, _, _ =>
    have e : o = mputs_ops30 := (Option.some.inj ho).symm; unfold mputs_ops30 at e
    subst e
    have q26 : x.tmps.getD 57 undef = .bool true := hdeps ⟨26, .data⟩ (by simp) rfl
    have q29 : x.tmps.getD 60 undef = .bool true := hdeps ⟨29, .data⟩ (by simp) rfl
    have hGw := hGw rfl
    simp only [Array.getD_eq_getD_getElem?] at q26 q29
    clear hdeps
    refine wpOp_step ho (fun K hK => ?_)
    clear ho
    go_simp
    exact hK _ _ ⟨_, act_putD x hdef _ _, rfl, Below.refl _ _⟩
  | false, 31, ho, _, _, _ =>
    have e : o = mputs_ops31 := (Option.some.inj ho).symm; unfold mputs_ops31 at e
    subst e
    exact (hdeps ⟨30, .data⟩ (by simp) rfl : False).elim
  | true, 31, ho, _, _, _ =>
    have e : o = mputs_ops31 := (Option.some.inj ho).symm; unfold mputs_ops31 at e
    subst e
    have q30 : x.tmps.getD 61 undef = .bool true := hdeps ⟨30, .data⟩ (by simp) rfl
    have hGw := hGw rfl
    simp only [Array.getD_eq_getD_getElem?] at q30
    clear hdeps
    refine wpOp_step ho (fun K hK => ?_)
    clear ho
    go_simp
    exact hK _ _ ⟨_, act_putD x hdef _ _, rfl, Below.refl _ _⟩
  | false, 32, ho, _, _, _ =>
    have e : o = mputs_ops32 := (Option.some.inj ho).symm; unfold mputs_ops32 at e
    subst e
    exact (hdeps ⟨31, .chain⟩ (by simp) rfl : False).elim
  | true, 32, ho, _, _, _ =>
    have e : o = mputs_ops32 := (Option.some.inj ho).symm; unfold mputs_ops32 at e
    subst e
    have q31 : x.tmps.getD 62 undef = .bool true := hdeps ⟨31, .guard⟩ (by simp) rfl
    have hGw := hGw rfl
    have e31 : (mputs_ops[31]?.bind fun x => x.dst) = some 62 := rfl
    have g31 := get_someE q31 (fun h => by cases h)
    simp only [Array.getD_eq_getD_getElem?] at q31
    clear hdeps
    refine wpOp_step ho (fun K hK => ?_)
    clear ho
    go_simp
    refine (caw w).mono ?_
    rintro e w' ⟨rfl, hb⟩
    exact hK _ _ ⟨_, act_putD x hdef _ _, rfl, hb⟩
  | false, 33, ho, _, _, _ =>
    have e : o = mputs_ops33 := (Option.some.inj ho).symm; unfold mputs_ops33 at e
    subst e
    exact (hdeps ⟨31, .data⟩ (by simp) rfl : False).elim
  | true, 33, ho, _, _, _ =>
    have e : o = mputs_ops33 := (Option.some.inj ho).symm; unfold mputs_ops33 at e
    subst e
    have q31 : x.tmps.getD 62 undef = .bool true := hdeps ⟨31, .data⟩ (by simp) rfl
    have q32 : x.tmps.getD 63 undef = .bool true := hdeps ⟨32, .data⟩ (by simp) rfl
    have hGw := hGw rfl
    simp only [Array.getD_eq_getD_getElem?] at q31 q32
    clear hdeps
    refine wpOp_step ho (fun K hK => ?_)
    clear ho
    go_simp
    exact hK _ _ ⟨_, act_putD x hdef _ _, rfl, Below.refl _ _⟩
  | false, 34, ho, _, _, _ =>
    have e : o = mputs_ops34 := (Option.some.inj ho).symm; unfold mputs_ops34 at e
    subst e
    exact (hdeps ⟨33, .data⟩ (by simp) rfl : False).elim
  | true, 34, ho, _, _, _ =>
    have e : o = mputs_ops34 := (Option.some.inj ho).symm; unfold mputs_ops34 at e
    subst e
    have q33 : x.tmps.getD 64 undef = .bool true := hdeps ⟨33, .data⟩ (by simp) rfl
    have hGw := hGw rfl
    simp only [Array.getD_eq_getD_getElem?] at q33
    clear hdeps
    refine wpOp_step ho (fun K hK => ?_)
    clear ho
    go_simp
    exact hK _ _ ⟨_, act_putD x hdef _ _, rfl, Below.refl _ _⟩
  | _, k + 35, _, hj, _, _ => omega
 ·intro o ho x w hB hdef hsz hs hdeps
  have hs' : ∀ s, ¬ mputs_mem s → x.tmps.getD s undef = t0.getD s undef := fun s hn => hs s (fun j hj e => hn (by rw [e]; exact hsl j hj))
  have u1 := (hs' 1 (by decide)).trans hs1
  have u3 := (hs' 3 (by decide)).trans hs3
  have u4 := (hs' 4 (by decide)).trans hs4
  have u5 := (hs' 5 (by decide)).trans hs5
  have u6 := (hs' 6 (by decide)).trans hs6
  have u7 := (hs' 7 (by decide)).trans hs7
  have u8 := (hs' 8 (by decide)).trans hs8
  clear hs hs' hsl hsz ht hQ hs1 hs3 hs4 hs5 hs6 hs7 hs8
  simp only [Array.getD_eq_getD_getElem?] at u1 u3 u4 u5 u6 u7 u8
  have e : o = mputs_ops24 := (Option.some.inj ho).symm; unfold mputs_ops24 at e
  subst e
  obtain ⟨g23, q23, p23⟩ := hdeps ⟨23, .data⟩ (by simp) rfl
  have q23 : x.tmps.getD 54 undef = .slice (some ⟨g23, 0, none⟩) 2 2 := q23
  have q20 : x.tmps.getD 51 undef = .bool true := hdeps ⟨20, .guard⟩ (by simp) rfl
  clear hdeps
  have e20 : (mputs_ops[20]?.bind fun x => x.dst) = some 51 := rfl
  have g20 := get_someE q20 (fun h => by cases h)
  simp only [Array.getD_eq_getD_getElem?] at q20 q23
  refine wpOp_step ho (fun K hK => ?_)
  clear ho
  go_simp
  refine (cap2 w g23 hB p23).mono ?_
  rintro e w' ⟨rfl, hk⟩
  refine hK _ _ ⟨_, act_putD x hdef _ _, rfl, (Kept.of_below (F := F) hB).trans hk (fun _ _ h => h), ?_⟩
  intro i u h
  match i, h with
  | 0, h | 1, h | 2, h | 3, h | 4, h | 5, h | 6, h | 7, h | 8, h | 9, h | 10, h | 11, h | 12, h | 13, h | 14, h | 15, h | 16, h | 17, h | 18, h | 19, h | 20, h | 21, h | 22, h => exact h
  | 23, h => exact trivial
  | 24, h | 25, h | 26, h | 27, h | 28, h | 29, h | 30, h | 31, h | 32, h | 33, h | 34, h => exact h.elim
  | k + 35, h => exact h
 ·intro x w hG hdef hsz hs hv
  have hx := frame_sets x.tmps t0 hsz [31, 32, 33, 34, 35, 36, 37, 38, 39, 40, 41, 42, 43, 44, 45, 46, 47, 48, 49, 50, 51, 52, 53, 54, 55, 56, 57, 58, 59, 60, 61, 62, 63, 64, 2] (fun s hn => hs s (fun j hj e => hn (by rw [e]; exact hsl j hj)))
  refine ⟨fun _ => ?_, fun e => absurd e (by decide)⟩
  have q34 := hv 34 (by decide)
  have hq := hQ (fun d => x.tmps.getD d undef) w hG q34
  obtain ⟨T, Df⟩ := x
  dsimp only at hx hdef hq
  subst hdef
  rw [← hx] at hq
  exact hq
open Go.RowKit Go.Shelf
def cntS (P : Nat → Shd) : Nat → Nat
 | 0 => 0
 | k + 1 => cntS P k + 1 + (P k).D.length
theorem cntS_mono (P : Nat → Shd) {k n : Nat} (h : k ≤ n) : cntS P k ≤ cntS P n := by
 induction n with
 | zero => have : k = 0 := by omega
           subst this; exact Nat.le_refl _
 | succ n ih =>
   by_cases e : k = n + 1
   ·subst e; exact Nat.le_refl _
   ·have := ih (by omega)
    show cntS P k ≤ cntS P n + 1 + _
    omega
theorem cntS_one (P : Nat → Shd) {k n : Nat} (h : k < n) : (P k).D.length ≤ cntS P n := by
 have h1 := cntS_mono P (show k + 1 ≤ n by omega)
 have h2 : cntS P (k + 1) = cntS P k + 1 + (P k).D.length := rfl
 omega
theorem cntS_n (P : Nat → Shd) (n : Nat) : n ≤ cntS P n := by
 induction n with
 | zero => exact Nat.zero_le _
 | succ n ih => show n + 1 ≤ cntS P n + 1 + _; omega
theorem encS_cnt {P : Shd} (h : okST P.st) : (encS P.st).length ≤ 22 * (1 + P.D.length) := by
 obtain ⟨h1, h2, h3, h4, h5, h6⟩ := h
 have a1 := encN_len6 (n := P.st.N.toNat) (by omega)
 have a2 := encN_len6 (n := P.st.Z.toNat) (by unfold maxNum; omega)
 have a3 := dead_len h6
 have a4 := encN_len6 (n := P.st.D.length) (by unfold maxNum; omega)
 have a5 := encRow_len 3999 (by decide) P.st.D (-1) (by omega) h6
 simp only [encS, encRise, List.length_append, fixB_len]
 have e : P.st.D = P.D := rfl
 rw [e] at a3 a4 a5 ⊢
 omega
theorem bodyS_cnt {P : Nat → Shd} : ∀ n, (∀ i, i < n → okST (P i).st) → (bodyS (stsN P n)).length ≤ 22 * cntS P n
 | 0, _ => by simp [stsN, bodyS]
 | n + 1, h => by
   have h1 := encS_cnt (h n (by omega))
   have h2 := bodyS_cnt n (fun i hi => h i (by omega))
   rw [stsN_succ, bodyS_snoc, List.length_append]
   show _ ≤ 22 * (cntS P n + 1 + _)
   omega
theorem partM_cnt {G : Int} {P : Nat → Shd} {n : Nat} (h : rightM ⟨G, stsN P n⟩ = true) (hS : ∀ s ∈ stsN P n, s.S < 4294967296) (hc : cntS P n ≤ 3000) : (partM ⟨G, stsN P n⟩).length ≤ 890000 := by
 obtain ⟨h1, h2, h3, h4⟩ := rightM_ok h hS
 have a1 := encN_len6 (n := G.toNat) (by have : G ≤ maxNum := h3; omega)
 have a2 := encN_len6 (n := (stsN P n).length) (by have : (stsN P n).length ≤ 40 := h4; unfold maxNum; omega)
 have a3 := bodyS_cnt n (fun i hi => h1 _ (List.mem_of_getElem? (stsN_get P n i hi)))
 show (encN G.toNat ++ (encN (stsN P n).length ++ bodyS (stsN P n))).length ≤ _
 rw [List.length_append, List.length_append]
 omega
def outM (m : MT) : List Nat := if rightM m = true then fileM m else []
def errM (m : MT) : Int := if rightM m = true then 0 else 2
theorem outM_ok {m : MT} (hS : ∀ s ∈ m.L, s.S < 4294967296) : (outM m).length ≤ 1000000 ∧ ∀ b ∈ outM m, b < 256 := by
 unfold outM
 by_cases h : rightM m = true
 ·rw [if_pos h]; exact fileM_ok h hS
 ·rw [if_neg h]; exact ⟨by simp, by simp⟩
theorem putM_out {w' : World} {B : Nat} {m : MT} {e : Ending} (hS : ∀ s ∈ m.L, s.S < 4294967296) (h : if rightM m = true then ∃ v, e = .returned (.tuple #[v, .int .i64 0]) ∧ w'.ownsRow B 5 1 v (fileM m).length (lc (fileM m)) else e = .returned (.tuple #[.slice none 0 0, .int .i64 2])) :
  ∃ A C, e = .returned (.tuple #[.slice A (outM m).length C, .int .i64 (errM m)]) ∧ w'.ownsRow B 5 1 (.slice A (outM m).length C) (outM m).length (lc (outM m)) ∧ SB w' A C (outM m) ∧ (∀ g, (Value.slice A (outM m).length C).ownBlock = some g → B ≤ g ∧ g < w'.heap.size) := by
 have hlt := (outM_ok hS).2
 unfold outM errM at *
 by_cases hr : rightM m = true
 ·simp only [hr, if_true] at h hlt ⊢
  obtain ⟨v, rfl, ho⟩ := h
  obtain ⟨_, A, C, rfl, hs, _⟩ := SB.own ho hlt
  exact ⟨A, C, rfl, ho, hs, fun g hg => ⟨(owns_cells ho g hg).2.1, (owns_cells ho g hg).1⟩⟩
 ·simp only [hr, if_false] at h ⊢
  exact ⟨none, 0, h, World.ownsRow_nil _ _ _ _, ⟨by simp, by omega, fun _ => rfl, .inl rfl, BL.mk (by simp) (.inl rfl)⟩, fun g hg => by cases hg⟩
theorem manifestOf_cnt (G : Int) (a : Option Addr) (n cap : Nat) (P : Nat → Shd) (w : World) (hn : n ≤ 140737488351232) (hP : Shds w a n P) (hD : ∀ i, i < n → (P i).D.length ≤ 140737488351232) :
  Calls Tryz.prog 9 #[.agg #[.int .i64 G, .slice a n cap], .int .i64 3000] w fun e w' => ∃ r : Nat, e = .returned (.int .i64 (r : Nat)) ∧ Below w.heap.size w w' ∧ (r ≤ 3000 → cntS P n + 1 = r) := by
 obtain ⟨W1, hW1⟩ : ∃ W1, w.alloc (.cells #[.int .i64 G, .slice a n cap] 24) = W1 := ⟨_, rfl⟩
 have hb1 : Below w.heap.size w W1 := by rw [← hW1]; exact below_alloc _ _
 have h1 : W1.heap[w.heap.size]? = some (.cells #[.int .i64 G, .slice a n cap] 24 (0, 0)) := by rw [← hW1]; exact heap_alloc_new _ _
 obtain ⟨m0, m1⟩ := cells2_at h1
 have hP1 := hP.below hb1
 have HW1 := hide hW1
 have HB := hide hb1
 clear hW1 hb1 h1 hP
 go_enter Tryz.func9, Tryz.ntmps9
 go_wp2_with fail
 rw [HW1.out]
 go_loopg [5, 6] n (fun q s5 s6 wr => ∃ k c : Nat, k + q = n ∧ s6 = .int .i64 k ∧ s5 = .int .i64 c ∧ c ≤ 140737488361300 ∧ cntS P k + 1 = c ∧ wr = W1)
 case atStart => exact ⟨0, 1, by omega, rfl, rfl, by omega, rfl, rfl⟩
 case round =>
  obtain ⟨k, c, hkq, rfl, rfl, hcb, hct, rfl⟩ := hrel
  have HCT := hide hct
  clear hct
  cases gk with
  | zero =>
    obtain rfl : k = n := by omega
    clear hP1 hD
    go_wp2_with fail
    go_ret
    exact ⟨c, rfl, HB.out, fun _ => HCT.out⟩
  | succ q =>
    have hkn : k < n := by omega
    have hkz : (k : Int) < (n : Int) := by omega
    have hk0 : (0 : Int) ≤ (k : Int) := by omega
    have hc0 : (0 : Int) ≤ (c : Int) := by omega
    by_cases hm : c ≤ 3000
    ·have hmz : (c : Int) ≤ 3000 := by omega
     obtain ⟨ga, oa, rfl, ⟨x0, x1, x2, x3⟩, _⟩ := hP1.cells k hkn
     have hll := hD k hkn
     have HS := hide (show cntS P (k + 1) + 1 = c + 1 + (P k).D.length by show cntS P k + 1 + _ + 1 = _; have := HCT.out; omega)
     clear hP1 hD
     generalize (P k).D.length = b at *
     generalize (P k).cD = c1 at *
     generalize (P k).pD = p1 at *
     generalize (P k).N = N at *
     generalize (P k).Z = Z at *
     generalize (P k).S = S at *
     go_wp2_with fail
     go_roundg q
     case measure => omega
     case rel => exact ⟨k + 1, c + 1 + b, by omega, by go_num, by go_num, by omega, HS.out, rfl⟩
    ·have hmz : (3000 : Int) < (c : Int) := by omega
     clear hP1 hD
     go_wp2_with fail
     go_ret
     exact ⟨c, rfl, HB.out, fun h => by omega⟩
theorem puts25_any (G : Int) (a : Option Addr) (n cap : Nat) (P : Nat → Shd) (w : World) (hn : n ≤ 140737488351232) (hG : (Lit.int .i64 G).wf = true) (hP : Shds w a n P) (hD : ∀ i, i < n → (P i).D.length ≤ 140737488351232) :
  Calls Tryz.prog 3 #[.agg #[.int .i64 G, .slice a n cap]] w fun e w' => e = .returned (.bool true) ∧ Below w.heap.size w w' := by
 obtain ⟨W0, hW0⟩ : ∃ W0, w.alloc (.cells #[.int .i64 G, .slice a n cap] 24) = W0 := ⟨_, rfl⟩
 have hb0 : Below w.heap.size w W0 := by rw [← hW0]; exact below_alloc _ _
 have h0 : W0.heap[w.heap.size]? = some (.cells #[.int .i64 G, .slice a n cap] 24 (0, 0)) := by rw [← hW0]; exact heap_alloc_new _ _
 obtain ⟨m0, m1⟩ := cells2_at h0
 have hof := manifestOf_cnt G a n cap P W0 hn (hP.below hb0) hD
 have HP := hide (And.intro hn (And.intro hG hD))
 have H0 := hide (And.intro hb0 (And.intro (hP.below hb0) (And.intro m0 m1)))
 have HW0 := hide hW0
 rw [← hW0] at m0 m1
 clear hP hn hG hD hW0 hb0 h0
 go_enter Tryz.func3, Tryz.ntmps3
 go_wp2_with fail
 rw [HW0.out]
 refine hof.mono ?_
 rintro e w1 ⟨r, rfl, hB1, hr⟩
 clear hof m0 m1
 by_cases hrm : 3000 < r
 ·have hrz : (3000 : Int) < (r : Int) := by omega
  have haw := awake25_any w1
  have H1 := hide (below_thru H0.out.1 hB1)
  clear hr hB1
  go_wp2_with fail
  refine haw.mono ?_
  rintro e w2 ⟨rfl, hB2⟩
  have H2 := hide (below_thru H1.out hB2)
  clear haw hB2
  go_wp2_with fail
  go_ret
  exact ⟨rfl, H2.out⟩
 have hrz : (r : Int) ≤ 3000 := by omega
 have hct := hr (by omega)
 have hcl : cntS P n ≤ 3000 := by omega
 have hn3 : n ≤ 10000 := by have := cntS_n P n; omega
 have hl3 : ∀ i, i < n → (P i).D.length ≤ 10000 := fun i hi => by have := cntS_one P hi; omega
 have hP1 := H0.out.2.1.below hB1
 have n0 := cell_thru H0.out.2.2.1 hB1
 have n1 := cell_thru H0.out.2.2.2 hB1
 have hle := lentMani_any G a n cap P w1 hP1 hn3 hl3
 have HC := hide (And.intro hcl (And.intro hn3 hl3))
 have H1 := hide (And.intro (below_thru H0.out.1 hB1) (And.intro hP1 (And.intro n0 n1)))
 clear hr hct hcl hB1 hP1 hl3
 go_wp2_with fail
 refine hle.mono ?_
 rintro e w2 ⟨R, rfl, hR, ⟨Qs, hLe⟩, hB2⟩
 obtain ⟨W3, hW3⟩ : ∃ W3, w2.alloc (.cells #[.int .i64 G, .slice (some ⟨R, 0, none⟩) n (n + 12)] 24) = W3 := ⟨_, rfl⟩
 have hb3 : Below w2.heap.size w2 W3 := by rw [← hW3]; exact below_alloc _ _
 have h3 : W3.heap[w2.heap.size]? = some (.cells #[.int .i64 G, .slice (some ⟨R, 0, none⟩) n (n + 12)] 24 (0, 0)) := by rw [← hW3]; exact heap_alloc_new _ _
 obtain ⟨l0, l1⟩ := cells2_at h3
 have hB13 := below_thru hB2 hb3
 have hP3 := H1.out.2.1.below hB13
 have hL3 := hLe.below hb3
 have hwf : ∀ i, i < n → (Lit.int .i64 (P i).N).wf = true ∧ (Lit.int .i64 (P i).Z).wf = true ∧ (P i).S < 4294967296 ∧ (∀ d ∈ (P i).D, (Lit.int .i64 d).wf = true) ∧ (P i).D.length ≤ 20000 := fun i hi => by
  have ok := hP3.ok hi
  exact ⟨ok.wN, ok.wZ, ok.lS, ok.wD, by have := HC.out.2.2 i hi; omega⟩
 have hLs := hL3.shds hwf
 have hst : stsN (fun i => Qs.getD i dftS) n = stsN P n := by
  unfold stsN
  apply List.map_congr_left
  intro i hi
  exact hL3.st i (List.mem_range.1 hi)
 have hQl : ∀ i, i < n → ((fun i => Qs.getD i dftS) i).D.length ≤ 10000 := fun i hi => by
  have e := congrArg ST.D (hL3.st i hi)
  have := HC.out.2.2 i hi
  simp only [Shd.st] at e
  show (Qs.getD i dftS).D.length ≤ _
  rw [e]; omega
 have hSt := stsN_S hP3
 obtain ⟨mm, hmm⟩ : ∃ mm : MT, ⟨G, stsN P n⟩ = mm := ⟨_, rfl⟩
 have hSm : ∀ s ∈ mm.L, s.S < 4294967296 := by rw [← hmm]; exact hSt
 have hpc := partM_cnt (G := G) (P := P) (n := n)
 have hput := fun (W : World) (hW : Below W3.heap.size W3 W) => mput_any G (some ⟨R, 0, none⟩) n (n + 12) (fun i => Qs.getD i dftS) W (by have := HC.out.2.1; omega) HP.out.2.1 (hLs.below hW) (fun i hi => Nat.le_trans (hQl i hi) (by omega))
 have hrput := fun (W : World) (hW : Below W3.heap.size W3 W) => refPutM_any G a n cap P W HP.out.1 HP.out.2.1 (hP3.below hW) HP.out.2.2 (fun h => hpc h hSt HC.out.1)
 have hrt := fun (W : World) (hW : Below W3.heap.size W3 W) => mright_any G (some ⟨R, 0, none⟩) n (n + 12) (fun i => Qs.getD i dftS) W (by have := HC.out.2.1; omega) HP.out.2.1 (hLs.below hW) (fun i hi => Nat.le_trans (hQl i hi) (by omega))
 have hrrt := fun (W : World) (hW : Below W3.heap.size W3 W) => refRightM_any G a n cap P W HP.out.1 HP.out.2.1 (hP3.below hW) HP.out.2.2
 have hkp := fun (W : World) (hW : Below W3.heap.size W3 W) => keptMani_any G R a n cap P Qs W HC.out.2.1 HC.out.2.2 (hP3.below hW) (hL3.below hW)
 simp only [hst] at hput hrt
 simp only [hmm] at hput hrput hrt hrrt
 obtain ⟨rr, hrr⟩ : ∃ rr, rightM mm = rr := ⟨_, rfl⟩
 have hob := outM_ok hSm
 obtain ⟨L, hL⟩ : ∃ L, outM mm = L := ⟨_, rfl⟩
 obtain ⟨s, hs⟩ : ∃ s, L.length = s := ⟨_, rfl⟩
 obtain ⟨er, her⟩ : ∃ er, errM mm = er := ⟨_, rfl⟩
 have hw3 : w.heap.size < w2.heap.size := by have := H1.out.1.size; have := hB2.size; have := H0.out.1.size; have h1 := block_lt_of_cell H1.out.2.2.1; have h2 : w.heap.size < w1.heap.size := h1; omega
 have HS := hide (And.intro hSm (And.intro hL (And.intro hs (And.intro her (And.intro hrr hob)))))
 have HK := hide (And.intro hput (And.intro hrput (And.intro hrt (And.intro hrrt hkp))))
 have H3 := hide (And.intro (below_thru H1.out.1 hB13) (And.intro (And.intro l0 l1) (And.intro (And.intro (cell_thru H1.out.2.2.1 hB13) (cell_thru H1.out.2.2.2 hB13)) hw3)))
 have hp1 := hput W3 (Below.refl _ _)
 have HW3 := hide hW3
 rw [← hW3] at l0 l1
 clear hle hLe hB2 hR hW3 hb3 h3 hB13 hP3 hL3 hwf hLs hst hQl hSt hmm hSm hpc hput hrput hrt hrrt hkp hrr hob hL hs her n0 n1
 go_wp2_with fail
 rw [HW3.out]
 refine hp1.mono ?_
 rintro e w4 ⟨hp4, hB4⟩
 obtain ⟨A2, C2, rfl, ho2, hS2, hg2⟩ := putM_out HS.out.1 hp4
 rw [HS.out.2.1, HS.out.2.2.1] at ho2 hg2 ⊢
 rw [HS.out.2.1] at hS2
 rw [HS.out.2.2.2.1]
 have hp2 := HK.out.2.1 w4 hB4
 have a0 := cell_thru H3.out.2.2.1.1 hB4
 have a1 := cell_thru H3.out.2.2.1.2 hB4
 have H4 := hide (And.intro hB4 (And.intro ho2 (And.intro hS2 hg2)))
 clear hp1 hp4 hB4 ho2 hS2 hg2 l0 l1
 go_wp2_with fail
 refine hp2.mono ?_
 rintro e w5 ⟨hp5, hB5⟩
 obtain ⟨A3, C3, rfl, ho3, hS3, _⟩ := putM_out HS.out.1 hp5
 rw [HS.out.2.1, HS.out.2.2.1] at ho3 ⊢
 rw [HS.out.2.1] at hS3
 rw [HS.out.2.2.2.1]
 have hB35 := below_thru H4.out.1 hB5
 have hp3 := HK.out.1 w5 hB35
 have b0 := cell_thru H3.out.2.1.1 hB35
 have b1 := cell_thru H3.out.2.1.2 hB35
 have H5 := hide (And.intro hB5 (And.intro hB35 hS3))
 clear hp2 hp5 hB5 ho3 hS3 hB35 a0 a1
 go_wp2_with fail
 refine hp3.mono ?_
 rintro e w6 ⟨hp6, hB6⟩
 obtain ⟨A4, C4, rfl, ho4, hS4, hg4⟩ := putM_out HS.out.1 hp6
 rw [HS.out.2.1, HS.out.2.2.1] at ho4 hg4 ⊢
 rw [HS.out.2.2.2.1]
 have hB36 := below_thru H5.out.2.1 hB6
 have hB46 := below_thru H5.out.1 hB6
 have H6 := hide (And.intro hB6 (And.intro hB36 (And.intro hB46 (And.intro ho4 hg4))))
 clear hp3 hp6 hB6 ho4 hS4 hg4 b0 b1
 go_wp2
 refine mputsR n cap R w2.heap.size w.heap.size s C2 C3 C4 G er rr a A2 A3 A4 (fun k => (Value.slice A2 s C2).ownBlock = some k ∨ (Value.slice A4 s C4).ownBlock = some k) _ _ _ _ rfl rfl rfl rfl rfl rfl rfl rfl (cell_thru H3.out.2.1.1 hB36) (cell_thru H3.out.2.1.2 hB36) (cell_thru H3.out.2.2.1.1 hB36) (cell_thru H3.out.2.2.1.2 hB36) ?_ ?_ ?_ ?_ ?_ ?_ ?_ ?_ ?_ ?_
 ·rintro (h | h)
  ·have := (H4.out.2.2.2 _ h).1; have := block_lt_of_cell H3.out.2.1.1; have h9 : w2.heap.size < W3.heap.size := this; omega
  ·have := (H6.out.2.2.2.2 _ h).1; have := block_lt_of_cell (cell_thru H3.out.2.1.1 H5.out.2.1); have h9 : w2.heap.size < w5.heap.size := this; omega
 ·rintro (h | h)
  ·have := (H4.out.2.2.2 _ h).1; have := H3.out.2.2.2; have := block_lt_of_cell H3.out.2.1.1; have h9 : w2.heap.size < W3.heap.size := this; omega
  ·have := (H6.out.2.2.2.2 _ h).1; have := H3.out.2.2.2; have := block_lt_of_cell (cell_thru H3.out.2.1.1 H5.out.2.1); have h9 : w2.heap.size < w5.heap.size := this; omega
 ·exact fun W hW => sameBytes_any A2 A3 s C2 C3 L W HS.out.2.2.1 (by have := H4.out.2.2.1.l; have := H4.out.2.2.1.m; have := HS.out.2.2.1; omega) ((H4.out.2.2.1.below H6.out.2.2.1).below hW).b ((H5.out.2.2.below H6.out.1).below hW).b
 ·exact fun W hW => by have h := HK.out.2.2.1 W (below_thru H6.out.2.1 hW); rw [HS.out.2.2.2.2.1] at h; exact h
 ·exact fun W hW => by have h := HK.out.2.2.2.1 W (below_thru H6.out.2.1 hW); rw [HS.out.2.2.2.2.1] at h; exact h
 ·exact fun W hW => HK.out.2.2.2.2 W (below_thru H6.out.2.1 hW)
 ·intro W g hW hg
  have hs1 : s ≤ 1000000 := by have := HS.out.2.2.2.2.2.1; rw [HS.out.2.1, HS.out.2.2.1] at this; exact this
  refine apart2 (w1 := w5) g hg hs1 hs1 (owns_lower (owns_thru H4.out.2.1 (below_thru H6.out.2.2.1 hW)) (Nat.zero_le _)) (owns_thru H6.out.2.2.2.1 hW) (fun g hg => ?_)
  have := (H4.out.2.2.2 g hg).2
  have := H5.out.1.size
  omega
 ·intro W hW
  have hsz := H6.out.2.1.size
  have hbk : Below W3.heap.size w6 W := hW.below (fun k hk => by
   rcases hk with h | h
   ·exact (H4.out.2.2.2 _ h).1
   ·have := (H6.out.2.2.2.2 _ h).1; have := H5.out.2.1.size; omega) hsz
  exact HK.out.2.2.2.2 W (H6.out.2.1.trans hbk)
 ·exact fun W => awake25_any W
 ·intro vs w7 hk7 h2
  have hsz := H6.out.2.1.size
  have hbk : Below W3.heap.size w6 w7 := hk7.below (fun k hk => by
   rcases hk with h | h
   ·exact (H4.out.2.2.2 _ h).1
   ·have := (H6.out.2.2.2.2 _ h).1; have := H5.out.2.1.size; omega) hsz
  have H7 := hide (below_thru H3.out.1 (H6.out.2.1.trans hbk))
  simp only [List.foldl_cons, List.foldl_nil, List.setIfInBounds_toArray, List.set_cons_succ, List.set_cons_zero]
  rw [h2]
  generalize vs 31 = z31
  generalize vs 32 = z32
  generalize vs 33 = z33
  generalize vs 34 = z34
  generalize vs 35 = z35
  generalize vs 36 = z36
  generalize vs 37 = z37
  generalize vs 38 = z38
  generalize vs 39 = z39
  generalize vs 40 = z40
  generalize vs 41 = z41
  generalize vs 42 = z42
  generalize vs 43 = z43
  generalize vs 44 = z44
  generalize vs 45 = z45
  generalize vs 46 = z46
  generalize vs 47 = z47
  generalize vs 48 = z48
  generalize vs 49 = z49
  generalize vs 50 = z50
  generalize vs 51 = z51
  generalize vs 52 = z52
  generalize vs 53 = z53
  generalize vs 54 = z54
  generalize vs 55 = z55
  generalize vs 56 = z56
  generalize vs 57 = z57
  generalize vs 58 = z58
  generalize vs 59 = z59
  generalize vs 60 = z60
  generalize vs 61 = z61
  generalize vs 62 = z62
  generalize vs 63 = z63
  generalize vs 64 = z64
  clear hk7 hbk hsz
  go_wp2_with fail
  go_ret
  exact ⟨rfl, H7.out⟩
end Go.Proofs.YtppdbinppibjhaaGreatDoor
