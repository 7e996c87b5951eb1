/-
  doc.Find.
-/
import Derived.Test.YtpmldopbjlnknaaGreatRegS
import Derived.Test.YtpmldopbjlnknaaGreatDHass
import Derived.Test.YtpmldopbjlnknaaGreatRegT
import Derived.Test.YtpmldopbjlnknaaGreatCrcs
import Derived.Test.YtpmldopbjlnknaaGreatRdAlls
set_option maxHeartbeats 4000000
set_option maxRecDepth 100000
set_option linter.unusedVariables false
set_option linter.unusedSimpArgs false
namespace Go.Proofs.YtpmldopbjlnknaaGreat
open Go.RowKit Go.Shelf
attribute [local go_sem] Oper.semAt_some
theorem findN_no (p : List UInt8) : ∀ (l : List (List UInt8)) (i : Nat), (∀ q ∈ l, q ≠ p) → findN p i l = -1
 | [], _, _ => rfl
 | q :: r, i, h => by
   unfold findN
   rw [if_neg (h q List.mem_cons_self), findN_no p r (i + 1) (fun x hx => h x (List.mem_cons_of_mem _ hx))]
theorem findN_first (p : List UInt8) (r : List (List UInt8)) : ∀ (l : List (List UInt8)) (i : Nat), (∀ q ∈ l, q ≠ p) → findN p i (l ++ p :: r) = ((i + l.length : Nat) : Int)
 | [], i, _ => by simp [findN]
 | q :: t, i, h => by
   rw [List.cons_append]
   unfold findN
   rw [if_neg (h q List.mem_cons_self), findN_first p r t (i + 1) (fun x hx => h x (List.mem_cons_of_mem _ hx))]
   simp
   omega
theorem findN_at (p : List UInt8) (P : Nat → List UInt8) {x n : Nat} (hx : x < n) (h : ∀ i, i < x → P i ≠ p) (hp : P x = p) : findN p 0 (pathsN P n) = (x : Int) := by
 obtain ⟨r, hr⟩ := pathsN_split P hx
 rw [hr, hp, findN_first p r (pathsN P x) 0 (fun q hq => by obtain ⟨i, hi, rfl⟩ := List.mem_map.1 hq; exact h i (List.mem_range.1 hi))]
 simp [pathsN]
def FdI (w0 : World) (B1 B2 : Nat) (P : Nat → List UInt8) (p : List UInt8) (s : List Nat × (Nat → Prop)) (X : World) : Prop :=
 Boxed X B1 9 (by8 p) ∧ Boxed X B2 3 (.int .i64 (-1)) ∧ (∀ k, s.2 k ↔ k = B2) ∧ (∀ i ∈ s.1, P i ≠ p) ∧ Below w0.heap.size w0 X
theorem FdI.own {w0 : World} {B1 B2 : Nat} {P : Nat → List UInt8} {p : List UInt8} {N : Nat} (hN : w0.heap.size ≤ N) : OwnFrom N (FdI w0 B1 B2 P p) := fun _ X _ _ ⟨h1, h2, h3, h4, h5⟩ hg hr => by
 have hs := (Still.refl N X).grown hg hr
 exact ⟨Boxed.still h1 hs, Boxed.still h2 hs, h3, h4, h5.trans (hs.below hN h5.size)⟩
def FdE (w0 : World) (B2 : Nat) (r : Int) (X : World) : Prop := Boxed X B2 3 (.int .i64 r) ∧ Below w0.heap.size w0 X
theorem FdE.own {w0 : World} {B2 : Nat} {r : Int} {N : Nat} {β : Type} (hN : w0.heap.size ≤ N) : OwnFrom N (fun (_ : β) X => FdE w0 B2 r X) := fun _ X _ _ ⟨h1, h5⟩ hg hr => by
 have hs := (Still.refl N X).grown hg hr
 exact ⟨Boxed.still h1 hs, h5.trans (hs.below hN h5.size)⟩
theorem find_in (n : Nat) (hn : 40 ≤ n) (a : Option Addr) (len cap : Nat) (f : Nat → DT) (p : List UInt8) (w : World) (hlen : len ≤ 140737488355328) (hrow : RowK w a 4 len (fun i => cellD (f i))) :
  CallsIn Fence.wide n Tryz.prog 13 #[.slice a len cap, by8 p] w fun e w' => e = .returned (.int .i64 (findN p 0 (pathsN (fun i => (f i).P) len))) ∧ Below w.heap.size w w' := by
 obtain ⟨W1, hW1⟩ : ∃ W1, w.alloc (.cells #[by8 p] 9) = W1 := ⟨_, rfl⟩
 obtain ⟨W2, hW2⟩ : ∃ W2, W1.alloc (.cells #[.int .i64 (-1)] 3) = W2 := ⟨_, rfl⟩
 obtain ⟨W3, hW3⟩ : ∃ W3, (W2.alloc (.cells #[.slice a len cap] 22)).alloc (.cells #[.func (.func 34) #[] #[]] 65) = W3 := ⟨_, rfl⟩
 have hs1 : W1.heap.size = w.heap.size + 1 := by rw [← hW1]; simp
 have hs2 : W2.heap.size = w.heap.size + 2 := by rw [← hW2]; simp; omega
 have hs3 : W3.heap.size = w.heap.size + 4 := by rw [← hW3]; simp; omega
 have hB1 : Below w.heap.size w W1 := by rw [← hW1]; exact below_alloc _ _
 have hB2 : Below w.heap.size w W2 := below_thru hB1 (by rw [← hW2]; exact below_alloc _ _)
 have hB23 : Below W2.heap.size W2 W3 := by rw [← hW3]; exact below_step (below_alloc _ _) _
 have hB3 : Below w.heap.size w W3 := below_thru hB2 hB23
 have hok2 : Boxed W2 w.heap.size 9 (by8 p) := by rw [← hW2, ← hW1]; exact (Boxed.new w _ _).alloc _
 have hah2 : Boxed W2 (w.heap.size + 1) 3 (.int .i64 (-1)) := by rw [← hW2, ← hs1]; exact Boxed.new W1 _ _
 have hok3 : Boxed W3 w.heap.size 9 (by8 p) := by rw [← hW3]; exact (hok2.alloc _).alloc _
 have hah3 : Boxed W3 (w.heap.size + 1) 3 (.int .i64 (-1)) := by rw [← hW3]; exact (hah2.alloc _).alloc _
 have hb1 : W3.cell? ⟨w.heap.size + 2, 0, none⟩ = some (.slice a len cap) := by rw [← hW3, ← hs2]; exact cell_alloc_l _ (cell_new_l W2 _ _).1
 have hb2 : W3.cell? ⟨w.heap.size + 3, 0, none⟩ = some (.func (.func 34) #[] #[]) := by
  rw [← hW3, show w.heap.size + 3 = (W2.alloc (.cells #[.slice a len cap] 22)).heap.size by simp; omega]
  exact (cell_new_l _ _ _).1
 have hseq := pathsD_seq (n - 1) (w.heap.size + 2) (w.heap.size + 3) a len cap f hlen W3 hb1 hb2 (hrow.below hB3)
 have hI0 : FdI w w.heap.size (w.heap.size + 1) (fun i => (f i).P) p ([], fun k => k = w.heap.size + 1) W3 := ⟨hok3, hah3, fun k => Iff.rfl, (fun i hi => by cases hi), hB3⟩
 have hal : 0 < len → ∀ k, (∃ o s, a = some ⟨k, o, s⟩) → k < w.heap.size := fun h0 k ⟨o, s, e⟩ => by
  obtain ⟨b, off, e', h1, _⟩ := hrow.at4 h0
  rw [e] at e'
  cases e'
  exact block_lt_of_cell h1
 have hks : ∀ k, k = w.heap.size + 1 → ¬ ksP (w.heap.size + 2) (w.heap.size + 3) a len k ∧ k < W3.heap.size := fun k hk => by
  refine ⟨?_, by omega⟩
  rintro (h | h | ⟨h0, h⟩)
  ·omega
  ·omega
  ·have := hal h0 k h; omega
 have HS := hide (And.intro hs2 hs3)
 have HW := hide (And.intro hW1 (And.intro hW2 hW3))
 clear hb1 hb2 hs1 hs2 hs3 hok2 hah2 hok3 hah3 hW1 hW2 hW3
 refine callsIn_of_wp_marks Tryz.func13 rfl trivial ?_ rfl
 simp only [Tryz.ntmps13, List.size_toArray, List.length_cons, List.length_nil, Nat.reduceAdd, Nat.reduceSub, Array.replicate_succ, Array.replicate_zero, List.push_toArray, List.append_toArray, List.nil_append, List.cons_append]
 gi_wp2
 apply wpIn_scope
 gi_wp2
 apply wpIn_label
 gi_wp2
 rw [HW.out.1, HW.out.2.1]
 refine ⟨trivial, wide_deep, (pathsD_in Fence.wide (n - 1) trivial rfl a len cap 34 W2).mono ?_⟩
 rintro e w4 ⟨rfl, rfl⟩
 rw [HW.out.2.2, HS.out.1]
 gi_wp2
 refine wpIn_rangeFunc_N rfl (by omega) (gf := 68) (lb := #[.pointer (some ⟨w.heap.size + 2, 0, none⟩), .pointer (some ⟨w.heap.size + 3, 0, none⟩)]) rfl trivial (enters_of Tryz.func68 (by kernel_rfl) rfl)
  hseq (fun _ _ _ _ h => ⟨h.1.size, fun k o hk ho hc => h.1.others k o ho hc⟩) (fun _ _ _ h => by rw [h.1]; exact KeepsTo.refl _ _) (fun _ _ _ h => by rw [h.1]; exact KeepsTo.refl _ _) (Below.refl _ _) (fun _ => rfl)
  (FdI w w.heap.size (w.heap.size + 1) (fun i => (f i).P) p) (fun c pre X => c = .exit 0 ∧ FdE w (w.heap.size + 1) (findN p 0 (pathsN (fun i => (f i).P) len)) X)
  (fun s x X => FdI w w.heap.size (w.heap.size + 1) (fun i => (f i).P) p s X ∧ s.1 = List.range x ∧ x < len)
  (fun _ X => FdE w (w.heap.size + 1) (findN p 0 (pathsN (fun i => (f i).P) len)) X) (fun c _ X => c = .exit 0 ∧ FdE w (w.heap.size + 1) (findN p 0 (pathsN (fun i => (f i).P) len)) X)
  (FdI.own hB3.size) ?ix (FdE.own hB3.size) ?ex ?mid ?eend ?xend (fun k => k = w.heap.size + 1) hks hI0
  (fun s x a' X => a' = { tmps := #[.slice a len cap, by8 p, undef, .pointer (some ⟨w.heap.size, 0, none⟩), .int .i64 0, .pointer (some ⟨w.heap.size + 1, 0, none⟩), .int .i64 (x : Nat), by8 (f x).P, .slice a len cap, .func (.func 68) #[] #[.pointer (some ⟨w.heap.size + 2, 0, none⟩), .pointer (some ⟨w.heap.size + 3, 0, none⟩)], .int .i64 (x : Nat), by8 (f x).P, undef, undef, undef, undef, undef], defers := [] } ∧
   FdI w w.heap.size (w.heap.size + 1) (fun i => (f i).P) p s X ∧ s.1 = List.range x ∧ x < len) ?m2 ?assign ?body ?done ?stop
 case ix =>
  rintro c pre X Y row ⟨h0, h1⟩ hg hr
  exact ⟨h0, FdE.own (β := List Nat) hB3.size pre X Y row h1 hg hr⟩
 case ex =>
  rintro c pre X Y row ⟨h0, h1⟩ hg hr
  exact ⟨h0, FdE.own (β := List Nat) hB3.size pre X Y row h1 hg hr⟩
 case mid =>
  rintro pre O x A B ⟨h1, h2, h3, h4, h5⟩ ⟨hk, hpre, hx⟩
  exact ⟨⟨hk.heap h1 (fun h => h), hk.heap h2 (fun h => h), h3, h4, below_keptF h5 hk h5.size⟩, hpre, hx⟩
 case eend =>
  rintro xs O A B ⟨h1, h2, h3, h4, h5⟩ ⟨rfl, rfl⟩
  have e : findN p 0 (pathsN (fun i => (f i).P) len) = -1 := findN_no _ _ _ (fun q hq => by obtain ⟨i, hi, rfl⟩ := List.mem_map.1 hq; exact h4 i hi)
  exact ⟨by rw [e]; exact h2, h5⟩
 case xend =>
  rintro c pre A B ⟨h0, h1⟩ ⟨rfl, _⟩
  exact ⟨h0, h1⟩
 case m2 =>
  rintro x a' s X Y row ⟨h1, h2, h3⟩ hg hr
  exact ⟨h1, FdI.own hB3.size s X Y row h2 hg hr, h3⟩
 case assign =>
  intro l' pre O x X K hM hK
  have HK := hide (hK _ X ((KeepsFrom.refl _ _)) (KeptO.refl _ _) ⟨rfl, hM⟩)
  clear hK hseq hM hI0 hks
  simp only [encP]
  gi_wp2
  exact HK.out
 case body =>
  rintro l' pre O x a' X ⟨rfl, ⟨hA, hA2, hO, hno, hB⟩, hpre, hx⟩
  simp only at hO hno hpre
  subst hpre
  have c0 := hA.cell
  have f1 := hA2.frozen
  have c1 := hA2.cell
  have HA := hide hA
  have HA2 := hide hA2
  have HO := hide hO
  have HB := hide hB
  have HNO := hide hno
  clear hA hA2 hO hB hseq hI0 hks hB1 hB2 hB23 hno hrow
  by_cases he : (f x).P = p
  ·have hee : ((f x).P == p) = true := by simpa using he
   have hfx : findN p 0 (pathsN (fun i => (f i).P) len) = (x : Int) := findN_at p _ hx (fun i hi => HNO.out i (List.mem_range.2 hi)) he
   have HF := hide hfx
   clear hfx he
   unfold by8 at c0 ⊢
   gi_wp2
   exact ⟨(KeepsOthers.setCell _ _ _).from _, rfl, by rw [HF.out]; exact HA2.out.set _, HB.out.setCell (p := ⟨w.heap.size + 1, 0, none⟩) (by show w.heap.size ≤ w.heap.size + 1; omega) _⟩
  ·have hee : ((f x).P == p) = false := by simpa using he
   have HE := hide he
   clear he
   unfold by8 at c0 ⊢
   gi_wp2
   refine ⟨KeepsFrom.refl _ _, O, ⟨HA.out, HA2.out, HO.out, fun i hi => ?_, HB.out⟩, KeptO.refl _ _, fun k hk => ⟨.inl hk, ?_⟩⟩
   ·rcases List.mem_append.1 hi with h | h
    ·exact HNO.out i h
    ·rw [List.mem_singleton.1 h]; exact HE.out
   ·have := (HO.out k).1 hk
    have := block_lt HA2.out
    omega
 case done =>
  rintro D xs X hD ⟨h1, h3⟩ hKD
  have c0 := h1.cell
  have H3 := hide h3
  clear h1 h3 hseq hI0 hks
  gi_wp2
  rw [Exit.noGoto_ret]
  refine ⟨by simp, .inl ⟨D, _, rfl, run_takeDeferred hKD, ?_⟩⟩
  exact ⟨_, results_tmp rfl _ _ _, rfl, H3.out.trans (belowK_b (w := w) (Nat.le_refl _) X D _ _ (by have := hB3.size; omega) hKD rfl rfl)⟩
 case stop =>
  rintro D c pre X hD ⟨rfl, h1, h3⟩ hKD
  have c0 := h1.cell
  have H3 := hide h3
  clear h1 h3 hseq hI0 hks
  gi_wp2
  rw [Exit.noGoto_ret]
  refine ⟨by simp, .inl ⟨D, _, rfl, run_takeDeferred hKD, ?_⟩⟩
  exact ⟨_, results_tmp rfl _ _ _, rfl, H3.out.trans (belowK_b (w := w) (Nat.le_refl _) X D _ _ (by have := hB3.size; omega) hKD rfl rfl)⟩
end Go.Proofs.YtpmldopbjlnknaaGreat
/-
  doc.Of's drawn region (written by tools/gen-dof.py).
-/
namespace Go.Proofs.YtpmldopbjlnknaaGreat
open Go.RowKit Go.Shelf
abbrev dof7_o0 : Oper := ⟨some 16, .move (.tmp 4), 22, "doc.go:27", #[], none⟩
abbrev dof7_o1 : Oper := ⟨some 17, .fieldAddr 39 (.tmp 6) 0, 0, "doc.go:27", #[], none⟩
abbrev dof7_o2 : Oper := ⟨some 18, .load 9 (.tmp 17), 9, "doc.go:27", #[⟨1, .data⟩], none⟩
abbrev dof7_o3 : Oper := ⟨some 19, .fieldAddr 39 (.tmp 6) 0, 0, "doc.go:27", #[], none⟩
abbrev dof7_o4 : Oper := ⟨some 20, .load 9 (.tmp 19), 9, "doc.go:27", #[⟨3, .data⟩], none⟩
abbrev dof7_o5 : Oper := ⟨some 21, .call ⟨.value (.func 32), #[.tmp 20], #[9]⟩, 9, "doc.go:27", #[⟨4, .data⟩], none⟩
abbrev dof7_o6 : Oper := ⟨some 22, .fieldAddr 39 (.tmp 6) 1, 0, "doc.go:27", #[], none⟩
abbrev dof7_o7 : Oper := ⟨some 23, .load 26 (.tmp 22), 26, "doc.go:27", #[⟨6, .data⟩], none⟩
abbrev dof7_o8 : Oper := ⟨some 24, .buildSlice 34 1 #[(0, .tmp 23)], 34, "doc.go:27", #[⟨7, .data⟩], none⟩
abbrev dof7_o9 : Oper := ⟨some 25, .call ⟨.value (.func 55), #[.tmp 24], #[34]⟩, 45, "doc.go:27", #[⟨8, .data⟩, ⟨5, .chain⟩], none⟩
abbrev dof7_o10 : Oper := ⟨some 26, .fieldAddr 39 (.tmp 6) 1, 0, "doc.go:27", #[], none⟩
abbrev dof7_o11 : Oper := ⟨some 27, .load 26 (.tmp 26), 26, "doc.go:27", #[⟨10, .data⟩], none⟩
abbrev dof7_o12 : Oper := ⟨some 28, .call ⟨.builtin .len, #[.tmp 27], #[26]⟩, 3, "doc.go:27", #[⟨11, .data⟩], none⟩
abbrev dof7_o13 : Oper := ⟨some 29, .build 47 #[(0, .tmp 18), (1, .tmp 21), (2, .tmp 25), (3, .tmp 28)], 47, "doc.go:27", #[⟨2, .data⟩, ⟨5, .data⟩, ⟨9, .data⟩, ⟨12, .data⟩], none⟩
abbrev dof7_o14 : Oper := ⟨some 30, .buildSlice 22 1 #[(0, .tmp 29)], 22, "doc.go:27", #[⟨13, .data⟩], none⟩
abbrev dof7_o15 : Oper := ⟨some 31, .call ⟨.builtin .append, #[.tmp 16, .tmp 30], #[22, 22]⟩, 22, "doc.go:27", #[⟨0, .data⟩, ⟨14, .data⟩, ⟨9, .chain⟩], none⟩
abbrev dof7_o16 : Oper := ⟨some 4, .assign (.tmp 31), 22, "doc.go:27", #[⟨15, .data⟩, ⟨15, .chain⟩, ⟨0, .phase⟩, ⟨1, .phase⟩, ⟨2, .phase⟩, ⟨3, .phase⟩, ⟨4, .phase⟩, ⟨5, .phase⟩, ⟨6, .phase⟩, ⟨7, .phase⟩, ⟨8, .phase⟩, ⟨9, .phase⟩, ⟨10, .phase⟩, ⟨11, .phase⟩, ⟨12, .phase⟩, ⟨13, .phase⟩, ⟨14, .phase⟩, ⟨15, .phase⟩], none⟩
def dof7_ops : Array Oper := #[dof7_o0, dof7_o1, dof7_o2, dof7_o3, dof7_o4, dof7_o5, dof7_o6, dof7_o7, dof7_o8, dof7_o9, dof7_o10, dof7_o11, dof7_o12, dof7_o13, dof7_o14, dof7_o15, dof7_o16]
abbrev dof7_mem (s : Nat) : Prop := s ∈ [16, 17, 18, 19, 20, 21, 22, 23, 24, 25, 26, 27, 28, 29, 30]
theorem dof7_slots : ∀ j, j < 15 → dof7_mem (slotOf dof7_ops j) := by
 intro j hj
 match j, hj with
 | 0, _ => exact (by decide : dof7_mem 16)
 | 1, _ => exact (by decide : dof7_mem 17)
 | 2, _ => exact (by decide : dof7_mem 18)
 | 3, _ => exact (by decide : dof7_mem 19)
 | 4, _ => exact (by decide : dof7_mem 20)
 | 5, _ => exact (by decide : dof7_mem 21)
 | 6, _ => exact (by decide : dof7_mem 22)
 | 7, _ => exact (by decide : dof7_mem 23)
 | 8, _ => exact (by decide : dof7_mem 24)
 | 9, _ => exact (by decide : dof7_mem 25)
 | 10, _ => exact (by decide : dof7_mem 26)
 | 11, _ => exact (by decide : dof7_mem 27)
 | 12, _ => exact (by decide : dof7_mem 28)
 | 13, _ => exact (by decide : dof7_mem 29)
 | 14, _ => exact (by decide : dof7_mem 30)
 | k + 15, hj => omega
def dof7_val (b6 N0 : Nat) (P : List UInt8) (pB : Option Addr) (B : List Nat) (cB : Nat) (O : Value) : Nat → Value → World → Prop
 | 0, v, w => v = O
 | 1, v, w => v = .pointer (some ⟨b6, 0, none⟩)
 | 2, v, w => v = by8 P
 | 3, v, w => v = .pointer (some ⟨b6, 0, none⟩)
 | 4, v, w => v = by8 P
 | 5, v, w => v = by8 (ofL P)
 | 6, v, w => v = .pointer (some ⟨b6, 1, none⟩)
 | 7, v, w => v = .slice pB (B.length) cB
 | 8, v, w => ∃ g, v = .slice (some ⟨g, 0, none⟩) 1 1 ∧ w.cell? ⟨g, 0, none⟩ = some (.slice pB (B.length) cB)
 | 9, v, w => v = .int .u32 (crcL B : Nat)
 | 10, v, w => v = .pointer (some ⟨b6, 1, none⟩)
 | 11, v, w => v = .slice pB (B.length) cB
 | 12, v, w => v = .int .i64 ((B.length) : Nat)
 | 13, v, w => v = .agg #[by8 P, by8 (ofL P), .int .u32 (crcL B : Nat), .int .i64 (B.length : Nat)]
 | 14, v, w => ∃ g, v = .slice (some ⟨g, 0, none⟩) 1 1 ∧ w.heap[g]? = some (.cells #[by8 P, by8 (ofL P), .int .u32 (crcL B : Nat), .int .i64 (B.length : Nat)] 47 (0, 0)) ∧ N0 ≤ g
 | _, _, _ => True
theorem dof7_below (b6 N0 : Nat) (P : List UInt8) (pB : Option Addr) (B : List Nat) (cB : Nat) (O : Value) (w w' : World) (hb : Below w.heap.size w w') : ∀ j v, dof7_val b6 N0 P pB B cB O j v w → dof7_val b6 N0 P pB B cB O j v w' := by
 intro j v h
 match j, h with
 | 0, h | 1, h | 2, h | 3, h | 4, h | 5, h | 6, h | 7, h => exact h
 | 8, h => obtain ⟨g, h1, h2⟩ := h; exact ⟨g, h1, cell_thru h2 hb⟩
 | 9, h | 10, h | 11, h | 12, h | 13, h => exact h
 | 14, h => obtain ⟨g, h1, h2, h3⟩ := h; exact ⟨g, h1, (hb.block g (block_lt h2)).trans h2, h3⟩
 | _ + 15, h => exact h
def dof7_H (Fc : Fence) (b6 N0 : Nat) (P : List UInt8) (pB : Option Addr) (B : List Nat) (cB : Nat) (O : Value) (df : List Deferred) (w0 : World) (x : Act) (w : World) : Prop :=
 (Wide Fc) ∧ (w0.cell? ⟨b6, 0, none⟩ = some (by8 P)) ∧ (w0.cell? ⟨b6, 1, none⟩ = some (.slice pB (B.length) cB)) ∧ (P.length ≤ 1000000) ∧ (B.length ≤ cB) ∧ (cB ≤ 9223372036854775807) ∧ (BL w0 pB B) ∧ (w0.heap.size = N0) ∧ (Below w0.heap.size w0 w) ∧ (x.defers = df) ∧ (x.tmps.getD 4 undef = O) ∧ (x.tmps.getD 6 undef = .pointer (some ⟨b6, 0, none⟩))
section
set_option maxRecDepth 100000
set_option maxHeartbeats 2000000
variable {Fc : Fence} {nC : Nat} {b6 N0 : Nat} {P : List UInt8} {pB : Option Addr} {B : List Nat} {cB : Nat} {O : Value} {Q : Exit → Act → World → Prop} {df : List Deferred} {w0 : World} {x : Act} {w : World}
theorem dof7_s0 (H : dof7_H Fc b6 N0 P pB B cB O df w0 x w) : Stp Fc nC Tryz.prog dof7_ops Q 0 16 (dof7_val b6 N0 P pB B cB O 0) x w := by
 (obtain ⟨hF, h0, h1, hp, hl, hm, hz, hN0, hB, hdef, u4, u6⟩ := H; have ho : dof7_ops[0]? = some dof7_o0 := rfl; simp only [Array.getD_eq_getD_getElem?] at u4 u6)
 (refine wpOpIn_plain ho rfl (oper_inK hF.fn (fun K hK => ?_)); clear ho; rw [Oper.semAt_plain Fc _ _ (by intro c h; cases h)]; simp only [dof7_o0]; go_simp)
 exact hK _ _ ⟨_, act_putD x hdef _ _, rfl, Below.refl _ _⟩
theorem dof7_s1 (H : dof7_H Fc b6 N0 P pB B cB O df w0 x w) : Stp Fc nC Tryz.prog dof7_ops Q 1 17 (dof7_val b6 N0 P pB B cB O 1) x w := by
 (obtain ⟨hF, h0, h1, hp, hl, hm, hz, hN0, hB, hdef, u4, u6⟩ := H; have ho : dof7_ops[1]? = some dof7_o1 := rfl; simp only [Array.getD_eq_getD_getElem?] at u4 u6)
 (refine wpOpIn_plain ho rfl (oper_inK hF.fn (fun K hK => ?_)); clear ho; rw [Oper.semAt_plain Fc _ _ (by intro c h; cases h)]; simp only [dof7_o1]; go_simp)
 exact hK _ _ ⟨_, act_putD x hdef _ _, rfl, Below.refl _ _⟩
theorem dof7_s2 (H : dof7_H Fc b6 N0 P pB B cB O df w0 x w) (p1 : dof7_val b6 N0 P pB B cB O 1 (x.tmps.getD 17 undef) w) : Stp Fc nC Tryz.prog dof7_ops Q 2 18 (dof7_val b6 N0 P pB B cB O 2) x w := by
 (obtain ⟨hF, h0, h1, hp, hl, hm, hz, hN0, hB, hdef, u4, u6⟩ := H; have ho : dof7_ops[2]? = some dof7_o2 := rfl; simp only [Array.getD_eq_getD_getElem?] at u4 u6)
 have q1 : Array.getD (Act.tmps x) 17 undef = .pointer (some ⟨b6, 0, none⟩) := p1
 simp only [Array.getD_eq_getD_getElem?] at q1
 have m := cell_thru h0 hB
 (refine wpOpIn_plain ho rfl (oper_inK hF.fn (fun K hK => ?_)); clear ho; rw [Oper.semAt_plain Fc _ _ (by intro c h; cases h)]; simp only [dof7_o2]; go_simp)
 exact hK _ _ ⟨_, act_putD x hdef _ _, rfl, Below.refl _ _⟩
theorem dof7_s3 (H : dof7_H Fc b6 N0 P pB B cB O df w0 x w) : Stp Fc nC Tryz.prog dof7_ops Q 3 19 (dof7_val b6 N0 P pB B cB O 3) x w := by
 (obtain ⟨hF, h0, h1, hp, hl, hm, hz, hN0, hB, hdef, u4, u6⟩ := H; have ho : dof7_ops[3]? = some dof7_o3 := rfl; simp only [Array.getD_eq_getD_getElem?] at u4 u6)
 (refine wpOpIn_plain ho rfl (oper_inK hF.fn (fun K hK => ?_)); clear ho; rw [Oper.semAt_plain Fc _ _ (by intro c h; cases h)]; simp only [dof7_o3]; go_simp)
 exact hK _ _ ⟨_, act_putD x hdef _ _, rfl, Below.refl _ _⟩
theorem dof7_s4 (H : dof7_H Fc b6 N0 P pB B cB O df w0 x w) (p3 : dof7_val b6 N0 P pB B cB O 3 (x.tmps.getD 19 undef) w) : Stp Fc nC Tryz.prog dof7_ops Q 4 20 (dof7_val b6 N0 P pB B cB O 4) x w := by
 (obtain ⟨hF, h0, h1, hp, hl, hm, hz, hN0, hB, hdef, u4, u6⟩ := H; have ho : dof7_ops[4]? = some dof7_o4 := rfl; simp only [Array.getD_eq_getD_getElem?] at u4 u6)
 have q3 : Array.getD (Act.tmps x) 19 undef = .pointer (some ⟨b6, 0, none⟩) := p3
 simp only [Array.getD_eq_getD_getElem?] at q3
 have m := cell_thru h0 hB
 (refine wpOpIn_plain ho rfl (oper_inK hF.fn (fun K hK => ?_)); clear ho; rw [Oper.semAt_plain Fc _ _ (by intro c h; cases h)]; simp only [dof7_o4]; go_simp)
 exact hK _ _ ⟨_, act_putD x hdef _ _, rfl, Below.refl _ _⟩
theorem dof7_s5 (H : dof7_H Fc b6 N0 P pB B cB O df w0 x w) (p4 : dof7_val b6 N0 P pB B cB O 4 (x.tmps.getD 20 undef) w) : Stp Fc nC Tryz.prog dof7_ops Q 5 21 (dof7_val b6 N0 P pB B cB O 5) x w := by
 (obtain ⟨hF, h0, h1, hp, hl, hm, hz, hN0, hB, hdef, u4, u6⟩ := H; have ho : dof7_ops[5]? = some dof7_o5 := rfl; simp only [Array.getD_eq_getD_getElem?] at u4 u6)
 have q4 : Array.getD (Act.tmps x) 20 undef = by8 P := p4
 simp only [Array.getD_eq_getD_getElem?] at q4
 (refine wpOpIn_plain ho rfl (oper_inK hF.fn (fun K hK => ?_)); clear ho; rw [Oper.semAt_plain Fc _ _ (by intro c h; cases h)]; simp only [dof7_o5]; go_simp)
 refine ⟨hF.deep, (hF.call (of_any P w hp)).mono ?_⟩
 rintro e w' ⟨rfl, hb⟩
 exact hK _ _ ⟨_, act_putD x hdef _ _, rfl, hb⟩
theorem dof7_s6 (H : dof7_H Fc b6 N0 P pB B cB O df w0 x w) : Stp Fc nC Tryz.prog dof7_ops Q 6 22 (dof7_val b6 N0 P pB B cB O 6) x w := by
 (obtain ⟨hF, h0, h1, hp, hl, hm, hz, hN0, hB, hdef, u4, u6⟩ := H; have ho : dof7_ops[6]? = some dof7_o6 := rfl; simp only [Array.getD_eq_getD_getElem?] at u4 u6)
 (refine wpOpIn_plain ho rfl (oper_inK hF.fn (fun K hK => ?_)); clear ho; rw [Oper.semAt_plain Fc _ _ (by intro c h; cases h)]; simp only [dof7_o6]; go_simp)
 exact hK _ _ ⟨_, act_putD x hdef _ _, rfl, Below.refl _ _⟩
theorem dof7_s7 (H : dof7_H Fc b6 N0 P pB B cB O df w0 x w) (p6 : dof7_val b6 N0 P pB B cB O 6 (x.tmps.getD 22 undef) w) : Stp Fc nC Tryz.prog dof7_ops Q 7 23 (dof7_val b6 N0 P pB B cB O 7) x w := by
 (obtain ⟨hF, h0, h1, hp, hl, hm, hz, hN0, hB, hdef, u4, u6⟩ := H; have ho : dof7_ops[7]? = some dof7_o7 := rfl; simp only [Array.getD_eq_getD_getElem?] at u4 u6)
 have q6 : Array.getD (Act.tmps x) 22 undef = .pointer (some ⟨b6, 1, none⟩) := p6
 simp only [Array.getD_eq_getD_getElem?] at q6
 have m := cell_thru h1 hB
 (refine wpOpIn_plain ho rfl (oper_inK hF.fn (fun K hK => ?_)); clear ho; rw [Oper.semAt_plain Fc _ _ (by intro c h; cases h)]; simp only [dof7_o7]; go_simp)
 exact hK _ _ ⟨_, act_putD x hdef _ _, rfl, Below.refl _ _⟩
theorem dof7_s8 (H : dof7_H Fc b6 N0 P pB B cB O df w0 x w) (p7 : dof7_val b6 N0 P pB B cB O 7 (x.tmps.getD 23 undef) w) : Stp Fc nC Tryz.prog dof7_ops Q 8 24 (dof7_val b6 N0 P pB B cB O 8) x w := by
 (obtain ⟨hF, h0, h1, hp, hl, hm, hz, hN0, hB, hdef, u4, u6⟩ := H; have ho : dof7_ops[8]? = some dof7_o8 := rfl; simp only [Array.getD_eq_getD_getElem?] at u4 u6)
 have q7 : Array.getD (Act.tmps x) 23 undef = .slice pB (B.length) cB := p7
 simp only [Array.getD_eq_getD_getElem?] at q7
 (refine wpOpIn_plain ho rfl (oper_inK hF.fn (fun K hK => ?_)); clear ho; rw [Oper.semAt_plain Fc _ _ (by intro c h; cases h)]; simp only [dof7_o8]; go_simp)
 exact hK _ _ ⟨_, act_putD x hdef _ _, ⟨_, rfl, (cell_new_l w _ _).1⟩, below_alloc _ _⟩
theorem dof7_s9 (H : dof7_H Fc b6 N0 P pB B cB O df w0 x w) (p8 : dof7_val b6 N0 P pB B cB O 8 (x.tmps.getD 24 undef) w) : Stp Fc nC Tryz.prog dof7_ops Q 9 25 (dof7_val b6 N0 P pB B cB O 9) x w := by
 (obtain ⟨hF, h0, h1, hp, hl, hm, hz, hN0, hB, hdef, u4, u6⟩ := H; have ho : dof7_ops[9]? = some dof7_o9 := rfl; simp only [Array.getD_eq_getD_getElem?] at u4 u6)
 obtain ⟨g8, q8, p8⟩ := p8
 have q8 : x.tmps.getD 24 undef = .slice (some ⟨g8, 0, none⟩) 1 1 := q8
 simp only [Array.getD_eq_getD_getElem?] at q8
 (refine wpOpIn_plain ho rfl (oper_inK hF.fn (fun K hK => ?_)); clear ho; rw [Oper.semAt_plain Fc _ _ (by intro c h; cases h)]; simp only [dof7_o9]; go_simp)
 refine ⟨hF.deep, (hF.call (sum_one g8 pB B.length cB (fun i => B.getD i 0) w hl hm p8 (hz.below hB))).mono ?_⟩
 rintro e w' ⟨rfl, hb⟩
 exact hK _ _ ⟨_, act_putD x hdef _ _, rfl, hb⟩
theorem dof7_s10 (H : dof7_H Fc b6 N0 P pB B cB O df w0 x w) : Stp Fc nC Tryz.prog dof7_ops Q 10 26 (dof7_val b6 N0 P pB B cB O 10) x w := by
 (obtain ⟨hF, h0, h1, hp, hl, hm, hz, hN0, hB, hdef, u4, u6⟩ := H; have ho : dof7_ops[10]? = some dof7_o10 := rfl; simp only [Array.getD_eq_getD_getElem?] at u4 u6)
 (refine wpOpIn_plain ho rfl (oper_inK hF.fn (fun K hK => ?_)); clear ho; rw [Oper.semAt_plain Fc _ _ (by intro c h; cases h)]; simp only [dof7_o10]; go_simp)
 exact hK _ _ ⟨_, act_putD x hdef _ _, rfl, Below.refl _ _⟩
theorem dof7_s11 (H : dof7_H Fc b6 N0 P pB B cB O df w0 x w) (p10 : dof7_val b6 N0 P pB B cB O 10 (x.tmps.getD 26 undef) w) : Stp Fc nC Tryz.prog dof7_ops Q 11 27 (dof7_val b6 N0 P pB B cB O 11) x w := by
 (obtain ⟨hF, h0, h1, hp, hl, hm, hz, hN0, hB, hdef, u4, u6⟩ := H; have ho : dof7_ops[11]? = some dof7_o11 := rfl; simp only [Array.getD_eq_getD_getElem?] at u4 u6)
 have q10 : Array.getD (Act.tmps x) 26 undef = .pointer (some ⟨b6, 1, none⟩) := p10
 simp only [Array.getD_eq_getD_getElem?] at q10
 have m := cell_thru h1 hB
 (refine wpOpIn_plain ho rfl (oper_inK hF.fn (fun K hK => ?_)); clear ho; rw [Oper.semAt_plain Fc _ _ (by intro c h; cases h)]; simp only [dof7_o11]; go_simp)
 exact hK _ _ ⟨_, act_putD x hdef _ _, rfl, Below.refl _ _⟩
theorem dof7_s12 (H : dof7_H Fc b6 N0 P pB B cB O df w0 x w) (p11 : dof7_val b6 N0 P pB B cB O 11 (x.tmps.getD 27 undef) w) : Stp Fc nC Tryz.prog dof7_ops Q 12 28 (dof7_val b6 N0 P pB B cB O 12) x w := by
 (obtain ⟨hF, h0, h1, hp, hl, hm, hz, hN0, hB, hdef, u4, u6⟩ := H; have ho : dof7_ops[12]? = some dof7_o12 := rfl; simp only [Array.getD_eq_getD_getElem?] at u4 u6)
 have q11 : Array.getD (Act.tmps x) 27 undef = .slice pB (B.length) cB := p11
 simp only [Array.getD_eq_getD_getElem?] at q11
 (refine wpOpIn_plain ho rfl (oper_inK hF.fn (fun K hK => ?_)); clear ho; rw [Oper.semAt_plain Fc _ _ (by intro c h; cases h)]; simp only [dof7_o12]; go_simp)
 exact hK _ _ ⟨_, act_putD x hdef _ _, rfl, Below.refl _ _⟩
theorem dof7_s13 (H : dof7_H Fc b6 N0 P pB B cB O df w0 x w) (p2 : dof7_val b6 N0 P pB B cB O 2 (x.tmps.getD 18 undef) w) (p5 : dof7_val b6 N0 P pB B cB O 5 (x.tmps.getD 21 undef) w) (p9 : dof7_val b6 N0 P pB B cB O 9 (x.tmps.getD 25 undef) w) (p12 : dof7_val b6 N0 P pB B cB O 12 (x.tmps.getD 28 undef) w) : Stp Fc nC Tryz.prog dof7_ops Q 13 29 (dof7_val b6 N0 P pB B cB O 13) x w := by
 (obtain ⟨hF, h0, h1, hp, hl, hm, hz, hN0, hB, hdef, u4, u6⟩ := H; have ho : dof7_ops[13]? = some dof7_o13 := rfl; simp only [Array.getD_eq_getD_getElem?] at u4 u6)
 have q2 : Array.getD (Act.tmps x) 18 undef = by8 P := p2
 have q5 : Array.getD (Act.tmps x) 21 undef = by8 (ofL P) := p5
 have q9 : Array.getD (Act.tmps x) 25 undef = .int .u32 (crcL B : Nat) := p9
 have q12 : Array.getD (Act.tmps x) 28 undef = .int .i64 ((B.length) : Nat) := p12
 simp only [Array.getD_eq_getD_getElem?] at q2 q5 q9 q12
 (refine wpOpIn_plain ho rfl (oper_inK hF.fn (fun K hK => ?_)); clear ho; rw [Oper.semAt_plain Fc _ _ (by intro c h; cases h)]; simp only [dof7_o13]; go_simp)
 exact hK _ _ ⟨.agg #[by8 P, by8 (ofL P), .int .u32 (crcL B : Nat), .int .i64 (B.length : Nat)], rfl, rfl, Below.refl _ _⟩
theorem dof7_s14 (H : dof7_H Fc b6 N0 P pB B cB O df w0 x w) (p13 : dof7_val b6 N0 P pB B cB O 13 (x.tmps.getD 29 undef) w) : Stp Fc nC Tryz.prog dof7_ops Q 14 30 (dof7_val b6 N0 P pB B cB O 14) x w := by
 (obtain ⟨hF, h0, h1, hp, hl, hm, hz, hN0, hB, hdef, u4, u6⟩ := H; have ho : dof7_ops[14]? = some dof7_o14 := rfl; simp only [Array.getD_eq_getD_getElem?] at u4 u6)
 have q13 : Array.getD (Act.tmps x) 29 undef = .agg #[by8 P, by8 (ofL P), .int .u32 (crcL B : Nat), .int .i64 (B.length : Nat)] := p13
 simp only [Array.getD_eq_getD_getElem?] at q13
 (refine wpOpIn_plain ho rfl (oper_inK hF.fn (fun K hK => ?_)); clear ho; rw [Oper.semAt_plain Fc _ _ (by intro c h; cases h)]; simp only [dof7_o14]; go_simp)
 exact hK _ _ ⟨_, act_putD x hdef _ _, ⟨_, rfl, heap_alloc_new _ _, hN0 ▸ hB.size⟩, below_alloc _ _⟩
end
section
theorem dof7 {Fc : Fence} (hF : Wide Fc) {nC : Nat} (b6 N0 : Nat) (P : List UInt8) (pB : Option Addr) (B : List Nat) (cB : Nat) (O : Value) (Q : Exit → Act → World → Prop) (t0 : Array Value) (df : List Deferred) (w0 : World) (ht : t0.size = 34)
  (hs4 : t0.getD 4 undef = O) (hs6 : t0.getD 6 undef = .pointer (some ⟨b6, 0, none⟩))
  (h0 : w0.cell? ⟨b6, 0, none⟩ = some (by8 P)) (h1 : w0.cell? ⟨b6, 1, none⟩ = some (.slice pB (B.length) cB)) (hp : P.length ≤ 1000000) (hl : B.length ≤ cB) (hm : cB ≤ 9223372036854775807) (hz : BL w0 pB B) (hN0 : w0.heap.size = N0)
  (hQ : ∀ (vs : Nat → Value) (w : World), Below w0.heap.size w0 w → (vs 16 = O) → (∃ g, (vs 30) = .slice (some ⟨g, 0, none⟩) 1 1 ∧ w.heap[g]? = some (.cells #[by8 P, by8 (ofL P), .int .u32 (crcL B : Nat), .int .i64 (B.length : Nat)] 47 (0, 0)) ∧ N0 ≤ g) → wpOpIn Fc nC Tryz.prog dof7_ops Q 15 (fun a' w' => wpOpIn Fc nC Tryz.prog dof7_ops Q 16 (Q .normal) a' w') { tmps := [16, 17, 18, 19, 20, 21, 22, 23, 24, 25, 26, 27, 28, 29, 30].foldl (fun y d => y.setIfInBounds d (vs d)) t0, defers := df } w) :
  (Code.region 7 dof7_ops true).wpIn Fc nC Tryz.prog Q { tmps := t0, defers := df } w0 := by
 refine wpIn_region_tail 15 (by decide) (by kernel_rfl) (fun a b => Below a.heap.size a b) (dof7_val b6 N0 P pB B cB O) t0 df w0 (by rw [ht]; kernel_rfl) (by kernel_rfl) (by kernel_rfl) (by kernel_rfl) ((Below.refl _ _).drew) (fun _ _ _ h k => h.trans (k.mono h.size)) (dof7_below b6 N0 P pB B cB O) ?_ ?_
 ·intro j o ho hj x w hB hdef hsz hs hdeps
  have hs' : ∀ s, ¬ dof7_mem s → x.tmps.getD s undef = t0.getD s undef := fun s hn => hs s (fun j hj e => hn (by rw [e]; exact dof7_slots j hj))
  have u4 := (hs' 4 (by decide)).trans hs4
  have u6 := (hs' 6 (by decide)).trans hs6
  have H : dof7_H Fc b6 N0 P pB B cB O df w0 x w := ⟨hF, h0, h1, hp, hl, hm, hz, hN0, hB, hdef, u4, u6⟩
  match j, ho, hj with
  | 0, ho, _ =>
    (have e : o = dof7_o0 := (Option.some.inj ho).symm; subst e)
    exact dof7_s0 H 
  | 1, ho, _ =>
    (have e : o = dof7_o1 := (Option.some.inj ho).symm; subst e)
    exact dof7_s1 H 
  | 2, ho, _ =>
    (have e : o = dof7_o2 := (Option.some.inj ho).symm; subst e)
    exact dof7_s2 H (hdeps ⟨1, .data⟩ (by simp) rfl)
  | 3, ho, _ =>
    (have e : o = dof7_o3 := (Option.some.inj ho).symm; subst e)
    exact dof7_s3 H 
  | 4, ho, _ =>
    (have e : o = dof7_o4 := (Option.some.inj ho).symm; subst e)
    exact dof7_s4 H (hdeps ⟨3, .data⟩ (by simp) rfl)
  | 5, ho, _ =>
    (have e : o = dof7_o5 := (Option.some.inj ho).symm; subst e)
    exact dof7_s5 H (hdeps ⟨4, .data⟩ (by simp) rfl)
  | 6, ho, _ =>
    (have e : o = dof7_o6 := (Option.some.inj ho).symm; subst e)
    exact dof7_s6 H 
  | 7, ho, _ =>
    (have e : o = dof7_o7 := (Option.some.inj ho).symm; subst e)
    exact dof7_s7 H (hdeps ⟨6, .data⟩ (by simp) rfl)
  | 8, ho, _ =>
    (have e : o = dof7_o8 := (Option.some.inj ho).symm; subst e)
    exact dof7_s8 H (hdeps ⟨7, .data⟩ (by simp) rfl)
  | 9, ho, _ =>
    (have e : o = dof7_o9 := (Option.some.inj ho).symm; subst e)
    exact dof7_s9 H (hdeps ⟨8, .data⟩ (by simp) rfl)
  | 10, ho, _ =>
    (have e : o = dof7_o10 := (Option.some.inj ho).symm; subst e)
    exact dof7_s10 H 
  | 11, ho, _ =>
    (have e : o = dof7_o11 := (Option.some.inj ho).symm; subst e)
    exact dof7_s11 H (hdeps ⟨10, .data⟩ (by simp) rfl)
  | 12, ho, _ =>
    (have e : o = dof7_o12 := (Option.some.inj ho).symm; subst e)
    exact dof7_s12 H (hdeps ⟨11, .data⟩ (by simp) rfl)
  | 13, ho, _ =>
    (have e : o = dof7_o13 := (Option.some.inj ho).symm; subst e)
    exact dof7_s13 H (hdeps ⟨2, .data⟩ (by simp) rfl) (hdeps ⟨5, .data⟩ (by simp) rfl) (hdeps ⟨9, .data⟩ (by simp) rfl) (hdeps ⟨12, .data⟩ (by simp) rfl)
  | 14, ho, _ =>
    (have e : o = dof7_o14 := (Option.some.inj ho).symm; subst e)
    exact dof7_s14 H (hdeps ⟨13, .data⟩ (by simp) rfl)
  | k + 15, _, hj => omega
 ·intro x w hB hdef hsz hs hv
  have hx := frame_sets x.tmps t0 hsz [16, 17, 18, 19, 20, 21, 22, 23, 24, 25, 26, 27, 28, 29, 30] (fun s hn => hs s (fun j hj e => hn (by rw [e]; exact dof7_slots j hj)))
  have hq := hQ (fun d => x.tmps.getD d undef) w hB (hv 0 (by decide)) (hv 14 (by decide))
  obtain ⟨T, Df⟩ := x
  dsimp only at hx hdef hq
  subst hdef
  rw [← hx] at hq
  exact hq
end
open Go.RowKit Go.Shelf
def filesL (f : Nat → Fil) (n : Nat) : List (List UInt8 × List Nat) := (List.range n).map fun i => ((f i).P, (f i).B)
theorem filesL_succ (f : Nat → Fil) (n : Nat) : filesL f (n + 1) = filesL f n ++ [((f n).P, (f n).B)] := by simp [filesL, List.range_succ]
theorem filesL_length (f : Nat → Fil) (n : Nat) : (filesL f n).length = n := by simp [filesL]
theorem rightF_eq (f : Nat → Fil) (n : Nat) : rightF (filesL f n) = ((decide (n ≤ 4000) && riseP [] (pathsN (fun i => (f i).P) n)) && (List.range n).all fun i => decide ((f i).B.length ≤ 1048576)) := by
 unfold rightF pathsN
 rw [filesL_length]
 unfold filesL
 rw [List.map_map, List.all_map]
 rfl
theorem info_doc : (Tryz.prog.info? 47).map (fun i => (i.zero, i.size, i.bytes)) = some (some (.agg #[.string ⟨#[]⟩, .string ⟨#[]⟩, .int .u32 0, .int .i64 0]), 4, 48) := by kernel_rfl
theorem info_partsD {T : TypeId} {z : Value} {n b : Nat} (h : (Tryz.prog.info? T).map (fun i => (i.zero, i.size, i.bytes)) = some (some z, n, b)) : ∃ i, Tryz.prog.info? T = some i ∧ i.zero = some z ∧ i.size = n ∧ i.bytes = b := by
 cases e : Tryz.prog.info? T with
 | none => rw [e] at h; cases h
 | some i =>
   rw [e] at h
   simp only [Option.map_some, Option.some.injEq, Prod.mk.injEq] at h
   exact ⟨i, rfl, h.1, h.2.1, h.2.2⟩
theorem doc_news {w : World} {g : Nat} {d : DT} {fr : Nat × Nat} (h : w.heap[g]? = some (.cells #[by8 d.P, by8 d.L, .int .u32 (d.S : Nat), .int .i64 d.Z] 47 fr)) : ∀ j u, (cellD d)[j]? = some u → w.cell? ((⟨g, 0, none⟩ : Addr).add j) = some u := by
 intro j u hj
 have hlt : j < 4 := (List.getElem?_eq_some_iff.1 hj).1
 rw [add_none' _ rfl]
 simp only [Nat.zero_add]
 rw [cell_of_row _ _ _ _ _ _ h]
 match j, hlt, hj with
 | 0, _, hj | 1, _, hj | 2, _, hj | 3, _, hj => exact hj
theorem docOf_any (a : Option Addr) (len cap : Nat) (f : Nat → Fil) (w : World) (hlen : len ≤ 140737488355328) (hF : Fils w a len f) (hP : ∀ i, i < len → (f i).P.length ≤ 1000000) :
  Calls Tryz.prog 22 #[.slice a len cap] w fun e w' => (if rightF (filesL f len) = true then ∃ v, e = .returned (.tuple #[v, .int .i64 0]) ∧ OwnD w' w.heap.size v ((filesL f len).map docF) else e = .returned (.tuple #[.slice none 0 0, .int .i64 2])) ∧ Below w.heap.size w w' := by
 have h1 := rightFiles_any a len cap f w hlen hF.row hP
 rw [← rightF_eq] at h1
 have HF := hide hF
 clear hF
 cases hr : rightF (filesL f len) with
 | false =>
   rw [hr] at h1
   clear hr
   go_enter Tryz.func22, Tryz.ntmps22
   go_wp2_with fail
   refine h1.mono ?_
   rintro e w2 ⟨rfl, hb2⟩
   have HB := hide hb2
   clear h1 hb2
   go_wp2_with fail
   go_ret2
   exact ⟨rfl, HB.out⟩
 | true =>
   rw [hr] at h1
   have h4 : len ≤ 4000 := by
    rw [rightF_eq] at hr
    simp only [Bool.and_eq_true, decide_eq_true_eq] at hr
    exact hr.1.1
   have HH := hide (And.intro hr hP)
   clear hr hP
   go_enter Tryz.func22, Tryz.ntmps22
   go_wp2_with fail
   refine h1.mono ?_
   rintro e w2 ⟨rfl, hb2⟩
   have HB := hide hb2
   clear h1 hb2
   go_wp2_with fail
   go_loopg [4, 12] len (fun q s4 s12 wr => ∃ (k : Nat) (A : Option Addr) (C : Nat), k + q = len ∧ s4 = .slice A k C ∧ s12 = .int .i64 k ∧ OwnD wr w2.heap.size (.slice A k C) ((filesL f k).map docF) ∧ Below w2.heap.size w2 wr)
   case atStart => exact ⟨0, none, 0, by omega, rfl, rfl, OwnD.nil _ _, Below.refl _ _⟩
   case round =>
    obtain ⟨k, A, C, hkq, rfl, rfl, ho, hB2⟩ := hrel
    have HO := hide ho
    have HB2 := hide hB2
    cases gk with
    | zero =>
      obtain rfl : k = len := by omega
      clear ho hB2
      go_wp2_with fail
      go_ret2
      exact ⟨⟨_, rfl, owns_lower HO.out HB.out.size⟩, HB.out.trans (HB2.out.mono HB.out.size)⟩
    | succ q =>
      have hkl : k < len := by omega
      have hk1 : (k : Int) < (len : Int) := by omega
      obtain ⟨b, off, rfl, ⟨q0, q1⟩, hok⟩ := (HF.out.below (HB.out.trans (hB2.mono HB.out.size))).cells k hkl
      obtain ⟨W1, hW1⟩ : ∃ W1, wr.alloc (.cells #[by8 (f k).P, .slice (f k).pB (f k).B.length (f k).cB] 39) = W1 := ⟨_, rfl⟩
      obtain ⟨n0, n1⟩ := cellsAt2 (show W1.heap[wr.heap.size]? = some (.cells #[by8 (f k).P, .slice (f k).pB (f k).B.length (f k).cB] 39 (0, 0)) by rw [← hW1]; exact heap_alloc_new _ _)
      have hb1 : Below wr.heap.size wr W1 := by rw [← hW1]; exact below_alloc _ _
      have HN := hide (And.intro n0 (And.intro n1 (And.intro hb1 (hok.below hb1))))
      have HW := hide hW1
      clear n0 n1 hb1 hok hW1 ho hB2
      unfold by8 at q0
      go_wp2_with fail
      rw [show wr.alloc (.cells #[.string ⟨(f k).P.toArray⟩, .slice (f k).pB (f k).B.length (f k).cB] 39) = W1 from HW.out]
      refine (wpIn_wide (n := 0)).1 (dof7 wide_plain wr.heap.size W1.heap.size (f k).P (f k).pB (f k).B (f k).cB (.slice A k C) _ _ _ _ rfl rfl rfl HN.out.1 HN.out.2.1 (HH.out.2 k hkl) HN.out.2.2.2.lB HN.out.2.2.2.mB HN.out.2.2.2.bB rfl ?_)
      intro vs W5 hb5 h16 h30
      obtain ⟨g5, h30, hs5, hg5⟩ := h30
      simp only [List.foldl_cons, List.foldl_nil, List.setIfInBounds_toArray, List.set_cons_succ, List.set_cons_zero]
      rw [h16, h30]
      have hB5 : Below wr.heap.size wr W5 := HN.out.2.2.1.trans (hb5.mono HN.out.2.2.1.size)
      have hsz5 : w2.heap.size ≤ W5.heap.size := Nat.le_trans HB2.out.size hB5.size
      obtain ⟨i0, hi0, hq0, hq1, hq2⟩ := info_partsD info_doc
      refine op_appendS wide_plain (o := dof7_ops[15]) rfl rfl (.tmp 16) (.tmp 30) 22 rfl 47 i0 (.agg #[.string ⟨#[]⟩, .string ⟨#[]⟩, .int .u32 0, .int .i64 0]) 4 48 Tryz.underlying22 hi0 hq0 hq1 hq2 rfl (by omega) w2.heap.size (.slice A k C) k (cellsD ((filesL f k).map docF)) rfl (by have := HO.out.thru hB5; unfold OwnD at this; rwa [List.length_map, filesL_length] at this) ⟨g5, 0, none⟩ 1 1 (cellD (docF ((f k).P, (f k).B))) rfl rfl (doc_news (d := docF ((f k).P, (f k).B)) hs5) (cellD_one _) (by unfold maxLen; omega) (by omega) hsz5 ?_
      intro A' C' W6 hown' hG' _
      have hk6 := (Kept.of_below (F := fun y => (Value.slice A k C).ownBlock = some y) hB5).trans (hG'.kept (F := fun y => (Value.slice A k C).ownBlock = some y) (fun _ h => h)) (fun _ _ h => h)
      have H6 := hide (And.intro hown' (HB2.out.trans (hk6.below (fun y hy => (owns_cells HO.out y hy).2.1) HB2.out.size)))
      clear hown' hG' hk6 hb5 h16 h30 hB5 hsz5 hs5 hi0 hq0 hq1 hq2 hg5
      refine wpOpIn_plain (o := dof7_ops[16]) rfl rfl (oper_inK (fun _ => trivial) (fun K hK => ?_))
      rw [Oper.semAt_plain Fence.wide _ _ (by intro c h; cases h)]
      simp only [dof7_ops, dof7_o16]
      go_simp
      refine hK _ _ ?_
      clear hK K
      go_wp2_with fail
      go_roundg q
      case measure => omega
      case rel =>
       refine ⟨k + 1, A', C', by omega, rfl, by go_num, ?_, H6.out.2⟩
       have h := H6.out.1
       rw [← cellsD_snoc] at h
       unfold OwnD
       rw [filesL_succ, List.map_append, List.length_append, List.length_map, filesL_length]
       exact h
end Go.Proofs.YtpmldopbjlnknaaGreat
