/-
  The range-function of package doc: the paths of documents, of files.
-/
import Derived.Test.YtpmldopbjlnknaaGreatDBase
import Derived.Test.YtpmldopbjlnknaaGreatLRight
set_option maxHeartbeats 2000000
set_option maxRecDepth 100000
set_option linter.unusedVariables false
set_option linter.unusedSimpArgs false
namespace Go.Proofs.YtpmldopbjlnknaaGreat
open Go.RowKit Go.Shelf
attribute [local go_sem] Oper.semAt_some
def RowK (w : World) (a : Option Addr) (wd n : Nat) (c : Nat → List Value) : Prop :=
 n = 0 ∨ ∃ b off, a = some ⟨b, off, none⟩ ∧ ∀ i, i < n → ∀ j u, (c i)[j]? = some u → w.cell? ⟨b, off + (i * wd + j), none⟩ = some u
theorem RowK.keptO {O : Nat → Prop} {A B : World} (h : KeptO O A B) {a : Option Addr} {wd n : Nat} {c : Nat → List Value} (hz : RowK A a wd n c) (ha : ∀ g o s, a = some ⟨g, o, s⟩ → 0 < n → g < A.heap.size → ¬ O g) : RowK B a wd n c := by
 rcases hz with h0 | ⟨b, off, e, hc⟩
 ·exact .inl h0
 ·exact .inr ⟨b, off, e, fun i hi j u hu => h.cell (ha b off none e (by omega) (block_lt_of_cell (hc i hi j u hu))) (hc i hi j u hu)⟩
theorem RowK.below {w w' : World} {a : Option Addr} {wd n : Nat} {c : Nat → List Value} (h : RowK w a wd n c) (hb : Below w.heap.size w w') : RowK w' a wd n c := by
 rcases h with h0 | ⟨b, off, e, hc⟩
 ·exact .inl h0
 ·exact .inr ⟨b, off, e, fun i hi j u hu => cell_thru (hc i hi j u hu) hb⟩
def ksP (B1 B2 : Nat) (a : Option Addr) (n k : Nat) : Prop := k = B1 ∨ k = B2 ∨ (0 < n ∧ ∃ o s, a = some ⟨k, o, s⟩)
def encP (P : Nat → List UInt8) (k : Nat) : Array Value := #[.int .i64 (k : Int), by8 (P k)]
def GPath (n : Nat) (_ : Nat) (pre : List Nat) (A : World) (x : Nat) (B : World) : Prop := Kept (fun _ => False) A B ∧ pre = List.range x ∧ x < n
def SPath (n : Nat) (_ : Nat) (xs : List Nat) (A B : World) : Prop := A = B ∧ xs = List.range n
def SpPath (n : Nat) (_ : Nat) (pre : List Nat) (A B : World) : Prop := A = B ∧ ∃ x, x < n ∧ pre = List.range (x + 1)
def dAt (ds : List DT) (i : Nat) : DT := ds.getD i ⟨[], [], 0, 0⟩
theorem Docs.row {w : World} {a : Option Addr} {ds : List DT} (h : Docs w a ds) : RowK w a 4 ds.length (fun i => cellD (dAt ds i)) := by
 rcases h with rfl | ⟨b, off, e, hc⟩
 ·exact .inl rfl
 ·refine .inr ⟨b, off, e, fun i hi j u hu => hc i (dAt ds i) ?_ j u hu⟩
  simp [dAt, List.getD_eq_getElem?_getD, hi]
def cellF (f : Fil) : List Value := [by8 f.P, .slice f.pB f.B.length f.cB]
theorem Fils.row {w : World} {a : Option Addr} {n : Nat} {f : Nat → Fil} (h : Fils w a n f) : RowK w a 2 n (fun i => cellF (f i)) := by
 rcases h with h | ⟨b, off, e, hc⟩
 ·exact .inl h
 ·refine .inr ⟨b, off, e, fun i hi j u hu => ?_⟩
  obtain ⟨⟨h0, h1⟩, _⟩ := hc i hi
  match j, hu with
  | 0, hu => simp [cellF] at hu; subst hu; exact h0
  | 1, hu => simp [cellF] at hu; subst hu; rw [← Nat.add_assoc]; exact h1
theorem RowK.at4 {w : World} {a : Option Addr} {n : Nat} {f : Nat → DT} (h : RowK w a 4 n (fun i => cellD (f i))) {k : Nat} (hk : k < n) :
  ∃ b off, a = some ⟨b, off, none⟩ ∧ w.cell? ⟨b, off + k * 4, none⟩ = some (by8 (f k).P) ∧ w.cell? ⟨b, off + k * 4 + 1, none⟩ = some (by8 (f k).L) ∧ w.cell? ⟨b, off + k * 4 + 2, none⟩ = some (.int .u32 ((f k).S : Nat)) ∧ w.cell? ⟨b, off + k * 4 + 3, none⟩ = some (.int .i64 (f k).Z) := by
 rcases h with h | ⟨b, off, e, hc⟩
 ·omega
 ·have h0 := hc k hk 0 _ rfl
  have h1 := hc k hk 1 _ rfl
  have h2 := hc k hk 2 _ rfl
  have h3 := hc k hk 3 _ rfl
  exact ⟨b, off, e, by simpa using h0, by simpa [Nat.add_assoc] using h1, by simpa [Nat.add_assoc] using h2, by simpa [Nat.add_assoc] using h3⟩
theorem RowK.at2 {w : World} {a : Option Addr} {n : Nat} {f : Nat → Fil} (h : RowK w a 2 n (fun i => cellF (f i))) {k : Nat} (hk : k < n) :
  ∃ b off, a = some ⟨b, off, none⟩ ∧ w.cell? ⟨b, off + k * 2, none⟩ = some (by8 (f k).P) ∧ w.cell? ⟨b, off + k * 2 + 1, none⟩ = some (.slice (f k).pB (f k).B.length (f k).cB) := by
 rcases h with h | ⟨b, off, e, hc⟩
 ·omega
 ·have h0 := hc k hk 0 _ rfl
  have h1 := hc k hk 1 _ rfl
  exact ⟨b, off, e, by simpa using h0, by simpa [Nat.add_assoc] using h1⟩
theorem cellsAt4 {w : World} {p : Nat} {a b c d : Value} {t : TypeId} {fr : Nat × Nat} (h : w.heap[p]? = some (.cells #[a, b, c, d] t fr)) :
  w.cell? ⟨p, 0, none⟩ = some a ∧ w.cell? ⟨p, 1, none⟩ = some b ∧ w.cell? ⟨p, 2, none⟩ = some c ∧ w.cell? ⟨p, 3, none⟩ = some d :=
 ⟨by rw [cell_of_row _ _ _ _ _ _ h]; rfl, by rw [cell_of_row _ _ _ _ _ _ h]; rfl, by rw [cell_of_row _ _ _ _ _ _ h]; rfl, by rw [cell_of_row _ _ _ _ _ _ h]; rfl⟩
theorem cellsAt2 {w : World} {p : Nat} {a b : Value} {t : TypeId} {fr : Nat × Nat} (h : w.heap[p]? = some (.cells #[a, b] t fr)) :
  w.cell? ⟨p, 0, none⟩ = some a ∧ w.cell? ⟨p, 1, none⟩ = some b :=
 ⟨by rw [cell_of_row _ _ _ _ _ _ h]; rfl, by rw [cell_of_row _ _ _ _ _ _ h]; rfl⟩
theorem pathDoc_in (F : Fence) (n : Nat) (hF : F.fn 34) (hro : F.round = none) (d : DT) (w : World) :
  CallsIn F n Tryz.prog 34 #[.agg #[by8 d.P, by8 d.L, .int .u32 (d.S : Nat), .int .i64 d.Z]] w fun e w' => e = .returned (by8 d.P) ∧ Below w.heap.size w w' := by
 refine callsIn_of_wp Tryz.func34 rfl hF ?_ hro
 simp only [Tryz.ntmps34, List.size_toArray, List.length_cons, List.length_nil, Nat.reduceAdd, Nat.reduceSub, Array.replicate_succ, Array.replicate_zero, List.push_toArray, List.append_toArray, List.nil_append, List.cons_append]
 gi_wp2
 go_ret
 exact ⟨rfl, below_alloc _ _⟩
theorem pathsD_in (F : Fence) (n : Nat) (hF : F.fn 38) (hro : F.round = none) (a : Option Addr) (len cap : Nat) (g : Nat) (w : World) :
  CallsIn F n Tryz.prog 38 #[.slice a len cap, .func (.func g) #[] #[]] w fun e w' => e = .returned (.func (.func 68) #[] #[.pointer (some ⟨w.heap.size, 0, none⟩), .pointer (some ⟨w.heap.size + 1, 0, none⟩)]) ∧ w' = (w.alloc (.cells #[.slice a len cap] 22)).alloc (.cells #[.func (.func g) #[] #[]] 65) := by
 refine callsIn_of_wp Tryz.func38 rfl hF ?_ hro
 simp only [Tryz.ntmps38, List.size_toArray, List.length_cons, List.length_nil, Nat.reduceAdd, Nat.reduceSub, Array.replicate_succ, Array.replicate_zero, List.push_toArray, List.append_toArray, List.nil_append, List.cons_append]
 gi_wp2
 go_ret
 exact ⟨by simp, rfl⟩
theorem pathsD1_in (n l B1 B2 N : Nat) (a : Option Addr) (len cap : Nat) (f : Nat → DT) (hlen : len ≤ 140737488355328) (J : List Nat × (Nat → Prop) → World → Prop) (Jx : List Nat → World → Prop)
  (hY : ∀ pre O x A B, J (pre, O) A → GPath len N pre A x B → YieldAt Fence.wide (n - 1) Tryz.prog l (encP (fun i => (f i).P) x) B fun e W' =>
   (e = .returned (.bool true) ∧ (∃ O', J (pre ++ [x], O') W' ∧ KeptO O B W' ∧ ∀ k, O' k → (O k ∨ B.heap.size ≤ k) ∧ k < W'.heap.size) ∧ KeepsFrom (l + 1) B W') ∨ (e = .returned (.bool false) ∧ Jx (pre ++ [x]) W' ∧ KeepsFrom (l + 1) B W'))
  (W : World) (O0 : Nat → Prop) (hO0 : ∀ k, O0 k → ¬ ksP B1 B2 a len k ∧ k < W.heap.size) (hB1 : W.cell? ⟨B1, 0, none⟩ = some (.slice a len cap)) (hB2 : W.cell? ⟨B2, 0, none⟩ = some (.func (.func 34) #[] #[])) (hz : RowK W a 4 len (fun i => cellD (f i))) (h0 : J ([], O0) W) :
  CallsIn Fence.wide n Tryz.prog 68 #[.func (.yield l) #[] #[], .pointer (some ⟨B1, 0, none⟩), .pointer (some ⟨B2, 0, none⟩)] W fun e W' => (∃ v, e = .returned v) ∧
   ((∃ xs O A, J (xs, O) A ∧ SPath len N xs A W') ∨ (∃ pre A, Jx pre A ∧ SpPath len N pre A W')) := by
 have hO1 : ∀ k, k < W.heap.size → O0 k → ¬ ksP B1 B2 a len k := fun k _ hk => (hO0 k hk).1
 clear hO0
 refine callsIn_of_wp Tryz.func68 rfl trivial ?_ rfl
 simp only [Tryz.ntmps68, List.size_toArray, List.length_cons, List.length_nil, Nat.reduceAdd, Nat.reduceSub, Array.replicate_succ, Array.replicate_zero, List.push_toArray, List.append_toArray, List.nil_append, List.cons_append]
 gi_wp2
 gi_loopg [8] len (fun q s8 wr => ∃ (k : Nat) (O : Nat → Prop), k + q = len ∧ s8 = .int .i64 k ∧ RowK wr a 4 len (fun i => cellD (f i)) ∧ wr.cell? ⟨B2, 0, none⟩ = some (.func (.func 34) #[] #[]) ∧ J (List.range k, O) wr ∧ W.heap.size ≤ wr.heap.size ∧ (∀ k, k < W.heap.size → O k → ¬ ksP B1 B2 a len k) ∧ B2 < W.heap.size ∧ ∀ g o s, a = some ⟨g, o, s⟩ → 0 < len → g < W.heap.size)
 case atStart =>
  refine ⟨0, O0, by omega, rfl, hz, hB2, h0, Nat.le_refl _, hO1, block_lt_of_cell hB2, fun g o s e hl => ?_⟩
  obtain ⟨b, off, e', h1, _⟩ := hz.at4 hl
  rw [e] at e'
  cases e'
  exact block_lt_of_cell h1
 case round =>
  obtain ⟨k, O, hkq, rfl, hzr, hc2, hJ, hsz, hO, hb2, hlt⟩ := hrel
  have HO := hide hO
  have HLT := hide hlt
  clear hz h0 hO1 hO hlt hB1 hB2
  cases gk with
  | zero =>
    obtain rfl : k = len := by omega
    clear hzr hY
    gi_wp2
    go_end0
    exact ⟨⟨_, rfl⟩, .inl ⟨_, O, wr, hJ, rfl, rfl⟩⟩
  | succ q =>
    have hkl : k < len := by omega
    have hk1 : (k : Int) < (len : Int) := by omega
    obtain ⟨b, off, rfl, q0, q1, q2, q3⟩ := hzr.at4 hkl
    have HZ := hide hzr
    have HY := hide hY
    have hp := pathDoc_in Fence.wide (n - 1) trivial rfl (f k)
    obtain ⟨sP, hP⟩ : ∃ s, by8 (f k).P = .string s := ⟨_, rfl⟩
    obtain ⟨sL, hL⟩ : ∃ s, by8 (f k).L = .string s := ⟨_, rfl⟩
    have HP := hide hP
    rw [hP, hL] at hp
    rw [hP] at q0
    rw [hL] at q1
    obtain ⟨W1, hW1⟩ : ∃ W1, wr.alloc (.cells #[.string sP, .string sL, .int .u32 ((f k).S : Nat), .int .i64 (f k).Z] 47) = W1 := ⟨_, rfl⟩
    have hc3 : W1.cell? ⟨B2, 0, none⟩ = some (.func (.func 34) #[] #[]) := by rw [← hW1]; exact cell_alloc_l _ hc2
    obtain ⟨n0, n1, n2, n3⟩ := cellsAt4 (show W1.heap[wr.heap.size]? = some (.cells #[.string sP, .string sL, .int .u32 ((f k).S : Nat), .int .i64 (f k).Z] 47 (0, 0)) by rw [← hW1]; exact heap_alloc_new _ _)
    clear hzr hY hP hL
    gi_wp2
    refine ⟨trivial, wide_deep, (hp W1).mono ?_⟩
    rintro e W2 ⟨rfl, hb3⟩
    have hK : Kept (fun _ => False) wr W2 := Kept.of_below (below_thru (by rw [← hW1]; exact below_alloc _ _) hb3)
    have hzr2 := RowK.keptO (KeptO.of_kept hK) HZ.out (fun _ _ _ _ _ _ h => h)
    have hc4 := hK.cell hc2 (fun h => h)
    have hsz2 := hK.size
    obtain ⟨fn, tmps, assign, body, hy, hR⟩ := HY.out _ O k wr W2 hJ ⟨hK, rfl, hkl⟩
    have H4 := hide (And.intro hzr2 hc4)
    clear hK hb3 hp n0 n1 n2 n3 hc3 hW1 hzr2 hc4 hc2
    simp only [encP, HP.out] at hy
    gi_wp2
    refine ⟨wide_deep, hR.mono ?_⟩
    rintro e W3 (⟨rfl, ⟨O', hJ3, hk3, hO3⟩, _⟩ | ⟨rfl, hJx3, _⟩)
    ·gi_wp2
     gi_roundg q
     case measure => omega
     case rel =>
      have hs3 := hk3.size
      refine ⟨k + 1, O', by omega, by go_num, RowK.keptO hk3 H4.out.1 (fun g o s e h0 hg hOg => HO.out g (HLT.out g o s e h0) hOg (.inr (.inr ⟨h0, o, s, e⟩))), hk3.cell (fun hOg => HO.out B2 hb2 hOg (.inr (.inl rfl))) H4.out.2, by rw [List.range_succ]; exact hJ3, by omega, fun i hi hOi => ?_, hb2, HLT.out⟩
      rcases (hO3 i hOi).1 with h | h
      ·exact HO.out i hi h
      ·omega
    ·gi_wp2
     refine bodyPost_ret (results_none rfl _ _ _) rfl ?_
     exact ⟨⟨_, rfl⟩, .inr ⟨_, W3, hJx3, rfl, k, hkl, by rw [List.range_succ]⟩⟩
theorem pathsD_seq (n : Nat) (B1 B2 : Nat) (a : Option Addr) (len cap : Nat) (f : Nat → DT) (hlen : len ≤ 140737488355328) (w : World) (hB1 : w.cell? ⟨B1, 0, none⟩ = some (.slice a len cap)) (hB2 : w.cell? ⟨B2, 0, none⟩ = some (.func (.func 34) #[] #[])) (hz : RowK w a 4 len (fun i => cellD (f i))) :
  SeqN Fence.wide n Tryz.prog 68 #[.pointer (some ⟨B1, 0, none⟩), .pointer (some ⟨B2, 0, none⟩)] (encP (fun i => (f i).P)) (GPath len) (ksP B1 B2 a len) (SPath len) (SpPath len) w := fun l J Jx W O0 hW _ hO0 hY h0 =>
 pathsD1_in n l B1 B2 W.heap.size a len cap f hlen J Jx hY W O0 hO0 (cell_thru hB1 hW) (cell_thru hB2 hW) (hz.below hW) h0
end Go.Proofs.YtpmldopbjlnknaaGreat
/-
  The range-function of package doc: the paths of files (written by tools/gen-dfile.py).
-/
namespace Go.Proofs.YtpmldopbjlnknaaGreat
open Go.RowKit Go.Shelf
attribute [local go_sem] Oper.semAt_some
theorem pathFile_in (F : Fence) (n : Nat) (hF : F.fn 53) (hro : F.round = none) (d : Fil) (w : World) :
  CallsIn F n Tryz.prog 53 #[.agg #[by8 d.P, .slice d.pB d.B.length d.cB]] w fun e w' => e = .returned (by8 d.P) ∧ Below w.heap.size w w' := by
 refine callsIn_of_wp Tryz.func53 rfl hF ?_ hro
 simp only [Tryz.ntmps53, List.size_toArray, List.length_cons, List.length_nil, Nat.reduceAdd, Nat.reduceSub, Array.replicate_succ, Array.replicate_zero, List.push_toArray, List.append_toArray, List.nil_append, List.cons_append]
 gi_wp2
 go_ret
 exact ⟨rfl, below_alloc _ _⟩
theorem pathsF_in (F : Fence) (n : Nat) (hF : F.fn 104) (hro : F.round = none) (a : Option Addr) (len cap : Nat) (g : Nat) (w : World) :
  CallsIn F n Tryz.prog 104 #[.slice a len cap, .func (.func g) #[] #[]] w fun e w' => e = .returned (.func (.func 138) #[] #[.pointer (some ⟨w.heap.size, 0, none⟩), .pointer (some ⟨w.heap.size + 1, 0, none⟩)]) ∧ w' = (w.alloc (.cells #[.slice a len cap] 40)).alloc (.cells #[.func (.func g) #[] #[]] 102) := by
 refine callsIn_of_wp Tryz.func104 rfl hF ?_ hro
 simp only [Tryz.ntmps104, List.size_toArray, List.length_cons, List.length_nil, Nat.reduceAdd, Nat.reduceSub, Array.replicate_succ, Array.replicate_zero, List.push_toArray, List.append_toArray, List.nil_append, List.cons_append]
 gi_wp2
 go_ret
 exact ⟨by simp, rfl⟩
theorem pathsF1_in (n l B1 B2 N : Nat) (a : Option Addr) (len cap : Nat) (f : Nat → Fil) (hlen : len ≤ 140737488355328) (J : List Nat × (Nat → Prop) → World → Prop) (Jx : List Nat → World → Prop)
  (hY : ∀ pre O x A B, J (pre, O) A → GPath len N pre A x B → YieldAt Fence.wide (n - 1) Tryz.prog l (encP (fun i => (f i).P) x) B fun e W' =>
   (e = .returned (.bool true) ∧ (∃ O', J (pre ++ [x], O') W' ∧ KeptO O B W' ∧ ∀ k, O' k → (O k ∨ B.heap.size ≤ k) ∧ k < W'.heap.size) ∧ KeepsFrom (l + 1) B W') ∨ (e = .returned (.bool false) ∧ Jx (pre ++ [x]) W' ∧ KeepsFrom (l + 1) B W'))
  (W : World) (O0 : Nat → Prop) (hO0 : ∀ k, O0 k → ¬ ksP B1 B2 a len k ∧ k < W.heap.size) (hB1 : W.cell? ⟨B1, 0, none⟩ = some (.slice a len cap)) (hB2 : W.cell? ⟨B2, 0, none⟩ = some (.func (.func 53) #[] #[])) (hz : RowK W a 2 len (fun i => cellF (f i))) (h0 : J ([], O0) W) :
  CallsIn Fence.wide n Tryz.prog 138 #[.func (.yield l) #[] #[], .pointer (some ⟨B1, 0, none⟩), .pointer (some ⟨B2, 0, none⟩)] W fun e W' => (∃ v, e = .returned v) ∧
   ((∃ xs O A, J (xs, O) A ∧ SPath len N xs A W') ∨ (∃ pre A, Jx pre A ∧ SpPath len N pre A W')) := by
 have hO1 : ∀ k, k < W.heap.size → O0 k → ¬ ksP B1 B2 a len k := fun k _ hk => (hO0 k hk).1
 clear hO0
 refine callsIn_of_wp Tryz.func138 rfl trivial ?_ rfl
 simp only [Tryz.ntmps138, List.size_toArray, List.length_cons, List.length_nil, Nat.reduceAdd, Nat.reduceSub, Array.replicate_succ, Array.replicate_zero, List.push_toArray, List.append_toArray, List.nil_append, List.cons_append]
 gi_wp2
 gi_loopg [8] len (fun q s8 wr => ∃ (k : Nat) (O : Nat → Prop), k + q = len ∧ s8 = .int .i64 k ∧ RowK wr a 2 len (fun i => cellF (f i)) ∧ wr.cell? ⟨B2, 0, none⟩ = some (.func (.func 53) #[] #[]) ∧ J (List.range k, O) wr ∧ W.heap.size ≤ wr.heap.size ∧ (∀ k, k < W.heap.size → O k → ¬ ksP B1 B2 a len k) ∧ B2 < W.heap.size ∧ ∀ g o s, a = some ⟨g, o, s⟩ → 0 < len → g < W.heap.size)
 case atStart =>
  refine ⟨0, O0, by omega, rfl, hz, hB2, h0, Nat.le_refl _, hO1, block_lt_of_cell hB2, fun g o s e hl => ?_⟩
  obtain ⟨b, off, e', h1, _⟩ := hz.at2 hl
  rw [e] at e'
  cases e'
  exact block_lt_of_cell h1
 case round =>
  obtain ⟨k, O, hkq, rfl, hzr, hc2, hJ, hsz, hO, hb2, hlt⟩ := hrel
  have HO := hide hO
  have HLT := hide hlt
  clear hz h0 hO1 hO hlt hB1 hB2
  cases gk with
  | zero =>
    obtain rfl : k = len := by omega
    clear hzr hY
    gi_wp2
    go_end0
    exact ⟨⟨_, rfl⟩, .inl ⟨_, O, wr, hJ, rfl, rfl⟩⟩
  | succ q =>
    have hkl : k < len := by omega
    have hk1 : (k : Int) < (len : Int) := by omega
    obtain ⟨b, off, rfl, q0, q1⟩ := hzr.at2 hkl
    have HZ := hide hzr
    have HY := hide hY
    have hp := pathFile_in Fence.wide (n - 1) trivial rfl (f k)
    obtain ⟨sP, hP⟩ : ∃ s, by8 (f k).P = .string s := ⟨_, rfl⟩
    have HP := hide hP
    rw [hP] at hp
    rw [hP] at q0
    obtain ⟨W1, hW1⟩ : ∃ W1, wr.alloc (.cells #[.string sP, .slice (f k).pB (f k).B.length (f k).cB] 39) = W1 := ⟨_, rfl⟩
    have hc3 : W1.cell? ⟨B2, 0, none⟩ = some (.func (.func 53) #[] #[]) := by rw [← hW1]; exact cell_alloc_l _ hc2
    obtain ⟨n0, n1⟩ := cellsAt2 (show W1.heap[wr.heap.size]? = some (.cells #[.string sP, .slice (f k).pB (f k).B.length (f k).cB] 39 (0, 0)) by rw [← hW1]; exact heap_alloc_new _ _)
    clear hzr hY hP
    gi_wp2
    refine ⟨trivial, wide_deep, (hp W1).mono ?_⟩
    rintro e W2 ⟨rfl, hb3⟩
    have hK : Kept (fun _ => False) wr W2 := Kept.of_below (below_thru (by rw [← hW1]; exact below_alloc _ _) hb3)
    have hzr2 := RowK.keptO (KeptO.of_kept hK) HZ.out (fun _ _ _ _ _ _ h => h)
    have hc4 := hK.cell hc2 (fun h => h)
    have hsz2 := hK.size
    obtain ⟨fn, tmps, assign, body, hy, hR⟩ := HY.out _ O k wr W2 hJ ⟨hK, rfl, hkl⟩
    have H4 := hide (And.intro hzr2 hc4)
    clear hK hb3 hp n0 n1 hc3 hW1 hzr2 hc4 hc2
    simp only [encP, HP.out] at hy
    gi_wp2
    refine ⟨wide_deep, hR.mono ?_⟩
    rintro e W3 (⟨rfl, ⟨O', hJ3, hk3, hO3⟩, _⟩ | ⟨rfl, hJx3, _⟩)
    ·gi_wp2
     gi_roundg q
     case measure => omega
     case rel =>
      have hs3 := hk3.size
      refine ⟨k + 1, O', by omega, by go_num, RowK.keptO hk3 H4.out.1 (fun g o s e h0 hg hOg => HO.out g (HLT.out g o s e h0) hOg (.inr (.inr ⟨h0, o, s, e⟩))), hk3.cell (fun hOg => HO.out B2 hb2 hOg (.inr (.inl rfl))) H4.out.2, by rw [List.range_succ]; exact hJ3, by omega, fun i hi hOi => ?_, hb2, HLT.out⟩
      rcases (hO3 i hOi).1 with h | h
      ·exact HO.out i hi h
      ·omega
    ·gi_wp2
     refine bodyPost_ret (results_none rfl _ _ _) rfl ?_
     exact ⟨⟨_, rfl⟩, .inr ⟨_, W3, hJx3, rfl, k, hkl, by rw [List.range_succ]⟩⟩
theorem pathsF_seq (n : Nat) (B1 B2 : Nat) (a : Option Addr) (len cap : Nat) (f : Nat → Fil) (hlen : len ≤ 140737488355328) (w : World) (hB1 : w.cell? ⟨B1, 0, none⟩ = some (.slice a len cap)) (hB2 : w.cell? ⟨B2, 0, none⟩ = some (.func (.func 53) #[] #[])) (hz : RowK w a 2 len (fun i => cellF (f i))) :
  SeqN Fence.wide n Tryz.prog 138 #[.pointer (some ⟨B1, 0, none⟩), .pointer (some ⟨B2, 0, none⟩)] (encP (fun i => (f i).P)) (GPath len) (ksP B1 B2 a len) (SPath len) (SpPath len) w := fun l J Jx W O0 hW _ hO0 hY h0 =>
 pathsF1_in n l B1 B2 W.heap.size a len cap f hlen J Jx hY W O0 hO0 (cell_thru hB1 hW) (cell_thru hB2 hW) (hz.below hW) h0
end Go.Proofs.YtpmldopbjlnknaaGreat
/-
  package doc's rightPaths, at documents.
-/
namespace Go.Proofs.YtpmldopbjlnknaaGreat
open Go.RowKit Go.Shelf
attribute [local go_sem] Oper.semAt_some
def pathsN (P : Nat → List UInt8) (n : Nat) : List (List UInt8) := (List.range n).map P
theorem pathsN_succ (P : Nat → List UInt8) (n : Nat) : pathsN P (n + 1) = pathsN P n ++ [P n] := by simp [pathsN, List.range_succ]
theorem pathsN_split (P : Nat → List UInt8) {x n : Nat} (h : x < n) : ∃ r, pathsN P n = pathsN P x ++ P x :: r := by
 obtain ⟨m, rfl⟩ : ∃ m, n = x + (m + 1) := ⟨n - x - 1, by omega⟩
 refine ⟨(List.range' (x + 1) m).map P, ?_⟩
 unfold pathsN
 rw [List.range_eq_range', List.range_eq_range', show x + (m + 1) = x + (1 + m) by omega, ← List.range'_append_1, List.map_append, Nat.zero_add, ← List.range'_append_1 (s := x) (m := 1)]
 simp
def RpI (w0 : World) (B1 B2 : Nat) (P : Nat → List UInt8) (b : Bool) (s : List Nat × (Nat → Prop)) (X : World) : Prop :=
 Boxed X B1 4 (.bool b) ∧ Boxed X B2 9 (by8 (lastOf [] (s.1.map P))) ∧ (∀ k, s.2 k ↔ k = B1 ∨ k = B2) ∧ riseP [] (s.1.map P) = true ∧ Below w0.heap.size w0 X
theorem RpI.own {w0 : World} {B1 B2 : Nat} {P : Nat → List UInt8} {b : Bool} {N : Nat} (hN : w0.heap.size ≤ N) : OwnFrom N (RpI w0 B1 B2 P b) := fun _ X _ _ ⟨h1, h2, h3, h4, h5⟩ hg hr => by
 have hs := (Still.refl N X).grown hg hr
 exact ⟨Boxed.still h1 hs, Boxed.still h2 hs, h3, h4, h5.trans (hs.below hN h5.size)⟩
def RpE (w0 : World) (B1 : Nat) (r : Bool) (X : World) : Prop := Boxed X B1 4 (.bool r) ∧ Below w0.heap.size w0 X
theorem RpE.own {w0 : World} {B1 : Nat} {r : Bool} {N : Nat} {β : Type} (hN : w0.heap.size ≤ N) : OwnFrom N (fun (_ : β) X => RpE w0 B1 r X) := fun _ X _ _ ⟨h1, h5⟩ hg hr => by
 have hs := (Still.refl N X).grown hg hr
 exact ⟨Boxed.still h1 hs, h5.trans (hs.below hN h5.size)⟩
theorem Boxed.beside {W : World} {B k i : Nat} {t : TypeId} {v : Value} (h : Boxed W B t v) (hne : B ≠ k) (u : Value) : Boxed (W.setCell ⟨k, i, none⟩ u) B t v := (Below.heap_setCell _ _ _ _ (show B ≠ (⟨k, i, none⟩ : Addr).block from hne)).trans h
theorem below_keptF {B : Nat} {a A C : World} (h : Below B a A) (hk : Kept (fun _ => False) A C) (hB : B ≤ A.heap.size) : Below B a C := h.trans (hk.below (fun _ h => h.elim) hB)
theorem rightPathsD_in (n : Nat) (hn : 40 ≤ n) (a : Option Addr) (len cap : Nat) (f : Nat → DT) (w : World) (hlen : len ≤ 140737488355328) (hrow : RowK w a 4 len (fun i => cellD (f i))) (hP : ∀ i, i < len → (f i).P.length ≤ 1000000) :
  CallsIn Fence.wide n Tryz.prog 33 #[.slice a len cap, .func (.func 34) #[] #[]] w fun e w' => e = .returned (.bool (decide (len ≤ 4000) && riseP [] (pathsN (fun i => (f i).P) len))) ∧ Below w.heap.size w w' := by
 obtain ⟨W1, hW1⟩ : ∃ W1, w.alloc (.cells #[.bool (decide ((len : Int) ≤ 4000))] 4) = W1 := ⟨_, rfl⟩
 obtain ⟨W2, hW2⟩ : ∃ W2, W1.alloc (.cells #[.string ⟨#[]⟩] 9) = W2 := ⟨_, rfl⟩
 obtain ⟨W3, hW3⟩ : ∃ W3, (W2.alloc (.cells #[.slice a len cap] 22)).alloc (.cells #[.func (.func 34) #[] #[]] 65) = W3 := ⟨_, rfl⟩
 have hs1 : W1.heap.size = w.heap.size + 1 := by rw [← hW1]; simp
 have hs2 : W2.heap.size = w.heap.size + 2 := by rw [← hW2]; simp; omega
 have hs3 : W3.heap.size = w.heap.size + 4 := by rw [← hW3]; simp; omega
 have hB1 : Below w.heap.size w W1 := by rw [← hW1]; exact below_alloc _ _
 have hB2 : Below w.heap.size w W2 := below_thru hB1 (by rw [← hW2]; exact below_alloc _ _)
 have hB23 : Below W2.heap.size W2 W3 := by rw [← hW3]; exact below_step (below_alloc _ _) _
 have hB3 : Below w.heap.size w W3 := below_thru hB2 hB23
 have hok2 : Boxed W2 w.heap.size 4 (.bool (decide (len ≤ 4000))) := by
  have : decide ((len : Int) ≤ 4000) = decide (len ≤ 4000) := by rw [decide_eq_decide]; omega
  rw [← hW2, ← hW1, this]; exact (Boxed.new w _ _).alloc _
 have hah2 : Boxed W2 (w.heap.size + 1) 9 (by8 []) := by rw [← hW2, ← hs1]; exact Boxed.new W1 _ _
 have hok3 : Boxed W3 w.heap.size 4 (.bool (decide (len ≤ 4000))) := by rw [← hW3]; exact (hok2.alloc _).alloc _
 have hah3 : Boxed W3 (w.heap.size + 1) 9 (by8 []) := by rw [← hW3]; exact (hah2.alloc _).alloc _
 have hb1 : W3.cell? ⟨w.heap.size + 2, 0, none⟩ = some (.slice a len cap) := by rw [← hW3, ← hs2]; exact cell_alloc_l _ (cell_new_l W2 _ _).1
 have hb2 : W3.cell? ⟨w.heap.size + 3, 0, none⟩ = some (.func (.func 34) #[] #[]) := by
  rw [← hW3, show w.heap.size + 3 = (W2.alloc (.cells #[.slice a len cap] 22)).heap.size by simp; omega]
  exact (cell_new_l _ _ _).1
 have hseq := pathsD_seq (n - 1) (w.heap.size + 2) (w.heap.size + 3) a len cap f hlen W3 hb1 hb2 (hrow.below hB3)
 have hI0 : RpI w w.heap.size (w.heap.size + 1) (fun i => (f i).P) (decide (len ≤ 4000)) ([], fun k => k = w.heap.size ∨ k = w.heap.size + 1) W3 := ⟨hok3, hah3, fun k => Iff.rfl, rfl, hB3⟩
 have hal : 0 < len → ∀ k, (∃ o s, a = some ⟨k, o, s⟩) → k < w.heap.size := fun h0 k ⟨o, s, e⟩ => by
  obtain ⟨b, off, e', h1, _⟩ := hrow.at4 h0
  rw [e] at e'
  cases e'
  exact block_lt_of_cell h1
 have hks : ∀ k, k = w.heap.size ∨ k = w.heap.size + 1 → ¬ ksP (w.heap.size + 2) (w.heap.size + 3) a len k ∧ k < W3.heap.size := fun k hk => by
  refine ⟨?_, by omega⟩
  rintro (h | h | ⟨h0, h⟩)
  ·omega
  ·omega
  ·have := hal h0 k h; omega
 have HS := hide (And.intro hs2 hs3)
 have HW := hide (And.intro hW1 (And.intro hW2 hW3))
 clear hb1 hb2 hs1 hs2 hs3 hok2 hah2 hok3 hah3 hW1 hW2 hW3
 refine callsIn_of_wp_marks Tryz.func33 rfl trivial ?_ rfl
 simp only [Tryz.ntmps33, List.size_toArray, List.length_cons, List.length_nil, Nat.reduceAdd, Nat.reduceSub, Array.replicate_succ, Array.replicate_zero, List.push_toArray, List.append_toArray, List.nil_append, List.cons_append]
 gi_wp2
 apply wpIn_scope
 gi_wp2
 apply wpIn_label
 gi_wp2
 rw [HW.out.1, HW.out.2.1]
 refine ⟨trivial, wide_deep, (pathsD_in Fence.wide (n - 1) trivial rfl a len cap 34 W2).mono ?_⟩
 rintro e w4 ⟨rfl, rfl⟩
 rw [HW.out.2.2, HS.out.1]
 gi_wp2
 refine wpIn_rangeFunc_N rfl (by omega) (gf := 68) (lb := #[.pointer (some ⟨w.heap.size + 2, 0, none⟩), .pointer (some ⟨w.heap.size + 3, 0, none⟩)]) rfl trivial (enters_of Tryz.func68 (by kernel_rfl) rfl)
  hseq (fun _ _ _ _ h => ⟨h.1.size, fun k o hk ho hc => h.1.others k o ho hc⟩) (fun _ _ _ h => by rw [h.1]; exact KeepsTo.refl _ _) (fun _ _ _ h => by rw [h.1]; exact KeepsTo.refl _ _) (Below.refl _ _) (fun _ => rfl)
  (RpI w w.heap.size (w.heap.size + 1) (fun i => (f i).P) (decide (len ≤ 4000))) (fun c pre X => c = .exit 0 ∧ Boxed X w.heap.size 4 (.bool false) ∧ riseP [] (pathsN (fun i => (f i).P) len) = false ∧ Below w.heap.size w X)
  (fun s x X => RpI w w.heap.size (w.heap.size + 1) (fun i => (f i).P) (decide (len ≤ 4000)) s X ∧ s.1 = List.range x ∧ x < len)
  (fun _ X => RpE w w.heap.size (decide (len ≤ 4000) && riseP [] (pathsN (fun i => (f i).P) len)) X) (fun c _ X => c = .exit 0 ∧ RpE w w.heap.size (decide (len ≤ 4000) && riseP [] (pathsN (fun i => (f i).P) len)) X)
  (RpI.own hB3.size) ?ix (RpE.own hB3.size) ?ex ?mid ?eend ?xend (fun k => k = w.heap.size ∨ k = w.heap.size + 1) hks hI0
  (fun s x a' X => a' = { tmps := #[.slice a len cap, .func (.func 34) #[] #[], undef, undef, .bool false, .pointer (some ⟨w.heap.size, 0, none⟩), .pointer (some ⟨w.heap.size + 1, 0, none⟩), undef, by8 (f x).P, .slice a len cap, .int .i64 (len : Nat), .bool (decide ((len : Int) ≤ 4000)), .slice a len cap, .func (.func 34) #[] #[], .func (.func 68) #[] #[.pointer (some ⟨w.heap.size + 2, 0, none⟩), .pointer (some ⟨w.heap.size + 3, 0, none⟩)], .int .i64 (x : Nat), by8 (f x).P, undef, undef, undef, undef, undef, undef, undef, undef, undef], defers := [] } ∧
   RpI w w.heap.size (w.heap.size + 1) (fun i => (f i).P) (decide (len ≤ 4000)) s X ∧ s.1 = List.range x ∧ x < len) ?m2 ?assign ?body ?done ?stop
 case ix =>
  rintro c pre X Y row ⟨h0, h2, h3, h5⟩ hg hr
  have hs := (Still.refl W3.heap.size X).grown hg hr
  exact ⟨h0, Boxed.still h2 hs, h3, h5.trans (hs.below hB3.size h5.size)⟩
 case ex =>
  rintro c pre X Y row ⟨h0, h1⟩ hg hr
  exact ⟨h0, RpE.own (β := List Nat) hB3.size pre X Y row h1 hg hr⟩
 case mid =>
  rintro pre O x A B ⟨h1, h2, h3, h4, h5⟩ ⟨hk, hpre, hx⟩
  exact ⟨⟨hk.heap h1 (fun h => h), hk.heap h2 (fun h => h), h3, h4, below_keptF h5 hk h5.size⟩, hpre, hx⟩
 case eend =>
  rintro xs O A B ⟨h1, h2, h3, h4, h5⟩ ⟨rfl, rfl⟩
  have e : riseP [] (pathsN (fun i => (f i).P) len) = true := h4
  exact ⟨by rw [e, Bool.and_true]; exact h1, h5⟩
 case xend =>
  rintro c pre A B ⟨h0, h1, h2, h5⟩ ⟨rfl, _⟩
  exact ⟨h0, by rw [h2, Bool.and_false]; exact h1, h5⟩
 case m2 =>
  rintro x a' s X Y row ⟨h1, h2, h3⟩ hg hr
  exact ⟨h1, RpI.own hB3.size s X Y row h2 hg hr, h3⟩
 case assign =>
  intro l' pre O x X K hM hK
  have HK := hide (hK _ X ((KeepsFrom.refl _ _)) (KeptO.refl _ _) ⟨rfl, hM⟩)
  clear hK hseq hM hI0 hks
  simp only [encP]
  gi_wp2
  exact HK.out
 case body =>
  rintro l' pre O x a' X ⟨rfl, ⟨hA, hA2, hO, hri, hB⟩, hpre, hx⟩
  simp only at hO hri hpre hA2
  subst hpre
  have hA2 : Boxed X (w.heap.size + 1) 9 (by8 (lastOf [] (pathsN (fun i => (f i).P) x))) := hA2
  have c0 := hA.cell
  have f0 := hA.frozen
  have c1 := hA2.cell
  have f1 := hA2.frozen
  have HA := hide hA
  have HA2 := hide hA2
  have HO := hide hO
  have HB := hide hB
  have hsn : pathsN (fun i => (f i).P) (x + 1) = pathsN (fun i => (f i).P) x ++ [(f x).P] := pathsN_succ _ x
  have hrs := riseP_snoc (f x).P [] (pathsN (fun i => (f i).P) x)
  rw [show riseP [] (pathsN (fun i => (f i).P) x) = true from hri, Bool.true_and] at hrs
  have hPx := hP x hx
  have hls : lastOf [] (pathsN (fun i => (f i).P) x ++ [(f x).P]) = (f x).P := lastOf_snoc _ _ _
  obtain ⟨r, hr⟩ := pathsN_split (fun i => (f i).P) hx
  have hbad : (ltP (lastOf [] (pathsN (fun i => (f i).P) x)) (f x).P && rightP (f x).P) = false → riseP [] (pathsN (fun i => (f i).P) len) = false := fun h => by rw [hr]; exact riseP_bad h
  have hbd : ∀ X', KeepsFrom W3.heap.size X X' → Below w.heap.size w X' → Boxed X' w.heap.size 4 (.bool (decide (len ≤ 4000))) → (ltP (lastOf [] (pathsN (fun i => (f i).P) x)) (f x).P && rightP (f x).P) = false → ownPostO W3.heap.size (RpI w w.heap.size (w.heap.size + 1) (fun i => (f i).P) (decide (len ≤ 4000))) (fun c pre X => c = .exit 0 ∧ Boxed X w.heap.size 4 (.bool false) ∧ riseP [] (pathsN (fun i => (f i).P) len) = false ∧ Below w.heap.size w X) (List.range x ++ [x]) O X (.exit 0) (⟨#[], []⟩ : Act) (X'.setCell ⟨w.heap.size, 0, none⟩ (.bool false)) := by
   intro X' hk hb hbox hx
   exact ⟨hk.trans ((KeepsOthers.setCell _ _ _).from _), rfl, hbox.set (.bool false), hbad hx, hb.setCell (p := ⟨w.heap.size, 0, none⟩) (Nat.le_refl _) _⟩
  have hle := leq_raw (f x).P (lastOf [] (pathsN (fun i => (f i).P) x))
  generalize hlA : lastOf [] (pathsN (fun i => (f i).P) x) = A0 at *
  have HBD := hide hbd
  have HB2 := hide hbad
  have HR := hide (And.intro hrs (And.intro hsn hls))
  clear hA hA2 hO hB hseq hI0 hks hB1 hB2 hB23 hbd hbad hrs hsn hls hr hrow hri
  cases hlt : ltP A0 (f x).P with
  | false =>
    rw [hlt] at hle
    have H1 := hide hlt
    clear hlt
    unfold by8 at c1 ⊢
    gi_wp2
    exact HBD.out X (KeepsFrom.refl _ _) HB.out HA.out (by rw [H1.out]; rfl)
  | true =>
    rw [hlt] at hle
    have H1 := hide hlt
    clear hlt
    unfold by8 at c1 ⊢
    gi_wp2
    refine ⟨trivial, wide_deep, ((wide_round l').call (right_any (f x).P X hPx)).mono ?_⟩
    rintro e X2 ⟨rfl, hb2⟩
    have hA' := hide (show Boxed X2 w.heap.size 4 (.bool (decide (len ≤ 4000))) from (hb2.block _ (block_lt HA.out)).trans HA.out)
    have hA2' := hide (show Boxed X2 (w.heap.size + 1) 9 (by8 A0) from (hb2.block _ (block_lt HA2.out)).trans HA2.out)
    have hKF : Hid (KeepsFrom W3.heap.size X X2) := ⟨hb2.size, fun k o _ ho _ => (hb2.block k (Array.getElem?_eq_some_iff.1 ho).1).trans ho⟩
    have hBX := hide (HB.out.trans (hb2.mono HB.out.size))
    have hsz := hb2.size
    have hKO := hide (KeptO.of_kept (F := fun _ => False) (Kept.of_below hb2))
    clear c0 f0 c1 f1 hb2
    have c0 := hA'.out.cell
    have f0 := hA'.out.frozen
    have c1 := hA2'.out.cell
    have f1 := hA2'.out.frozen
    cases hrt : rightP (f x).P with
    | false =>
      have H2 := hide hrt
      clear hrt
      gi_wp2
      exact HBD.out X2 hKF.out hBX.out hA'.out (by rw [H1.out, H2.out]; rfl)
    | true =>
      have H2 := hide hrt
      clear hrt
      gi_wp2
      refine ⟨hKF.out.trans ((KeepsOthers.setCell _ _ _).from _), O, ⟨?_, ?_, HO.out, ?_, hBX.out.setCell (p := ⟨w.heap.size + 1, 0, none⟩) (by show w.heap.size ≤ w.heap.size + 1; omega) _⟩, ?_, fun k hk => ⟨.inl hk, ?_⟩⟩
      ·exact Boxed.beside hA'.out (by omega) _
      ·have e2 : lastOf [] ((List.range x ++ [x]).map fun i => (f i).P) = (f x).P := by rw [List.map_append]; exact lastOf_snoc _ _ _
       rw [e2]
       exact hA2'.out.set (by8 (f x).P)
      ·show riseP [] ((List.range x ++ [x]).map fun i => (f i).P) = true
       rw [List.map_append]
       refine HR.out.1.trans ?_
       rw [H1.out, H2.out]
       rfl
      ·exact (hKO.out.mono (fun _ h => h.elim)).trans (KeptO.of_kept ((Kept.refl O X2).setCell (p := ⟨w.heap.size + 1, 0, none⟩) (.inl ((HO.out _).2 (.inr rfl))) _))
      ·have := (HO.out k).1 hk
       have := block_lt hA2'.out
       simp
       omega
 case done =>
  rintro D xs X hD ⟨h1, h3⟩ hKD
  have c0 := h1.cell
  have H3 := hide h3
  clear h1 h3 hseq hI0 hks
  gi_wp2
  rw [Exit.noGoto_ret]
  refine ⟨by simp, .inl ⟨D, _, rfl, run_takeDeferred hKD, ?_⟩⟩
  exact ⟨_, results_tmp rfl _ _ _, rfl, H3.out.trans (belowK_b (w := w) (Nat.le_refl _) X D _ _ (by have := hB3.size; omega) hKD rfl rfl)⟩
 case stop =>
  rintro D c pre X hD ⟨rfl, h1, h3⟩ hKD
  have c0 := h1.cell
  have H3 := hide h3
  clear h1 h3 hseq hI0 hks
  gi_wp2
  rw [Exit.noGoto_ret]
  refine ⟨by simp, .inl ⟨D, _, rfl, run_takeDeferred hKD, ?_⟩⟩
  exact ⟨_, results_tmp rfl _ _ _, rfl, H3.out.trans (belowK_b (w := w) (Nat.le_refl _) X D _ _ (by have := hB3.size; omega) hKD rfl rfl)⟩
end Go.Proofs.YtpmldopbjlnknaaGreat
/-
  package doc's rightPaths, at files (written by tools/gen-drise.py).
-/
namespace Go.Proofs.YtpmldopbjlnknaaGreat
open Go.RowKit Go.Shelf
attribute [local go_sem] Oper.semAt_some
theorem rightPathsF_in (n : Nat) (hn : 40 ≤ n) (a : Option Addr) (len cap : Nat) (f : Nat → Fil) (w : World) (hlen : len ≤ 140737488355328) (hrow : RowK w a 2 len (fun i => cellF (f i))) (hP : ∀ i, i < len → (f i).P.length ≤ 1000000) :
  CallsIn Fence.wide n Tryz.prog 52 #[.slice a len cap, .func (.func 53) #[] #[]] w fun e w' => e = .returned (.bool (decide (len ≤ 4000) && riseP [] (pathsN (fun i => (f i).P) len))) ∧ Below w.heap.size w w' := by
 obtain ⟨W1, hW1⟩ : ∃ W1, w.alloc (.cells #[.bool (decide ((len : Int) ≤ 4000))] 4) = W1 := ⟨_, rfl⟩
 obtain ⟨W2, hW2⟩ : ∃ W2, W1.alloc (.cells #[.string ⟨#[]⟩] 9) = W2 := ⟨_, rfl⟩
 obtain ⟨W3, hW3⟩ : ∃ W3, (W2.alloc (.cells #[.slice a len cap] 40)).alloc (.cells #[.func (.func 53) #[] #[]] 102) = W3 := ⟨_, rfl⟩
 have hs1 : W1.heap.size = w.heap.size + 1 := by rw [← hW1]; simp
 have hs2 : W2.heap.size = w.heap.size + 2 := by rw [← hW2]; simp; omega
 have hs3 : W3.heap.size = w.heap.size + 4 := by rw [← hW3]; simp; omega
 have hB1 : Below w.heap.size w W1 := by rw [← hW1]; exact below_alloc _ _
 have hB2 : Below w.heap.size w W2 := below_thru hB1 (by rw [← hW2]; exact below_alloc _ _)
 have hB23 : Below W2.heap.size W2 W3 := by rw [← hW3]; exact below_step (below_alloc _ _) _
 have hB3 : Below w.heap.size w W3 := below_thru hB2 hB23
 have hok2 : Boxed W2 w.heap.size 4 (.bool (decide (len ≤ 4000))) := by
  have : decide ((len : Int) ≤ 4000) = decide (len ≤ 4000) := by rw [decide_eq_decide]; omega
  rw [← hW2, ← hW1, this]; exact (Boxed.new w _ _).alloc _
 have hah2 : Boxed W2 (w.heap.size + 1) 9 (by8 []) := by rw [← hW2, ← hs1]; exact Boxed.new W1 _ _
 have hok3 : Boxed W3 w.heap.size 4 (.bool (decide (len ≤ 4000))) := by rw [← hW3]; exact (hok2.alloc _).alloc _
 have hah3 : Boxed W3 (w.heap.size + 1) 9 (by8 []) := by rw [← hW3]; exact (hah2.alloc _).alloc _
 have hb1 : W3.cell? ⟨w.heap.size + 2, 0, none⟩ = some (.slice a len cap) := by rw [← hW3, ← hs2]; exact cell_alloc_l _ (cell_new_l W2 _ _).1
 have hb2 : W3.cell? ⟨w.heap.size + 3, 0, none⟩ = some (.func (.func 53) #[] #[]) := by
  rw [← hW3, show w.heap.size + 3 = (W2.alloc (.cells #[.slice a len cap] 40)).heap.size by simp; omega]
  exact (cell_new_l _ _ _).1
 have hseq := pathsF_seq (n - 1) (w.heap.size + 2) (w.heap.size + 3) a len cap f hlen W3 hb1 hb2 (hrow.below hB3)
 have hI0 : RpI w w.heap.size (w.heap.size + 1) (fun i => (f i).P) (decide (len ≤ 4000)) ([], fun k => k = w.heap.size ∨ k = w.heap.size + 1) W3 := ⟨hok3, hah3, fun k => Iff.rfl, rfl, hB3⟩
 have hal : 0 < len → ∀ k, (∃ o s, a = some ⟨k, o, s⟩) → k < w.heap.size := fun h0 k ⟨o, s, e⟩ => by
  obtain ⟨b, off, e', h1, _⟩ := hrow.at2 h0
  rw [e] at e'
  cases e'
  exact block_lt_of_cell h1
 have hks : ∀ k, k = w.heap.size ∨ k = w.heap.size + 1 → ¬ ksP (w.heap.size + 2) (w.heap.size + 3) a len k ∧ k < W3.heap.size := fun k hk => by
  refine ⟨?_, by omega⟩
  rintro (h | h | ⟨h0, h⟩)
  ·omega
  ·omega
  ·have := hal h0 k h; omega
 have HS := hide (And.intro hs2 hs3)
 have HW := hide (And.intro hW1 (And.intro hW2 hW3))
 clear hb1 hb2 hs1 hs2 hs3 hok2 hah2 hok3 hah3 hW1 hW2 hW3
 refine callsIn_of_wp_marks Tryz.func52 rfl trivial ?_ rfl
 simp only [Tryz.ntmps52, List.size_toArray, List.length_cons, List.length_nil, Nat.reduceAdd, Nat.reduceSub, Array.replicate_succ, Array.replicate_zero, List.push_toArray, List.append_toArray, List.nil_append, List.cons_append]
 gi_wp2
 apply wpIn_scope
 gi_wp2
 apply wpIn_label
 gi_wp2
 rw [HW.out.1, HW.out.2.1]
 refine ⟨trivial, wide_deep, (pathsF_in Fence.wide (n - 1) trivial rfl a len cap 53 W2).mono ?_⟩
 rintro e w4 ⟨rfl, rfl⟩
 rw [HW.out.2.2, HS.out.1]
 gi_wp2
 refine wpIn_rangeFunc_N rfl (by omega) (gf := 138) (lb := #[.pointer (some ⟨w.heap.size + 2, 0, none⟩), .pointer (some ⟨w.heap.size + 3, 0, none⟩)]) rfl trivial (enters_of Tryz.func138 (by kernel_rfl) rfl)
  hseq (fun _ _ _ _ h => ⟨h.1.size, fun k o hk ho hc => h.1.others k o ho hc⟩) (fun _ _ _ h => by rw [h.1]; exact KeepsTo.refl _ _) (fun _ _ _ h => by rw [h.1]; exact KeepsTo.refl _ _) (Below.refl _ _) (fun _ => rfl)
  (RpI w w.heap.size (w.heap.size + 1) (fun i => (f i).P) (decide (len ≤ 4000))) (fun c pre X => c = .exit 0 ∧ Boxed X w.heap.size 4 (.bool false) ∧ riseP [] (pathsN (fun i => (f i).P) len) = false ∧ Below w.heap.size w X)
  (fun s x X => RpI w w.heap.size (w.heap.size + 1) (fun i => (f i).P) (decide (len ≤ 4000)) s X ∧ s.1 = List.range x ∧ x < len)
  (fun _ X => RpE w w.heap.size (decide (len ≤ 4000) && riseP [] (pathsN (fun i => (f i).P) len)) X) (fun c _ X => c = .exit 0 ∧ RpE w w.heap.size (decide (len ≤ 4000) && riseP [] (pathsN (fun i => (f i).P) len)) X)
  (RpI.own hB3.size) ?ix (RpE.own hB3.size) ?ex ?mid ?eend ?xend (fun k => k = w.heap.size ∨ k = w.heap.size + 1) hks hI0
  (fun s x a' X => a' = { tmps := #[.slice a len cap, .func (.func 53) #[] #[], undef, undef, .bool false, .pointer (some ⟨w.heap.size, 0, none⟩), .pointer (some ⟨w.heap.size + 1, 0, none⟩), undef, by8 (f x).P, .slice a len cap, .int .i64 (len : Nat), .bool (decide ((len : Int) ≤ 4000)), .slice a len cap, .func (.func 53) #[] #[], .func (.func 138) #[] #[.pointer (some ⟨w.heap.size + 2, 0, none⟩), .pointer (some ⟨w.heap.size + 3, 0, none⟩)], .int .i64 (x : Nat), by8 (f x).P, undef, undef, undef, undef, undef, undef, undef, undef, undef], defers := [] } ∧
   RpI w w.heap.size (w.heap.size + 1) (fun i => (f i).P) (decide (len ≤ 4000)) s X ∧ s.1 = List.range x ∧ x < len) ?m2 ?assign ?body ?done ?stop
 case ix =>
  rintro c pre X Y row ⟨h0, h2, h3, h5⟩ hg hr
  have hs := (Still.refl W3.heap.size X).grown hg hr
  exact ⟨h0, Boxed.still h2 hs, h3, h5.trans (hs.below hB3.size h5.size)⟩
 case ex =>
  rintro c pre X Y row ⟨h0, h1⟩ hg hr
  exact ⟨h0, RpE.own (β := List Nat) hB3.size pre X Y row h1 hg hr⟩
 case mid =>
  rintro pre O x A B ⟨h1, h2, h3, h4, h5⟩ ⟨hk, hpre, hx⟩
  exact ⟨⟨hk.heap h1 (fun h => h), hk.heap h2 (fun h => h), h3, h4, below_keptF h5 hk h5.size⟩, hpre, hx⟩
 case eend =>
  rintro xs O A B ⟨h1, h2, h3, h4, h5⟩ ⟨rfl, rfl⟩
  have e : riseP [] (pathsN (fun i => (f i).P) len) = true := h4
  exact ⟨by rw [e, Bool.and_true]; exact h1, h5⟩
 case xend =>
  rintro c pre A B ⟨h0, h1, h2, h5⟩ ⟨rfl, _⟩
  exact ⟨h0, by rw [h2, Bool.and_false]; exact h1, h5⟩
 case m2 =>
  rintro x a' s X Y row ⟨h1, h2, h3⟩ hg hr
  exact ⟨h1, RpI.own hB3.size s X Y row h2 hg hr, h3⟩
 case assign =>
  intro l' pre O x X K hM hK
  have HK := hide (hK _ X ((KeepsFrom.refl _ _)) (KeptO.refl _ _) ⟨rfl, hM⟩)
  clear hK hseq hM hI0 hks
  simp only [encP]
  gi_wp2
  exact HK.out
 case body =>
  rintro l' pre O x a' X ⟨rfl, ⟨hA, hA2, hO, hri, hB⟩, hpre, hx⟩
  simp only at hO hri hpre hA2
  subst hpre
  have hA2 : Boxed X (w.heap.size + 1) 9 (by8 (lastOf [] (pathsN (fun i => (f i).P) x))) := hA2
  have c0 := hA.cell
  have f0 := hA.frozen
  have c1 := hA2.cell
  have f1 := hA2.frozen
  have HA := hide hA
  have HA2 := hide hA2
  have HO := hide hO
  have HB := hide hB
  have hsn : pathsN (fun i => (f i).P) (x + 1) = pathsN (fun i => (f i).P) x ++ [(f x).P] := pathsN_succ _ x
  have hrs := riseP_snoc (f x).P [] (pathsN (fun i => (f i).P) x)
  rw [show riseP [] (pathsN (fun i => (f i).P) x) = true from hri, Bool.true_and] at hrs
  have hPx := hP x hx
  have hls : lastOf [] (pathsN (fun i => (f i).P) x ++ [(f x).P]) = (f x).P := lastOf_snoc _ _ _
  obtain ⟨r, hr⟩ := pathsN_split (fun i => (f i).P) hx
  have hbad : (ltP (lastOf [] (pathsN (fun i => (f i).P) x)) (f x).P && rightP (f x).P) = false → riseP [] (pathsN (fun i => (f i).P) len) = false := fun h => by rw [hr]; exact riseP_bad h
  have hbd : ∀ X', KeepsFrom W3.heap.size X X' → Below w.heap.size w X' → Boxed X' w.heap.size 4 (.bool (decide (len ≤ 4000))) → (ltP (lastOf [] (pathsN (fun i => (f i).P) x)) (f x).P && rightP (f x).P) = false → ownPostO W3.heap.size (RpI w w.heap.size (w.heap.size + 1) (fun i => (f i).P) (decide (len ≤ 4000))) (fun c pre X => c = .exit 0 ∧ Boxed X w.heap.size 4 (.bool false) ∧ riseP [] (pathsN (fun i => (f i).P) len) = false ∧ Below w.heap.size w X) (List.range x ++ [x]) O X (.exit 0) (⟨#[], []⟩ : Act) (X'.setCell ⟨w.heap.size, 0, none⟩ (.bool false)) := by
   intro X' hk hb hbox hx
   exact ⟨hk.trans ((KeepsOthers.setCell _ _ _).from _), rfl, hbox.set (.bool false), hbad hx, hb.setCell (p := ⟨w.heap.size, 0, none⟩) (Nat.le_refl _) _⟩
  have hle := leq_raw (f x).P (lastOf [] (pathsN (fun i => (f i).P) x))
  generalize hlA : lastOf [] (pathsN (fun i => (f i).P) x) = A0 at *
  have HBD := hide hbd
  have HB2 := hide hbad
  have HR := hide (And.intro hrs (And.intro hsn hls))
  clear hA hA2 hO hB hseq hI0 hks hB1 hB2 hB23 hbd hbad hrs hsn hls hr hrow hri
  cases hlt : ltP A0 (f x).P with
  | false =>
    rw [hlt] at hle
    have H1 := hide hlt
    clear hlt
    unfold by8 at c1 ⊢
    gi_wp2
    exact HBD.out X (KeepsFrom.refl _ _) HB.out HA.out (by rw [H1.out]; rfl)
  | true =>
    rw [hlt] at hle
    have H1 := hide hlt
    clear hlt
    unfold by8 at c1 ⊢
    gi_wp2
    refine ⟨trivial, wide_deep, ((wide_round l').call (right_any (f x).P X hPx)).mono ?_⟩
    rintro e X2 ⟨rfl, hb2⟩
    have hA' := hide (show Boxed X2 w.heap.size 4 (.bool (decide (len ≤ 4000))) from (hb2.block _ (block_lt HA.out)).trans HA.out)
    have hA2' := hide (show Boxed X2 (w.heap.size + 1) 9 (by8 A0) from (hb2.block _ (block_lt HA2.out)).trans HA2.out)
    have hKF : Hid (KeepsFrom W3.heap.size X X2) := ⟨hb2.size, fun k o _ ho _ => (hb2.block k (Array.getElem?_eq_some_iff.1 ho).1).trans ho⟩
    have hBX := hide (HB.out.trans (hb2.mono HB.out.size))
    have hsz := hb2.size
    have hKO := hide (KeptO.of_kept (F := fun _ => False) (Kept.of_below hb2))
    clear c0 f0 c1 f1 hb2
    have c0 := hA'.out.cell
    have f0 := hA'.out.frozen
    have c1 := hA2'.out.cell
    have f1 := hA2'.out.frozen
    cases hrt : rightP (f x).P with
    | false =>
      have H2 := hide hrt
      clear hrt
      gi_wp2
      exact HBD.out X2 hKF.out hBX.out hA'.out (by rw [H1.out, H2.out]; rfl)
    | true =>
      have H2 := hide hrt
      clear hrt
      gi_wp2
      refine ⟨hKF.out.trans ((KeepsOthers.setCell _ _ _).from _), O, ⟨?_, ?_, HO.out, ?_, hBX.out.setCell (p := ⟨w.heap.size + 1, 0, none⟩) (by show w.heap.size ≤ w.heap.size + 1; omega) _⟩, ?_, fun k hk => ⟨.inl hk, ?_⟩⟩
      ·exact Boxed.beside hA'.out (by omega) _
      ·have e2 : lastOf [] ((List.range x ++ [x]).map fun i => (f i).P) = (f x).P := by rw [List.map_append]; exact lastOf_snoc _ _ _
       rw [e2]
       exact hA2'.out.set (by8 (f x).P)
      ·show riseP [] ((List.range x ++ [x]).map fun i => (f i).P) = true
       rw [List.map_append]
       refine HR.out.1.trans ?_
       rw [H1.out, H2.out]
       rfl
      ·exact (hKO.out.mono (fun _ h => h.elim)).trans (KeptO.of_kept ((Kept.refl O X2).setCell (p := ⟨w.heap.size + 1, 0, none⟩) (.inl ((HO.out _).2 (.inr rfl))) _))
      ·have := (HO.out k).1 hk
       have := block_lt hA2'.out
       simp
       omega
 case done =>
  rintro D xs X hD ⟨h1, h3⟩ hKD
  have c0 := h1.cell
  have H3 := hide h3
  clear h1 h3 hseq hI0 hks
  gi_wp2
  rw [Exit.noGoto_ret]
  refine ⟨by simp, .inl ⟨D, _, rfl, run_takeDeferred hKD, ?_⟩⟩
  exact ⟨_, results_tmp rfl _ _ _, rfl, H3.out.trans (belowK_b (w := w) (Nat.le_refl _) X D _ _ (by have := hB3.size; omega) hKD rfl rfl)⟩
 case stop =>
  rintro D c pre X hD ⟨rfl, h1, h3⟩ hKD
  have c0 := h1.cell
  have H3 := hide h3
  clear h1 h3 hseq hI0 hks
  gi_wp2
  rw [Exit.noGoto_ret]
  refine ⟨by simp, .inl ⟨D, _, rfl, run_takeDeferred hKD, ?_⟩⟩
  exact ⟨_, results_tmp rfl _ _ _, rfl, H3.out.trans (belowK_b (w := w) (Nat.le_refl _) X D _ _ (by have := hB3.size; omega) hKD rfl rfl)⟩
end Go.Proofs.YtpmldopbjlnknaaGreat
