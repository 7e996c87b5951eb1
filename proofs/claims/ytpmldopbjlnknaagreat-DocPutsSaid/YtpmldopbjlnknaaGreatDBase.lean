/-
  Documents: their bytes, what is read of bytes (plain Lean).
-/
import Derived.Test.YtpmldopbjlnknaaGreatFMath
import Derived.Test.YtpmldopbjlnknaaGreatLAwake
import Derived.Test.YtpmldopbjlnknaaGreatPrt
import Derived.Test.YtpmldopbjlnknaaGreatRows2
import Derived.Test.YtpmldopbjlnknaaGreatFoot
import Derived.Lib.Strings
set_option linter.unusedVariables false
set_option linter.unusedSimpArgs false
namespace Go.Proofs.YtpmldopbjlnknaaGreat
def nb (l : List UInt8) : List Nat := l.map UInt8.toNat
def u8 (l : List Nat) : List UInt8 := l.map UInt8.ofNat
theorem nb_length (l : List UInt8) : (nb l).length = l.length := by simp [nb]
theorem nb_lt (l : List UInt8) : ∀ b ∈ nb l, b < 256 := by
 intro b hb
 obtain ⟨c, _, rfl⟩ := List.mem_map.1 hb
 exact c.toNat_lt
structure DT where
 P : List UInt8
 L : List UInt8
 S : Nat
 Z : Int
def encD (d : DT) : List Nat := encN d.P.length ++ (nb d.P ++ (fixB d.S ++ encN d.Z.toNat))
def bodyD : List DT → List Nat
 | [] => []
 | d :: r => encD d ++ bodyD r
theorem bodyD_snoc (a : List DT) (d : DT) : bodyD (a ++ [d]) = bodyD a ++ encD d := by
 induction a with
 | nil => simp [bodyD]
 | cons x r ih => simp [bodyD, ih]
def tableD (ds : List DT) : List Nat := encN ds.length ++ bodyD ds
def docsG : Nat → Option (List Nat) → List DT × Option (List Nat)
 | 0, S => ([], S)
 | _ + 1, none => ([], none)
 | k + 1, some M =>
   let t := getText 200 (some M)
   let s := getFix t.2
   let z := getNum 1048576 s.2
   let r := docsG k z.2
   (⟨u8 t.1, ofL (u8 t.1), s.1, (z.1 : Int)⟩ :: r.1, r.2)
def okD (d : DT) : Prop := d.P.length ≤ 200 ∧ d.L = ofL d.P ∧ d.S < 4294967296 ∧ 0 ≤ d.Z ∧ d.Z ≤ 1048576
theorem less_lt : ∀ x y : List UInt8, Op.bytesLess x y = decide (x < y)
 | x, [] => by cases x <;> simp [Op.bytesLess]
 | [], b :: y => by simp [Op.bytesLess]
 | a :: x, b :: y => by
   rw [Op.bytesLess, less_lt x y, Bool.eq_iff_iff]
   simp [List.cons_lt_cons_iff]
theorem less_bytes (a b : List UInt8) : Op.bytesLess (⟨a.toArray⟩ : ByteArray).toList (⟨b.toArray⟩ : ByteArray).toList = decide (a < b) := by
 rw [Lib.toList_data, Lib.toList_data, less_lt]
theorem leq_bytes (p a : List UInt8) : (Op.bytesLess (⟨p.toArray⟩ : ByteArray).toList (⟨a.toArray⟩ : ByteArray).toList || (⟨p.toArray⟩ : ByteArray).toList == (⟨a.toArray⟩ : ByteArray).toList) = !decide (a < p) := by
 rw [less_bytes, Lib.toList_data, Lib.toList_data]
 by_cases h : a < p
 ·have h1 : ¬ p < a := fun h2 => List.lt_irrefl _ (List.lt_trans h h2)
  have h2 : p ≠ a := by rintro rfl; exact List.lt_irrefl _ h
  simp [h, h1, h2]
 ·have h1 : p ≤ a := List.not_lt.1 h
  rcases List.le_iff_lt_or_eq.1 h1 with h2 | h2
  ·simp [h, h2]
  ·subst h2; simp [h]
def ltP (a b : List UInt8) : Bool := decide (a < b)
theorem ltP_iff (a b : List UInt8) : ltP a b = true ↔ a < b := by unfold ltP; exact decide_eq_true_iff
theorem leq_ltP (p a : List UInt8) : (Op.bytesLess (⟨p.toArray⟩ : ByteArray).toList (⟨a.toArray⟩ : ByteArray).toList || (⟨p.toArray⟩ : ByteArray).toList == (⟨a.toArray⟩ : ByteArray).toList) = !ltP a p := leq_bytes p a
theorem leq_raw (p a : List UInt8) : (Op.bytesLess p a || p == a) = !ltP a p := by
 have h := leq_ltP p a
 rwa [Lib.toList_data, Lib.toList_data] at h
theorem less_raw (a b : List UInt8) : Op.bytesLess a b = ltP a b := by rw [less_lt]; rfl
def riseP : List UInt8 → List (List UInt8) → Bool
 | _, [] => true
 | a, p :: r => (ltP a p && rightP p) && riseP p r
def lastOf (a : List UInt8) : List (List UInt8) → List UInt8
 | [] => a
 | p :: r => lastOf p r
theorem lastOf_snoc (a p : List UInt8) : ∀ l, lastOf a (l ++ [p]) = p
 | [] => rfl
 | q :: r => lastOf_snoc q p r
theorem riseP_snoc (p : List UInt8) : ∀ (a : List UInt8) (l : List (List UInt8)), riseP a (l ++ [p]) = (riseP a l && (ltP (lastOf a l) p && rightP p))
 | a, [] => by simp [riseP, lastOf]
 | a, q :: r => by
   have ih := riseP_snoc p q r
   simp only [List.cons_append, riseP, lastOf, ih, Bool.and_assoc]
theorem riseP_append (m : List (List UInt8)) : ∀ (a : List UInt8) (l : List (List UInt8)), riseP a (l ++ m) = (riseP a l && riseP (lastOf a l) m)
 | a, [] => by simp [riseP, lastOf]
 | a, q :: r => by
   have ih := riseP_append m q r
   simp only [List.cons_append, riseP, lastOf, ih, Bool.and_assoc]
theorem riseP_bad {a p : List UInt8} {l r : List (List UInt8)} (h : (ltP (lastOf a l) p && rightP p) = false) : riseP a (l ++ p :: r) = false := by
 rw [riseP_append]
 simp [riseP, h]
theorem riseP_right : ∀ {a : List UInt8} {l : List (List UInt8)}, riseP a l = true → ∀ p ∈ l, a < p ∧ rightP p = true
 | a, q :: r, h, p, hp => by
   simp only [riseP, Bool.and_eq_true, ltP_iff] at h
   obtain ⟨⟨h1, h2⟩, h3⟩ := h
   rcases List.mem_cons.1 hp with rfl | hp
   ·exact ⟨h1, h2⟩
   ·obtain ⟨h4, h5⟩ := riseP_right h3 p hp
    exact ⟨List.lt_trans h1 h4, h5⟩
theorem rightP_ne {p : List UInt8} (h : rightP p = true) : p ≠ [] := by
 rintro rfl
 revert h
 decide
theorem rightP_len {p : List UInt8} (h : rightP p = true) : p.length ≤ 200 := by
 unfold rightP at h
 simp only [Bool.and_eq_true, decide_eq_true_eq] at h
 exact h.1
def findN (p : List UInt8) : Nat → List (List UInt8) → Int
 | _, [] => -1
 | i, q :: r => if q = p then (i : Int) else findN p (i + 1) r
def fitD (d : DT) : Bool := decide (d.L = ofL d.P) && decide (0 ≤ d.Z ∧ d.Z ≤ 1048576)
def rightD (ds : List DT) : Bool := (decide (ds.length ≤ 4000) && riseP [] (ds.map DT.P)) && ds.all fitD
theorem rightD_ok {ds : List DT} (h : rightD ds = true) (hS : ∀ d ∈ ds, d.S < 4294967296) : (∀ d ∈ ds, okD d) ∧ ds.length ≤ 4000 := by
 unfold rightD at h
 simp only [Bool.and_eq_true, decide_eq_true_eq, List.all_eq_true] at h
 obtain ⟨⟨h1, h2⟩, h3⟩ := h
 refine ⟨fun d hd => ?_, h1⟩
 have hp := (riseP_right h2 d.P (List.mem_map.2 ⟨d, hd, rfl⟩)).2
 have hf := h3 d hd
 unfold fitD at hf
 simp only [Bool.and_eq_true, decide_eq_true_eq] at hf
 exact ⟨rightP_len hp, hf.1, hS d hd, hf.2.1, hf.2.2⟩
def getDocs (L : List Nat) : Option (List DT) :=
 match docsG (getNum 4000 (some L)).1 (getNum 4000 (some L)).2 with
 | (ds, some []) => if rightD ds then some ds else none
 | _ => none
def rightF (fs : List (List UInt8 × List Nat)) : Bool := (decide (fs.length ≤ 4000) && riseP [] (fs.map fun f : List UInt8 × List Nat => f.1)) && fs.all fun f : List UInt8 × List Nat => decide (f.2.length ≤ 1048576)
def docF (f : List UInt8 × List Nat) : DT := ⟨f.1, ofL f.1, crcL f.2, (f.2.length : Int)⟩
theorem rightD_of {fs : List (List UInt8 × List Nat)} (h : rightF fs = true) : rightD (fs.map docF) = true := by
 unfold rightF at h
 unfold rightD
 simp only [Bool.and_eq_true, decide_eq_true_eq, List.all_eq_true, List.length_map, List.map_map] at h ⊢
 refine ⟨⟨h.1.1, h.1.2⟩, fun d hd => ?_⟩
 obtain ⟨f, hf, rfl⟩ := List.mem_map.1 hd
 have := h.2 f hf
 unfold fitD docF
 simp only [Bool.and_eq_true, decide_eq_true_eq]
 exact ⟨trivial, by omega, by omega⟩
open Go.RowKit
def cellD (d : DT) : List Value := [by8 d.P, by8 d.L, .int .u32 (d.S : Nat), .int .i64 d.Z]
def cellsD : List DT → List Value
 | [] => []
 | d :: r => cellD d ++ cellsD r
theorem cellsD_length : ∀ ds : List DT, (cellsD ds).length = ds.length * 4
 | [] => rfl
 | d :: r => by simp [cellsD, cellD, cellsD_length r]; omega
theorem cellsD_append (b : List DT) : ∀ a : List DT, cellsD (a ++ b) = cellsD a ++ cellsD b
 | [] => rfl
 | d :: r => by simp [cellsD, cellsD_append b r]
theorem cellsD_snoc (a : List DT) (d : DT) : cellsD (a ++ [d]) = cellsD a ++ cellD d := by rw [cellsD_append]; simp [cellsD]
theorem cellsD_get : ∀ (ds : List DT) (i : Nat) (d : DT), ds[i]? = some d → ∀ j u, (cellD d)[j]? = some u → (cellsD ds)[i * 4 + j]? = some u
 | [], i, d, h, j, u, hu => by simp at h
 | x :: r, 0, d, h, j, u, hu => by
   simp at h
   subst h
   rw [cellsD, Nat.zero_mul, Nat.zero_add, List.getElem?_append_left (List.getElem?_eq_some_iff.1 hu).1, hu]
 | x :: r, i + 1, d, h, j, u, hu => by
   have := cellsD_get r i d (by simpa using h) j u hu
   rw [cellsD, show (i + 1) * 4 + j = (cellD x).length + (i * 4 + j) from by simp [cellD]; omega, List.getElem?_append_right (by omega), Nat.add_sub_cancel_left, this]
theorem cellD_one (d : DT) : ∀ u ∈ cellD d, u.oneCell' = true := by
 intro u hu
 simp only [cellD, List.mem_cons, List.not_mem_nil, or_false] at hu
 rcases hu with rfl | rfl | rfl | rfl <;> rfl
def Docs (w : World) (a : Option Addr) (ds : List DT) : Prop :=
 ds = [] ∨ ∃ b off, a = some ⟨b, off, none⟩ ∧ ∀ i d, ds[i]? = some d → ∀ j u, (cellD d)[j]? = some u → w.cell? ⟨b, off + (i * 4 + j), none⟩ = some u
theorem Docs.kept {w w' : World} {a : Option Addr} {ds : List DT} {F : Nat → Prop} (h : Docs w a ds) (hk : Kept F w w') (hF : ∀ k, k < w.heap.size → ¬ F k) : Docs w' a ds := by
 rcases h with h | ⟨b, off, rfl, hc⟩
 ·exact .inl h
 ·exact .inr ⟨b, off, rfl, fun i d hi j u hu => hk.cell (hc i d hi j u hu) (hF b (block_lt_of_cell (hc i d hi j u hu)))⟩
theorem Docs.below {w w' : World} {a : Option Addr} {ds : List DT} (h : Docs w a ds) (hb : Below w.heap.size w w') : Docs w' a ds := h.kept (Kept.of_below (F := fun _ => False) hb) (fun _ _ h => h)
theorem Docs.cells {w : World} {a : Option Addr} {ds : List DT} (h : Docs w a ds) {i : Nat} {d : DT} (hi : ds[i]? = some d) :
  ∃ b off, a = some ⟨b, off, none⟩ ∧ w.cell? ⟨b, off + i * 4, none⟩ = some (by8 d.P) ∧ w.cell? ⟨b, off + i * 4 + 1, none⟩ = some (by8 d.L) ∧ w.cell? ⟨b, off + i * 4 + 2, none⟩ = some (.int .u32 (d.S : Nat)) ∧ w.cell? ⟨b, off + i * 4 + 3, none⟩ = some (.int .i64 d.Z) := by
 rcases h with rfl | ⟨b, off, e, hc⟩
 ·simp at hi
 ·have h0 := hc i d hi 0 _ rfl
  have h1 := hc i d hi 1 _ rfl
  have h2 := hc i d hi 2 _ rfl
  have h3 := hc i d hi 3 _ rfl
  exact ⟨b, off, e, by simpa using h0, by simpa [Nat.add_assoc] using h1, by simpa [Nat.add_assoc] using h2, by simpa [Nat.add_assoc] using h3⟩
def OwnD (w : World) (B : Nat) (v : Value) (ds : List DT) : Prop := w.ownsRow B 47 4 v ds.length (cellsD ds)
theorem OwnD.thru {w w' : World} {B : Nat} {v : Value} {ds : List DT} (h : OwnD w B v ds) (hb : Below w.heap.size w w') : OwnD w' B v ds := owns_thruS h hb
theorem OwnD.docs {w : World} {B : Nat} {v : Value} {ds : List DT} (h : OwnD w B v ds) : ∃ A C, v = .slice A ds.length C ∧ Docs w A ds ∧ ds.length ≤ C ∧ C ≤ 9223372036854775807 ∧ (A = none → C = 0) := by
 have h' := h
 obtain ⟨hl, ⟨rfl, h0⟩ | ⟨g, cap, cur, rfl, hB, hg, hnc, hcm, hcs, ht⟩⟩ := h
 ·refine ⟨none, 0, by rw [h0], .inl (List.eq_nil_of_length_eq_zero h0), by omega, by omega, fun _ => rfl⟩
 ·refine ⟨some ⟨g, 0, none⟩, cap, rfl, .inr ⟨g, 0, rfl, fun i d hi j u hu => ?_⟩, hnc, hcm, fun e => by cases e⟩
  have := World.ownsRow.cells h' (g := g) rfl _ _ (cellsD_get ds i d hi j u hu)
  rw [add_none' _ rfl] at this
  simpa using this
theorem OwnD.nil (w : World) (B : Nat) : OwnD w B (.slice none 0 0) [] := World.ownsRow_nil _ _ _ _
open Go.ChangeShapes Go.WideShapes Go.RowKit Go.Deep
structure Fil where
 P : List UInt8
 B : List Nat
 pB : Option Addr
 cB : Nat
structure Fil.Ok (w : World) (P : Fil) : Prop where
 lB : P.B.length ≤ P.cB
 mB : P.cB ≤ 9223372036854775807
 nB : P.pB = none → P.cB = 0
 oB : P.cB = 0 ∨ ∃ b off, P.pB = some ⟨b, off, none⟩
 bB : BL w P.pB P.B
theorem Fil.Ok.atB {w : World} {P : Fil} (h : P.Ok w) : ∀ g off s, P.pB = some ⟨g, off, s⟩ → 0 < P.B.length → g < w.heap.size := by
 intro g off s e h0
 obtain ⟨b, o, e', hc⟩ := h.bB.cell h0
 rw [e] at e'; cases e'
 exact block_lt_of_cell (hc 0 h0)
theorem Fil.Ok.kept {w w' : World} {P : Fil} {F : Nat → Prop} (h : P.Ok w) (hk : Kept F w w') (hF : ∀ k, k < w.heap.size → ¬ F k) : P.Ok w' :=
 ⟨h.lB, h.mB, h.nB, h.oB, h.bB.kept0 hk (fun g o s e h0 => hF g (h.atB g o s e h0))⟩
theorem Fil.Ok.below {w w' : World} {P : Fil} (h : P.Ok w) (hb : Below w.heap.size w w') : P.Ok w' := h.kept (Kept.of_below (F := fun _ => False) hb) (fun _ _ h => h)
def Fils (w : World) (a : Option Addr) (n : Nat) (P : Nat → Fil) : Prop :=
 n = 0 ∨ ∃ b off, a = some ⟨b, off, none⟩ ∧ ∀ i, i < n → (w.cell? ⟨b, off + i * 2, none⟩ = some (by8 (P i).P) ∧ w.cell? ⟨b, off + i * 2 + 1, none⟩ = some (.slice (P i).pB (P i).B.length (P i).cB)) ∧ (P i).Ok w
theorem Fils.kept {w w' : World} {a : Option Addr} {n : Nat} {P : Nat → Fil} {F : Nat → Prop} (h : Fils w a n P) (hk : Kept F w w') (hF : ∀ k, k < w.heap.size → ¬ F k) : Fils w' a n P := by
 rcases h with h | ⟨b, off, rfl, hc⟩
 ·exact .inl h
 ·refine .inr ⟨b, off, rfl, fun i hi => ?_⟩
  obtain ⟨⟨h0, h1⟩, h5⟩ := hc i hi
  have hb := hF b (block_lt_of_cell h0)
  exact ⟨⟨hk.cell h0 hb, hk.cell h1 hb⟩, h5.kept hk hF⟩
theorem Fils.below {w w' : World} {a : Option Addr} {n : Nat} {P : Nat → Fil} (h : Fils w a n P) (hb : Below w.heap.size w w') : Fils w' a n P := h.kept (Kept.of_below (F := fun _ => False) hb) (fun _ _ h => h)
theorem Fils.cells {w : World} {a : Option Addr} {n : Nat} {P : Nat → Fil} (h : Fils w a n P) (i : Nat) (hi : i < n) : ∃ b off, a = some ⟨b, off, none⟩ ∧ (w.cell? ⟨b, off + i * 2, none⟩ = some (by8 (P i).P) ∧ w.cell? ⟨b, off + i * 2 + 1, none⟩ = some (.slice (P i).pB (P i).B.length (P i).cB)) ∧ (P i).Ok w := by
 rcases h with h | ⟨b, off, e, hc⟩
 ·omega
 ·exact ⟨b, off, e, hc i hi⟩
theorem cells_string : Tryz.prog.cellsOf 9 = 1 := by kernel_rfl
section
variable {H : Type} {enc : TypeId × Value → H} {w : World} {base n : Nat} {held : Bool}
end
open Go.RowKit
end Go.Proofs.YtpmldopbjlnknaaGreat
