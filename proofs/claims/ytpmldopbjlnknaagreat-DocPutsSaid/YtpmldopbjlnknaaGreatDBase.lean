/-
  Documents: their bytes, what is read of bytes (plain Lean).
-/
import Derived.Test.YtpmldopbjlnknaaGreatFMath
import Derived.Test.YtpmldopbjlnknaaGreatLAwake
import Derived.Test.YtpmldopbjlnknaaGreatPrt
import Derived.Test.YtpmldopbjlnknaaGreatRows2
import Derived.Test.YtpmldopbjlnknaaGreatFoot
import Derived.Lib.Strings
namespace Go.Proofs.YtpmldopbjlnknaaGreat

/-- A text's bytes as numbers, and back. -/
def nb (l : List UInt8) : List Nat := l.map UInt8.toNat
def u8 (l : List Nat) : List UInt8 := l.map UInt8.ofNat
theorem nb_length (l : List UInt8) : (nb l).length = l.length := by simp [nb]
theorem u8_length (l : List Nat) : (u8 l).length = l.length := by simp [u8]
theorem nb_lt (l : List UInt8) : ∀ b ∈ nb l, b < 256 := by
  intro b hb
  obtain ⟨c, _, rfl⟩ := List.mem_map.1 hb
  exact c.toNat_lt
theorem u8_nb (l : List UInt8) : u8 (nb l) = l := by
  unfold u8 nb
  rw [List.map_map]
  conv => rhs; rw [← List.map_id l]
  exact List.map_congr_left (fun c _ => by simp)
theorem nb_u8 (l : List Nat) (h : ∀ b ∈ l, b < 256) : nb (u8 l) = l := by
  unfold u8 nb
  rw [List.map_map]
  conv => rhs; rw [← List.map_id l]
  refine List.map_congr_left (fun c hc => ?_)
  have := h c hc
  simp only [Function.comp, id]
  rw [UInt8.toNat_ofNat']
  omega

/-- A document: its path, language, sum, size. -/
structure DT where
  P : List UInt8
  L : List UInt8
  S : Nat
  Z : Int
/-- A document's bytes; documents'. -/
def encD (d : DT) : List Nat := encN d.P.length ++ (nb d.P ++ (fixB d.S ++ encN d.Z.toNat))
def bodyD : List DT → List Nat
  | [] => []
  | d :: r => encD d ++ bodyD r
theorem bodyD_snoc (a : List DT) (d : DT) : bodyD (a ++ [d]) = bodyD a ++ encD d := by
  induction a with
  | nil => simp [bodyD]
  | cons x r ih => simp [bodyD, ih]
def tableD (ds : List DT) : List Nat := encN ds.length ++ bodyD ds

theorem getNum_is {most : Int} {L M : List Nat} {v : Nat} (hL : ∀ b ∈ L, b < 256) (h : getNum most (some L) = (v, some M)) : L = encN v ++ M ∧ (v : Int) ≤ most ∧ v ≤ maxNum := by
  obtain ⟨k, h1, rfl, h2, h3⟩ := getNum_some h
  refine ⟨?_, h2, h3⟩
  rw [← (pN_canon 6 0 L v k hL h1).1, List.take_append_drop]
theorem getFix_is {L M : List Nat} {v : Nat} (hL : ∀ b ∈ L, b < 256) (h : getFix (some L) = (v, some M)) : L = fixB v ++ M ∧ v < 4294967296 := by
  by_cases h4 : L.length < 4
  · simp [getFix, h4] at h
  · have h5 : (getFix (some L)).1 = v := by rw [h]
    have h6 := getFix_take L (by omega)
    have h7 := fix_getFix (L.take 4) (by simp; omega) (fun b hb => hL b (List.mem_of_mem_take hb))
    have h8 : M = L.drop 4 := by simp [getFix, h4] at h; exact h.2.symm
    rw [← h6, h5] at h7
    refine ⟨by rw [h7, h8, List.take_append_drop], ?_⟩
    have hg : ∀ i, L.getD i 0 < 256 := fun i => by
      rw [List.getD_eq_getElem?_getD]
      by_cases hi : i < L.length
      · rw [List.getElem?_eq_getElem hi]; exact hL _ (List.getElem_mem hi)
      · rw [List.getElem?_eq_none (by omega)]; decide
    unfold getFix at h5
    simp only at h5
    rw [if_neg h4] at h5
    have h5' : L.getD 0 0 + L.getD 1 0 * 256 + L.getD 2 0 * 65536 + L.getD 3 0 * 16777216 = v := h5
    have g0 := hg 0; have g1 := hg 1; have g2 := hg 2; have g3 := hg 3
    omega
theorem getText_is {most : Int} {L M b : List Nat} (hL : ∀ b ∈ L, b < 256) (h : getText most (some L) = (b, some M)) : L = encN b.length ++ (b ++ M) ∧ (b.length : Int) ≤ most ∧ b.length ≤ maxNum := by
  unfold getText at h
  cases hn : getNum most (some L) with
  | mk n S =>
    rw [hn] at h
    cases S with
    | none => simp at h
    | some R =>
      simp only at h
      obtain ⟨e1, h2, h3⟩ := getNum_is hL hn
      split at h
      · simp at h
      · rename_i hlt
        simp only [Prod.mk.injEq, Option.some.injEq] at h
        obtain ⟨rfl, rfl⟩ := h
        have e : (R.take n).length = n := by rw [List.length_take]; omega
        rw [e, List.take_append_drop]
        exact ⟨e1, h2, h3⟩
theorem getText_le {most : Int} {b rest : List Nat} (h : (b.length : Int) ≤ most) (hm : b.length ≤ maxNum) : getText most (some (encN b.length ++ (b ++ rest))) = (b, some rest) := by
  unfold getText
  rw [getNum_put _ _ _ h hm]
  simp

/-- So many documents as they stand, up to where there is none. -/
def docsG : Nat → Option (List Nat) → List DT × Option (List Nat)
  | 0, S => ([], S)
  | _ + 1, none => ([], none)
  | k + 1, some M =>
    let t := getText 200 (some M)
    let s := getFix t.2
    let z := getNum 1048576 s.2
    let r := docsG k z.2
    (⟨u8 t.1, ofL (u8 t.1), s.1, (z.1 : Int)⟩ :: r.1, r.2)
theorem docsG_none : ∀ k, (docsG k none).2 = none
  | 0 => rfl
  | _ + 1 => rfl
/-- A document that may stand there. -/
def okD (d : DT) : Prop := d.P.length ≤ 200 ∧ d.L = ofL d.P ∧ d.S < 4294967296 ∧ 0 ≤ d.Z ∧ d.Z ≤ 1048576
theorem docsG_put : ∀ (ds : List DT) (rest : List Nat), (∀ d ∈ ds, okD d) → docsG ds.length (some (bodyD ds ++ rest)) = (ds, some rest)
  | [], rest, _ => rfl
  | d :: r, rest, h => by
    obtain ⟨h1, h2, h3, h4, h5⟩ := h d List.mem_cons_self
    have ih := docsG_put r rest (fun x hx => h x (List.mem_cons_of_mem _ hx))
    have e1 : bodyD (d :: r) ++ rest = encN (nb d.P).length ++ (nb d.P ++ (fixB d.S ++ (encN d.Z.toNat ++ (bodyD r ++ rest)))) := by
      simp [bodyD, encD, nb_length]
    show docsG (r.length + 1) (some (bodyD (d :: r) ++ rest)) = (d :: r, some rest)
    rw [e1]
    unfold docsG
    simp only
    rw [getText_le (by rw [nb_length]; omega) (by rw [nb_length]; unfold maxNum; omega)]
    simp only
    rw [getFix_put _ _ h3]
    simp only
    rw [getNum_put _ _ _ (by omega) (by unfold maxNum; omega)]
    simp only
    rw [ih, u8_nb, Int.toNat_of_nonneg h4]
    rw [← h2]
theorem docsG_is : ∀ (k : Nat) (M R : List Nat) (ds : List DT), (∀ b ∈ M, b < 256) → docsG k (some M) = (ds, some R) → M = bodyD ds ++ R ∧ ds.length = k ∧ ∀ d ∈ ds, okD d
  | 0, M, R, ds, _, h => by
    simp [docsG] at h
    obtain ⟨rfl, rfl⟩ := h
    exact ⟨by simp [bodyD], rfl, fun d hd => by cases hd⟩
  | k + 1, M, R, ds, hM, h => by
    unfold docsG at h
    simp only [Prod.mk.injEq] at h
    obtain ⟨rfl, h⟩ := h
    cases ht : getText 200 (some M) with
    | mk b T =>
      rw [ht] at h
      cases T with
      | none => simp only [getFix, getNum] at h; rw [docsG_none] at h; cases h
      | some M1 =>
        obtain ⟨e1, hb1, hb2⟩ := getText_is hM ht
        have hM1 : ∀ b ∈ M1, b < 256 := fun x hx => hM x (by rw [e1]; simp [hx])
        have hbb : ∀ x ∈ b, x < 256 := fun x hx => hM x (by rw [e1]; simp [hx])
        simp only at h ⊢
        cases hs : getFix (some M1) with
        | mk s T2 =>
          rw [hs] at h
          cases T2 with
          | none => simp only [getNum] at h; rw [docsG_none] at h; cases h
          | some M2 =>
            obtain ⟨e2, hs2⟩ := getFix_is hM1 hs
            have hM2 : ∀ b ∈ M2, b < 256 := fun x hx => hM1 x (by rw [e2]; simp [hx])
            simp only at h ⊢
            cases hz : getNum 1048576 (some M2) with
            | mk z T3 =>
              rw [hz] at h
              cases T3 with
              | none => simp only at h; rw [docsG_none] at h; cases h
              | some M3 =>
                obtain ⟨e3, hz1, hz2⟩ := getNum_is hM2 hz
                have hM3 : ∀ b ∈ M3, b < 256 := fun x hx => hM2 x (by rw [e3]; simp [hx])
                simp only at h ⊢
                obtain ⟨e4, hk, hok⟩ := docsG_is k M3 R _ hM3 (Prod.ext rfl h)
                refine ⟨?_, by simp [hk], ?_⟩
                · rw [e1, e2, e3]
                  conv => lhs; rw [e4]
                  simp [bodyD, encD, nb_u8 b hbb, u8_length]
                · intro d hd
                  rcases List.mem_cons.1 hd with rfl | hd
                  · exact ⟨by show (u8 b).length ≤ 200; rw [u8_length]; omega, rfl, hs2, by show (0 : Int) ≤ (z : Int); omega, hz1⟩
                  · exact hok d hd
end Go.Proofs.YtpmldopbjlnknaaGreat

/-
  Documents that are right, paths that rise; what documents bytes are; a path's number (plain Lean).
-/
namespace Go.Proofs.YtpmldopbjlnknaaGreat

theorem less_lt : ∀ x y : List UInt8, Op.bytesLess x y = decide (x < y)
  | x, [] => by cases x <;> simp [Op.bytesLess]
  | [], b :: y => by simp [Op.bytesLess]
  | a :: x, b :: y => by
    rw [Op.bytesLess, less_lt x y, Bool.eq_iff_iff]
    simp [List.cons_lt_cons_iff]
theorem less_bytes (a b : List UInt8) : Op.bytesLess (⟨a.toArray⟩ : ByteArray).toList (⟨b.toArray⟩ : ByteArray).toList = decide (a < b) := by
  rw [Lib.toList_data, Lib.toList_data, less_lt]
theorem leq_bytes (p a : List UInt8) : (Op.bytesLess (⟨p.toArray⟩ : ByteArray).toList (⟨a.toArray⟩ : ByteArray).toList || (⟨p.toArray⟩ : ByteArray).toList == (⟨a.toArray⟩ : ByteArray).toList) = !decide (a < p) := by
  rw [less_bytes, Lib.toList_data, Lib.toList_data]
  by_cases h : a < p
  · have h1 : ¬ p < a := fun h2 => List.lt_irrefl _ (List.lt_trans h h2)
    have h2 : p ≠ a := by rintro rfl; exact List.lt_irrefl _ h
    simp [h, h1, h2]
  · have h1 : p ≤ a := List.not_lt.1 h
    rcases List.le_iff_lt_or_eq.1 h1 with h2 | h2
    · simp [h, h2]
    · subst h2; simp [h]

def ltP (a b : List UInt8) : Bool := decide (a < b)
theorem ltP_iff (a b : List UInt8) : ltP a b = true ↔ a < b := by unfold ltP; exact decide_eq_true_iff
theorem leq_ltP (p a : List UInt8) : (Op.bytesLess (⟨p.toArray⟩ : ByteArray).toList (⟨a.toArray⟩ : ByteArray).toList || (⟨p.toArray⟩ : ByteArray).toList == (⟨a.toArray⟩ : ByteArray).toList) = !ltP a p := leq_bytes p a
theorem leq_raw (p a : List UInt8) : (Op.bytesLess p a || p == a) = !ltP a p := by
  have h := leq_ltP p a
  rwa [Lib.toList_data, Lib.toList_data] at h
theorem less_raw (a b : List UInt8) : Op.bytesLess a b = ltP a b := by rw [less_lt]; rfl
theorem less_ltP (a b : List UInt8) : Op.bytesLess (⟨a.toArray⟩ : ByteArray).toList (⟨b.toArray⟩ : ByteArray).toList = ltP a b := less_bytes a b
/-- Paths that are right, each above the one ahead. -/
def riseP : List UInt8 → List (List UInt8) → Bool
  | _, [] => true
  | a, p :: r => (ltP a p && rightP p) && riseP p r
def lastOf (a : List UInt8) : List (List UInt8) → List UInt8
  | [] => a
  | p :: r => lastOf p r
theorem lastOf_snoc (a p : List UInt8) : ∀ l, lastOf a (l ++ [p]) = p
  | [] => rfl
  | q :: r => lastOf_snoc q p r
theorem riseP_snoc (p : List UInt8) : ∀ (a : List UInt8) (l : List (List UInt8)), riseP a (l ++ [p]) = (riseP a l && (ltP (lastOf a l) p && rightP p))
  | a, [] => by simp [riseP, lastOf]
  | a, q :: r => by
    have ih := riseP_snoc p q r
    simp only [List.cons_append, riseP, lastOf, ih, Bool.and_assoc]
theorem riseP_append (m : List (List UInt8)) : ∀ (a : List UInt8) (l : List (List UInt8)), riseP a (l ++ m) = (riseP a l && riseP (lastOf a l) m)
  | a, [] => by simp [riseP, lastOf]
  | a, q :: r => by
    have ih := riseP_append m q r
    simp only [List.cons_append, riseP, lastOf, ih, Bool.and_assoc]
theorem riseP_bad {a p : List UInt8} {l r : List (List UInt8)} (h : (ltP (lastOf a l) p && rightP p) = false) : riseP a (l ++ p :: r) = false := by
  rw [riseP_append]
  simp [riseP, h]
theorem riseP_right : ∀ {a : List UInt8} {l : List (List UInt8)}, riseP a l = true → ∀ p ∈ l, a < p ∧ rightP p = true
  | a, q :: r, h, p, hp => by
    simp only [riseP, Bool.and_eq_true, ltP_iff] at h
    obtain ⟨⟨h1, h2⟩, h3⟩ := h
    rcases List.mem_cons.1 hp with rfl | hp
    · exact ⟨h1, h2⟩
    · obtain ⟨h4, h5⟩ := riseP_right h3 p hp
      exact ⟨List.lt_trans h1 h4, h5⟩
theorem rightP_ne {p : List UInt8} (h : rightP p = true) : p ≠ [] := by
  rintro rfl
  revert h
  decide
theorem rightP_len {p : List UInt8} (h : rightP p = true) : p.length ≤ 200 := by
  unfold rightP at h
  simp only [Bool.and_eq_true, decide_eq_true_eq] at h
  exact h.1
/-- The number of a path. -/
def findN (p : List UInt8) : Nat → List (List UInt8) → Int
  | _, [] => -1
  | i, q :: r => if q = p then (i : Int) else findN p (i + 1) r
theorem findN_rise (p : List UInt8) : ∀ (l : List (List UInt8)) (a : List UInt8) (i k : Nat), riseP a l = true → l[k]? = some p → findN p i l = ((i + k : Nat) : Int)
  | [], a, i, k, _, h => by simp at h
  | q :: r, a, i, 0, _, h => by
    simp at h
    subst h
    simp [findN]
  | q :: r, a, i, k + 1, h, hk => by
    simp only [riseP, Bool.and_eq_true] at h
    have hm : p ∈ r := List.mem_of_getElem? (by simpa using hk)
    have hlt := (riseP_right h.2 p hm).1
    have hne : q ≠ p := by rintro rfl; exact List.lt_irrefl _ hlt
    unfold findN
    rw [if_neg hne, findN_rise p r q (i + 1) k h.2 (by simpa using hk)]
    congr 1
    omega
theorem findN_le (p : List UInt8) : ∀ (l : List (List UInt8)) (i : Nat), findN p i l = -1 ∨ ((i : Int) ≤ findN p i l ∧ findN p i l < (i : Int) + l.length)
  | [], i => .inl rfl
  | q :: r, i => by
    unfold findN
    split
    · right; simp; omega
    · rcases findN_le p r (i + 1) with h | ⟨h1, h2⟩
      · exact .inl h
      · right; simp at *; omega

/-- Right documents. -/
def fitD (d : DT) : Bool := decide (d.L = ofL d.P) && decide (0 ≤ d.Z ∧ d.Z ≤ 1048576)
def rightD (ds : List DT) : Bool := (decide (ds.length ≤ 4000) && riseP [] (ds.map DT.P)) && ds.all fitD
theorem rightD_ok {ds : List DT} (h : rightD ds = true) (hS : ∀ d ∈ ds, d.S < 4294967296) : (∀ d ∈ ds, okD d) ∧ ds.length ≤ 4000 := by
  unfold rightD at h
  simp only [Bool.and_eq_true, decide_eq_true_eq, List.all_eq_true] at h
  obtain ⟨⟨h1, h2⟩, h3⟩ := h
  refine ⟨fun d hd => ?_, h1⟩
  have hp := (riseP_right h2 d.P (List.mem_map.2 ⟨d, hd, rfl⟩)).2
  have hf := h3 d hd
  unfold fitD at hf
  simp only [Bool.and_eq_true, decide_eq_true_eq] at hf
  exact ⟨rightP_len hp, hf.1, hS d hd, hf.2.1, hf.2.2⟩
/-- The documents of bytes. -/
def getDocs (L : List Nat) : Option (List DT) :=
  match docsG (getNum 4000 (some L)).1 (getNum 4000 (some L)).2 with
  | (ds, some []) => if rightD ds then some ds else none
  | _ => none
theorem getDocs_put {ds : List DT} (h : rightD ds = true) (hS : ∀ d ∈ ds, d.S < 4294967296) : getDocs (tableD ds) = some ds := by
  obtain ⟨h1, h2⟩ := rightD_ok h hS
  unfold getDocs tableD
  rw [getNum_put _ _ _ (by omega) (by unfold maxNum; omega)]
  simp only
  have := docsG_put ds [] h1
  rw [List.append_nil] at this
  rw [this]
  simp [h]
theorem getDocs_is {L : List Nat} {ds : List DT} (hL : ∀ b ∈ L, b < 256) (h : getDocs L = some ds) : tableD ds = L ∧ rightD ds = true ∧ ∀ d ∈ ds, okD d := by
  unfold getDocs at h
  cases hn : getNum 4000 (some L) with
  | mk n S =>
    rw [hn] at h
    simp only at h
    cases S with
    | none =>
      have := docsG_none n
      split at h
      · rename_i ds' e
        rw [e] at this
        cases this
      · cases h
    | some M =>
      obtain ⟨e1, _, _⟩ := getNum_is hL hn
      split at h
      · rename_i ds' e
        split at h
        · rename_i hr
          cases h
          obtain ⟨e2, hk, hok⟩ := docsG_is n M [] ds (fun b hb => hL b (by rw [e1]; simp [hb])) e
          exact ⟨by unfold tableD; rw [hk, e1, e2]; simp, hr, hok⟩
        · cases h
      · cases h

/-- Files: a path, bytes; right ones; their documents. -/
def rightF (fs : List (List UInt8 × List Nat)) : Bool := (decide (fs.length ≤ 4000) && riseP [] (fs.map fun f : List UInt8 × List Nat => f.1)) && fs.all fun f : List UInt8 × List Nat => decide (f.2.length ≤ 1048576)
def docF (f : List UInt8 × List Nat) : DT := ⟨f.1, ofL f.1, crcL f.2, (f.2.length : Int)⟩
theorem rightD_of {fs : List (List UInt8 × List Nat)} (h : rightF fs = true) : rightD (fs.map docF) = true := by
  unfold rightF at h
  unfold rightD
  simp only [Bool.and_eq_true, decide_eq_true_eq, List.all_eq_true, List.length_map, List.map_map] at h ⊢
  refine ⟨⟨h.1.1, h.1.2⟩, fun d hd => ?_⟩
  obtain ⟨f, hf, rfl⟩ := List.mem_map.1 hd
  have := h.2 f hf
  unfold fitD docF
  simp only [Bool.and_eq_true, decide_eq_true_eq]
  exact ⟨trivial, by omega, by omega⟩
end Go.Proofs.YtpmldopbjlnknaaGreat

/-
  Documents (api.Doc) in a row: read, and a row of the call's own.
-/
namespace Go.Proofs.YtpmldopbjlnknaaGreat
open Go.RowKit

/-- A document's cells; documents'. -/
def cellD (d : DT) : List Value := [by8 d.P, by8 d.L, .int .u32 (d.S : Nat), .int .i64 d.Z]
def cellsD : List DT → List Value
  | [] => []
  | d :: r => cellD d ++ cellsD r
theorem cellsD_length : ∀ ds : List DT, (cellsD ds).length = ds.length * 4
  | [] => rfl
  | d :: r => by simp [cellsD, cellD, cellsD_length r]; omega
theorem cellsD_append (b : List DT) : ∀ a : List DT, cellsD (a ++ b) = cellsD a ++ cellsD b
  | [] => rfl
  | d :: r => by simp [cellsD, cellsD_append b r]
theorem cellsD_snoc (a : List DT) (d : DT) : cellsD (a ++ [d]) = cellsD a ++ cellD d := by rw [cellsD_append]; simp [cellsD]
theorem cellsD_get : ∀ (ds : List DT) (i : Nat) (d : DT), ds[i]? = some d → ∀ j u, (cellD d)[j]? = some u → (cellsD ds)[i * 4 + j]? = some u
  | [], i, d, h, j, u, hu => by simp at h
  | x :: r, 0, d, h, j, u, hu => by
    simp at h
    subst h
    rw [cellsD, Nat.zero_mul, Nat.zero_add, List.getElem?_append_left (List.getElem?_eq_some_iff.1 hu).1, hu]
  | x :: r, i + 1, d, h, j, u, hu => by
    have := cellsD_get r i d (by simpa using h) j u hu
    rw [cellsD, show (i + 1) * 4 + j = (cellD x).length + (i * 4 + j) from by simp [cellD]; omega, List.getElem?_append_right (by omega), Nat.add_sub_cancel_left, this]
theorem cellD_one (d : DT) : ∀ u ∈ cellD d, u.oneCell' = true := by
  intro u hu
  simp only [cellD, List.mem_cons, List.not_mem_nil, or_false] at hu
  rcases hu with rfl | rfl | rfl | rfl <;> rfl
/-- Documents in a row. -/
def Docs (w : World) (a : Option Addr) (ds : List DT) : Prop :=
  ds = [] ∨ ∃ b off, a = some ⟨b, off, none⟩ ∧ ∀ i d, ds[i]? = some d → ∀ j u, (cellD d)[j]? = some u → w.cell? ⟨b, off + (i * 4 + j), none⟩ = some u
theorem Docs.kept {w w' : World} {a : Option Addr} {ds : List DT} {F : Nat → Prop} (h : Docs w a ds) (hk : Kept F w w') (hF : ∀ k, k < w.heap.size → ¬ F k) : Docs w' a ds := by
  rcases h with h | ⟨b, off, rfl, hc⟩
  · exact .inl h
  · exact .inr ⟨b, off, rfl, fun i d hi j u hu => hk.cell (hc i d hi j u hu) (hF b (block_lt_of_cell (hc i d hi j u hu)))⟩
theorem Docs.below {w w' : World} {a : Option Addr} {ds : List DT} (h : Docs w a ds) (hb : Below w.heap.size w w') : Docs w' a ds := h.kept (Kept.of_below (F := fun _ => False) hb) (fun _ _ h => h)
theorem Docs.cells {w : World} {a : Option Addr} {ds : List DT} (h : Docs w a ds) {i : Nat} {d : DT} (hi : ds[i]? = some d) :
    ∃ b off, a = some ⟨b, off, none⟩ ∧ w.cell? ⟨b, off + i * 4, none⟩ = some (by8 d.P) ∧ w.cell? ⟨b, off + i * 4 + 1, none⟩ = some (by8 d.L) ∧ w.cell? ⟨b, off + i * 4 + 2, none⟩ = some (.int .u32 (d.S : Nat)) ∧ w.cell? ⟨b, off + i * 4 + 3, none⟩ = some (.int .i64 d.Z) := by
  rcases h with rfl | ⟨b, off, e, hc⟩
  · simp at hi
  · have h0 := hc i d hi 0 _ rfl
    have h1 := hc i d hi 1 _ rfl
    have h2 := hc i d hi 2 _ rfl
    have h3 := hc i d hi 3 _ rfl
    exact ⟨b, off, e, by simpa using h0, by simpa [Nat.add_assoc] using h1, by simpa [Nat.add_assoc] using h2, by simpa [Nat.add_assoc] using h3⟩
/-- A row of the call's own. -/
def OwnD (w : World) (B : Nat) (v : Value) (ds : List DT) : Prop := w.ownsRow B 47 4 v ds.length (cellsD ds)
theorem OwnD.thru {w w' : World} {B : Nat} {v : Value} {ds : List DT} (h : OwnD w B v ds) (hb : Below w.heap.size w w') : OwnD w' B v ds := owns_thruS h hb
theorem OwnD.docs {w : World} {B : Nat} {v : Value} {ds : List DT} (h : OwnD w B v ds) : ∃ A C, v = .slice A ds.length C ∧ Docs w A ds ∧ ds.length ≤ C ∧ C ≤ 9223372036854775807 ∧ (A = none → C = 0) := by
  have h' := h
  obtain ⟨hl, ⟨rfl, h0⟩ | ⟨g, cap, cur, rfl, hB, hg, hnc, hcm, hcs, ht⟩⟩ := h
  · refine ⟨none, 0, by rw [h0], .inl (List.eq_nil_of_length_eq_zero h0), by omega, by omega, fun _ => rfl⟩
  · refine ⟨some ⟨g, 0, none⟩, cap, rfl, .inr ⟨g, 0, rfl, fun i d hi j u hu => ?_⟩, hnc, hcm, fun e => by cases e⟩
    have := World.ownsRow.cells h' (g := g) rfl _ _ (cellsD_get ds i d hi j u hu)
    rw [add_none' _ rfl] at this
    simpa using this
theorem OwnD.nil (w : World) (B : Nat) : OwnD w B (.slice none 0 0) [] := World.ownsRow_nil _ _ _ _
/-- A document as a value. -/
def aggD (d : DT) : Value := .agg #[by8 d.P, by8 d.L, .int .u32 (d.S : Nat), .int .i64 d.Z]
end Go.Proofs.YtpmldopbjlnknaaGreat

/-
  Files (api.File) in a row, as they came in.
-/
namespace Go.Proofs.YtpmldopbjlnknaaGreat
open Go.ChangeShapes Go.WideShapes Go.RowKit Go.Deep

/-- A file: a path, bytes. -/
structure Fil where
  P : List UInt8
  B : List Nat
  pB : Option Addr
  cB : Nat
structure Fil.Ok (w : World) (P : Fil) : Prop where
  lB : P.B.length ≤ P.cB
  mB : P.cB ≤ 9223372036854775807
  nB : P.pB = none → P.cB = 0
  oB : P.cB = 0 ∨ ∃ b off, P.pB = some ⟨b, off, none⟩
  bB : BL w P.pB P.B
theorem Fil.Ok.atB {w : World} {P : Fil} (h : P.Ok w) : ∀ g off s, P.pB = some ⟨g, off, s⟩ → 0 < P.B.length → g < w.heap.size := by
  intro g off s e h0
  obtain ⟨b, o, e', hc⟩ := h.bB.cell h0
  rw [e] at e'; cases e'
  exact block_lt_of_cell (hc 0 h0)
theorem Fil.Ok.kept {w w' : World} {P : Fil} {F : Nat → Prop} (h : P.Ok w) (hk : Kept F w w') (hF : ∀ k, k < w.heap.size → ¬ F k) : P.Ok w' :=
  ⟨h.lB, h.mB, h.nB, h.oB, h.bB.kept0 hk (fun g o s e h0 => hF g (h.atB g o s e h0))⟩
theorem Fil.Ok.below {w w' : World} {P : Fil} (h : P.Ok w) (hb : Below w.heap.size w w') : P.Ok w' := h.kept (Kept.of_below (F := fun _ => False) hb) (fun _ _ h => h)
/-- Files in a row. -/
def Fils (w : World) (a : Option Addr) (n : Nat) (P : Nat → Fil) : Prop :=
  n = 0 ∨ ∃ b off, a = some ⟨b, off, none⟩ ∧ ∀ i, i < n → (w.cell? ⟨b, off + i * 2, none⟩ = some (by8 (P i).P) ∧ w.cell? ⟨b, off + i * 2 + 1, none⟩ = some (.slice (P i).pB (P i).B.length (P i).cB)) ∧ (P i).Ok w
theorem Fils.kept {w w' : World} {a : Option Addr} {n : Nat} {P : Nat → Fil} {F : Nat → Prop} (h : Fils w a n P) (hk : Kept F w w') (hF : ∀ k, k < w.heap.size → ¬ F k) : Fils w' a n P := by
  rcases h with h | ⟨b, off, rfl, hc⟩
  · exact .inl h
  · refine .inr ⟨b, off, rfl, fun i hi => ?_⟩
    obtain ⟨⟨h0, h1⟩, h5⟩ := hc i hi
    have hb := hF b (block_lt_of_cell h0)
    exact ⟨⟨hk.cell h0 hb, hk.cell h1 hb⟩, h5.kept hk hF⟩
theorem Fils.below {w w' : World} {a : Option Addr} {n : Nat} {P : Nat → Fil} (h : Fils w a n P) (hb : Below w.heap.size w w') : Fils w' a n P := h.kept (Kept.of_below (F := fun _ => False) hb) (fun _ _ h => h)
theorem Fils.cells {w : World} {a : Option Addr} {n : Nat} {P : Nat → Fil} (h : Fils w a n P) (i : Nat) (hi : i < n) : ∃ b off, a = some ⟨b, off, none⟩ ∧ (w.cell? ⟨b, off + i * 2, none⟩ = some (by8 (P i).P) ∧ w.cell? ⟨b, off + i * 2 + 1, none⟩ = some (.slice (P i).pB (P i).B.length (P i).cB)) ∧ (P i).Ok w := by
  rcases h with h | ⟨b, off, e, hc⟩
  · omega
  · exact ⟨b, off, e, hc i hi⟩

theorem cells_string : Tryz.prog.cellsOf 9 = 1 := by kernel_rfl
theorem cells_file : Tryz.prog.cellsOf 39 = 2 := by kernel_rfl
section
variable {H : Type} {enc : TypeId × Value → H} {w : World} {base n : Nat} {held : Bool}
set_option maxRecDepth 100000 in
theorem open_file {A : Addr} {cs : List Value} {x : DataW H × List MemPlace} (hA : A.spot = none) (hc : w.cells? base A (Tryz.prog.cellsOf 39) = some cs) (ht : DataW.trod enc Tryz.prog w base (fun _ => true) held n 39 cs = some x) :
    ∃ P : Fil, (w.cell? ⟨A.block, A.off, none⟩ = some (by8 P.P) ∧ w.cell? ⟨A.block, A.off + 1, none⟩ = some (.slice P.pB P.B.length P.cB)) ∧ P.Ok w ∧
      ((∀ y ∈ x.1.weights Tryz.prog 39, y ≤ reachBytes) → P.P.length ≤ 140737488351232 ∧ P.B.length ≤ 140737488351232) := by
  obtain ⟨_, hcl, hat⟩ := World.cells?_some hc
  rw [cells_file] at hcl hat
  obtain ⟨ys, n', _, hy, _, hyl, hf⟩ := DataW.trod_struct Tryz.underlying39 ht
  match cs, hcl with
  | [x0, x1], _ =>
    match ys, hyl with
    | [y0, y1], _ =>
      have f0 : DataW.trod enc Tryz.prog w base (fun _ => true) held n' 9 (([x0, x1].drop 0).take (Tryz.prog.cellsOf 9)) = [y0, y1][0]? := hf 0 _ rfl
      rw [cells_string] at f0
      have f1 : DataW.trod enc Tryz.prog w base (fun _ => true) held n' 26 (([x0, x1].drop 1).take (Tryz.prog.cellsOf 26)) = [y0, y1][1]? := hf 1 _ rfl
      rw [cells_bytes'] at f1
      have a0 := hat 0 (by omega)
      have a1 := hat 1 (by omega)
      simp only [add_none' A hA, Nat.add_zero] at a0 a1
      simp only [List.getElem?_cons_zero, List.getElem?_cons_succ] at a0 a1
      obtain ⟨s, hK, hyK, wK⟩ := DataW.trod_string Tryz.underlying9 (show DataW.trod enc Tryz.prog w base (fun _ => true) held n' 9 [x0] = some y0 from f0)
      cases hK
      obtain ⟨pB, lB, cB, B, hx3, hB, hlB, hmB, hnB, hoB, hbB, hwB⟩ : ∃ (pB : Option Addr) (lB cB : Nat) (B : List Nat), x1 = .slice pB lB cB ∧ B.length = lB ∧ lB ≤ cB ∧ cB ≤ 9223372036854775807 ∧ (pB = none → cB = 0) ∧ (cB = 0 ∨ ∃ b off, pB = some ⟨b, off, none⟩) ∧ BL w pB B ∧ (∀ (hw : ∀ y ∈ y1.1.weights Tryz.prog 26, y ≤ reachBytes), lB ≤ 140737488351232) := by
        rcases open_ints Tryz.underlying26 Tryz.underlying5 (by kernel_rfl) (show DataW.trod enc Tryz.prog w base (fun _ => true) held n' 26 [x1] = some y1 from f1) with ⟨hcs, _⟩ | ⟨a, len, cap, zs, hcs, _, hl, hm, hz, hx, hcell, hwz⟩
        · cases hcs
          exact ⟨none, 0, 0, [], rfl, rfl, by omega, by omega, fun _ => rfl, .inl rfl, BL.mk (by simp) (.inl rfl), fun _ => by omega⟩
        · cases hcs
          have hz' : zs.length = cap := by simpa using hz
          have hrow : IsRow .u8 w (some a) len cap zs := .inr ⟨a, rfl, hl, hm, hz', hcell, hwz⟩
          have haddr := hrow.addr
          obtain ⟨h1, h2, h3, z, hzb⟩ := hrow.byt
          refine ⟨some a, len, cap, tx z len, rfl, tx_length _ _, h1, h2, h3, haddr, hzb.bl, fun hw => ?_⟩
          have := hw ((zs.take len).length + (zs.drop len).length) (by
            rw [hx]
            simp only [DataW.weights, Tryz.underlying26, lits, List.length_map, bytes_u8', Nat.mul_one]
            exact List.mem_cons_self)
          rw [List.length_take, List.length_drop, reach_is'] at this
          omega
      cases hx3
      refine ⟨⟨s.data.toList, B, pB, cB⟩, ⟨by rw [show by8 (⟨s.data.toList, B, pB, cB⟩ : Fil).P = .string s from by8_data s]; exact a0, by rw [hB]; exact a1⟩, ⟨by show B.length ≤ cB; omega, hmB, hnB, hoB, hbB⟩, fun hw => ?_⟩
      have hxx : x.1 = .agg [y0.1, y1.1] := by rw [hy]; rfl
      rw [hxx] at hw
      refine ⟨?_, ?_⟩
      · have := hw s.data.toList.length (by
          simp only [DataW.weights, Tryz.underlying39]
          refine DataW.weights_mem_each (j := 0) (t := 9) (d := y0.1) rfl rfl _ ?_
          rw [hyK]
          simp [DataW.weights])
        rw [reach_is'] at this
        exact this
      · show B.length ≤ _
        rw [hB]
        refine hwB (fun y hm => hw y ?_)
        simp only [DataW.weights, Tryz.underlying39]
        exact DataW.weights_mem_each (j := 1) (t := 26) (d := y1.1) rfl rfl y hm
set_option maxRecDepth 100000 in
theorem open_files {fuel : Nat} {cs : List Value} {x : DataW H × List MemPlace} (h : DataW.trod enc Tryz.prog w base (fun _ => true) held fuel 40 cs = some x) :
    ∃ (a : Option Addr) (len cap : Nat) (P : Nat → Fil), cs = [.slice a len cap] ∧ len ≤ cap ∧ cap ≤ 9223372036854775807 ∧ (a = none → cap = 0) ∧ Fils w a len P ∧
      ((∀ y ∈ x.1.weights Tryz.prog 40, y ≤ reachBytes) → len ≤ 140737488351232 ∧ ∀ i, i < len → (P i).P.length ≤ 140737488351232 ∧ (P i).B.length ≤ 140737488351232) := by
  have hbT : 1 ≤ Tryz.prog.bytesOf 39 := of_decide_eq_true (by kernel_rfl)
  rcases open_slice Tryz.underlying40 h with ⟨hcs, _⟩ | ⟨a, len, cap, m, n', D, Pl, hcs, _, hl, hm, hmm, hx, hi⟩
  · exact ⟨none, 0, 0, fun _ => ⟨[], [], none, 0⟩, hcs, by omega, by omega, fun _ => rfl, .inl rfl, fun _ => ⟨by omega, fun i hi => by omega⟩⟩
  · have hmc : m = cap := by simpa using hmm
    have hm' := hm
    unfold maxLen at hm'
    have hsp : 0 < len → a.spot = none := fun h0 => by
      obtain ⟨cs', hc, _⟩ := hi 0 (by omega)
      obtain ⟨_, hcl, hat⟩ := World.cells?_some hc
      rw [cells_file] at hcl hat
      have h1 := hat 0 (by omega)
      rw [List.getElem?_eq_getElem (by omega)] at h1
      have h2 := World.cell?_spot h1
      obtain ⟨b, o, s⟩ := a
      simpa [Addr.add] using h2
    have key : ∀ i, ∃ P : Fil, i < len → ((w.cell? ⟨a.block, a.off + i * 2, none⟩ = some (by8 P.P) ∧ w.cell? ⟨a.block, a.off + i * 2 + 1, none⟩ = some (.slice P.pB P.B.length P.cB)) ∧ P.Ok w) ∧
        ((∀ y ∈ (D i).weights Tryz.prog 39, y ≤ reachBytes) → P.P.length ≤ 140737488351232 ∧ P.B.length ≤ 140737488351232) := fun i => by
      by_cases hlt : i < len
      · obtain ⟨cs', hc, ht⟩ := hi i (by omega)
        have hsn := hsp (by omega)
        rw [add_none' a hsn] at hc
        obtain ⟨P, h1, h2, h3⟩ := open_file (A := ⟨a.block, a.off + i * Tryz.prog.cellsOf 39, none⟩) rfl hc ht
        simp only [cells_file] at h1
        exact ⟨P, fun _ => ⟨⟨h1, h2⟩, h3⟩⟩
      · exact ⟨⟨[], [], none, 0⟩, fun h => absurd h hlt⟩
    refine ⟨some a, len, cap, fun i => Classical.choose (key i), hcs, hl, hm', (fun e => by cases e), ?_, fun hw => ⟨?_, fun i hlt => ?_⟩⟩
    · rcases Nat.eq_zero_or_pos len with h0 | h0
      · exact .inl h0
      · have hsn := hsp h0
        obtain ⟨b, o, s⟩ := a
        simp only at hsn
        subst hsn
        exact .inr ⟨b, o, rfl, fun i hlt => ⟨(Classical.choose_spec (key i) hlt).1.1, (Classical.choose_spec (key i) hlt).1.2⟩⟩
    · have h1 := hw ((((List.range len).map D).length + ((List.range (m - len)).map fun j => D (len + j)).length) * Tryz.prog.bytesOf 39) (by
        rw [hx]
        simp only [DataW.weights, Tryz.underlying40]
        exact List.mem_cons_self)
      simp only [List.length_map, List.length_range, reach_is'] at h1
      have h2 := Nat.le_mul_of_pos_right (len + (m - len)) hbT
      omega
    · refine (Classical.choose_spec (key i) hlt).2 (fun y hm => hw y ?_)
      rw [hx]
      simp only [DataW.weights, Tryz.underlying40]
      refine List.mem_cons_of_mem _ (List.mem_append_left _ (weightsAll_mem' (List.mem_map.2 ⟨i, List.mem_range.2 hlt, rfl⟩) y hm))
end
end Go.Proofs.YtpmldopbjlnknaaGreat

/-
  Bytes as they came in.
-/
namespace Go.Proofs.YtpmldopbjlnknaaGreat
open Go.RowKit

theorem bytes_row {w : World} {a : Option Addr} {len cap : Nat} {zs : List Int} (h : IsRow .u8 w a len cap zs) : ∃ L, L.length = len ∧ len ≤ cap ∧ cap ≤ 9223372036854775807 ∧ (a = none → cap = 0) ∧ (cap = 0 ∨ ∃ b off, a = some ⟨b, off, none⟩) ∧ BL w a L := by
  obtain ⟨hl, hm, hn, z, hz⟩ := h.byt
  exact ⟨tx z len, tx_length _ _, hl, hm, hn, h.addr, hz.bl⟩
end Go.Proofs.YtpmldopbjlnknaaGreat
