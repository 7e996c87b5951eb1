/-
  Manifests: their bytes, what is read of bytes (plain Lean).
-/
import Derived.Test.YtppdbinppibjhaaGreatDoorFMath
import Derived.Lib.ItoaMem
import Derived.Lib.ItoaLen
import Derived.Lib.AtoiTie
import Derived.Lib.Strings
set_option linter.unusedVariables false
set_option linter.unusedSimpArgs false
namespace Go.Proofs.YtppdbinppibjhaaGreatDoor
theorem numIs {most : Int} {L M : List Nat} {v : Nat} (hL : ∀ b ∈ L, b < 256) (h : getNum most (some L) = (v, some M)) : L = encN v ++ M ∧ (v : Int) ≤ most ∧ v ≤ maxNum := by
 obtain ⟨k, h1, rfl, h2, h3⟩ := getNum_some h
 refine ⟨?_, h2, h3⟩
 rw [← (pN_canon 6 0 L v k hL h1).1, List.take_append_drop]
theorem fixIs {L M : List Nat} {v : Nat} (hL : ∀ b ∈ L, b < 256) (h : getFix (some L) = (v, some M)) : L = fixB v ++ M ∧ v < 4294967296 := by
 by_cases h4 : L.length < 4
 ·simp [getFix, h4] at h
 ·have h5 : (getFix (some L)).1 = v := by rw [h]
  have h6 := getFix_take L (by omega)
  have h7 := fix_getFix (L.take 4) (by simp; omega) (fun b hb => hL b (List.mem_of_mem_take hb))
  have h8 : M = L.drop 4 := by simp [getFix, h4] at h; exact h.2.symm
  rw [← h6, h5] at h7
  refine ⟨by rw [h7, h8, List.take_append_drop], ?_⟩
  have hg : ∀ i, L.getD i 0 < 256 := fun i => by
   rw [List.getD_eq_getElem?_getD]
   by_cases hi : i < L.length
   ·rw [List.getElem?_eq_getElem hi]; exact hL _ (List.getElem_mem hi)
   ·rw [List.getElem?_eq_none (by omega)]; decide
  unfold getFix at h5
  simp only at h5
  rw [if_neg h4] at h5
  have h5' : L.getD 0 0 + L.getD 1 0 * 256 + L.getD 2 0 * 65536 + L.getD 3 0 * 16777216 = v := h5
  have g0 := hg 0; have g1 := hg 1; have g2 := hg 2; have g3 := hg 3
  omega
def upToR (most : Int) : Int → List Int → Bool
 | _, [] => true
 | l, d :: r => (decide (l < d) && decide (d ≤ most)) && upToR most d r
def encRow : Int → List Int → List Nat
 | _, [] => []
 | l, d :: r => encN (d - l - 1).toNat ++ encRow d r
theorem getRow_l (most : Int) (hm : most ≤ maxNum) (rest : List Nat) : ∀ (D : List Int) (l : Int), -1 ≤ l → upToR most l D = true → getRow most D.length l (some (encRow l D ++ rest)) = some (D, rest)
 | [], l, _, _ => by simp [getRow, encRow]
 | d :: r, l, hl, h => by
   simp only [upToR, Bool.and_eq_true, decide_eq_true_eq] at h
   obtain ⟨⟨h1, h2⟩, h3⟩ := h
   have h4 : ((d - l - 1).toNat : Int) = d - l - 1 := Int.toNat_of_nonneg (by omega)
   have hmin : min most (maxNum : Int) = most := Int.min_eq_left hm
   have hn := getNum_put (d - l - 1).toNat (min most maxNum - l - 1) (encRow d r ++ rest) (by rw [h4, hmin]; omega) (by unfold maxNum at hm ⊢; omega)
   have ih := getRow_l most hm rest r d (by omega) h3
   show getRow most (r.length + 1) l (some (encRow l (d :: r) ++ rest)) = _
   rw [encRow, List.append_assoc]
   unfold getRow
   rw [hn]
   simp only
   rw [h4, show l + 1 + (d - l - 1) = d by omega, ih]
   rfl
theorem getRow_is (most : Int) (hm : most ≤ maxNum) : ∀ (k : Nat) (l : Int) (M R : List Nat) (D : List Int), (∀ b ∈ M, b < 256) → getRow most k l (some M) = some (D, R) → M = encRow l D ++ R ∧ D.length = k ∧ upToR most l D = true
 | 0, l, M, R, D, _, h => by
   simp [getRow] at h
   obtain ⟨rfl, rfl⟩ := h
   exact ⟨rfl, rfl, rfl⟩
 | k + 1, l, M, R, D, hM, h => by
   unfold getRow at h
   have hmin : min most (maxNum : Int) = most := Int.min_eq_left hm
   cases hn : getNum (min most maxNum - l - 1) (some M) with
   | mk g S =>
     rw [hn] at h
     cases S with
     | none => simp at h
     | some L' =>
       simp only at h
       obtain ⟨e1, h2, h3⟩ := numIs hM hn
       have hL' : ∀ b ∈ L', b < 256 := fun b hb => hM b (by rw [e1]; simp [hb])
       obtain ⟨x, hx, hxe⟩ := Option.map_eq_some_iff.1 h
       obtain ⟨D', R'⟩ := x
       simp only [Prod.mk.injEq] at hxe
       obtain ⟨rfl, rfl⟩ := hxe
       obtain ⟨e4, h5, h6⟩ := getRow_is most hm k (l + 1 + g) L' R' D' hL' hx
       rw [hmin] at h2
       refine ⟨?_, by simp [h5], ?_⟩
       ·rw [encRow, show (l + 1 + (g : Int) - l - 1).toNat = g by omega, List.append_assoc, ← e4, ← e1]
       ·simp only [upToR, Bool.and_eq_true, decide_eq_true_eq]
        exact ⟨⟨by omega, by omega⟩, h6⟩
def encRise (D : List Int) : List Nat := encN D.length ++ encRow (-1) D
theorem getRising_l (many most : Int) (hm : most ≤ maxNum) (hM : many ≤ maxNum) (D : List Int) (rest : List Nat) (hl : (D.length : Int) ≤ many) (h : upToR most (-1) D = true) : getRising many most (some (encRise D ++ rest)) = (D, some rest) := by
 unfold getRising encRise
 rw [List.append_assoc, getNum_put D.length many _ hl (by omega)]
 simp only
 rw [getRow_l most hm rest D (-1) (by omega) h]
theorem getRising_is (many most : Int) (hm : most ≤ maxNum) {M R : List Nat} {D : List Int} (hM : ∀ b ∈ M, b < 256) (h : getRising many most (some M) = (D, some R)) : M = encRise D ++ R ∧ (D.length : Int) ≤ many ∧ upToR most (-1) D = true := by
 unfold getRising at h
 cases hn : getNum many (some M) with
 | mk n S =>
   rw [hn] at h
   simp only at h
   cases S with
   | none => cases n <;> simp [getRow] at h
   | some M1 =>
     obtain ⟨e1, h2, h3⟩ := numIs hM hn
     have hM1 : ∀ b ∈ M1, b < 256 := fun b hb => hM b (by rw [e1]; simp [hb])
     cases hg : getRow most n (-1) (some M1) with
     | none => rw [hg] at h; simp at h
     | some x =>
       obtain ⟨D', R'⟩ := x
       rw [hg] at h
       simp only [Prod.mk.injEq, Option.some.injEq] at h
       obtain ⟨rfl, rfl⟩ := h
       obtain ⟨e4, h5, h6⟩ := getRow_is most hm n (-1) M1 R' D' hM1 hg
       refine ⟨?_, by rw [h5]; exact h2, h6⟩
       unfold encRise
       rw [h5, List.append_assoc, ← e4]
       exact e1
theorem getRising_none (many most : Int) : getRising many most none = ([], none) := by
 simp [getRising, getNum, getRow]
theorem upToR_get (most : Int) : ∀ (D : List Int) (l : Int), upToR most l D = true → ∀ k, k < D.length → ((match k with | 0 => l | j + 1 => D.getD j 0) < D.getD k 0) ∧ D.getD k 0 ≤ most
 | [], _, _, k, hk => by simp at hk
 | d :: r, l, h, 0, _ => by
   simp only [upToR, Bool.and_eq_true, decide_eq_true_eq] at h
   exact ⟨by simpa using h.1.1, by simpa using h.1.2⟩
 | d :: r, l, h, k + 1, hk => by
   simp only [upToR, Bool.and_eq_true, decide_eq_true_eq] at h
   have := upToR_get most r d h.2 k (by simpa using hk)
   cases k with
   | zero => simpa using this
   | succ k => simpa using this
theorem upToR_rises {most : Int} {D : List Int} (hm : most ≤ maxNum) (h : upToR most (-1) D = true) : rises (fun i => D.getD i 0) D.length := by
 intro k hk
 have := upToR_get most D (-1) h k hk
 cases k with
 | zero => exact ⟨by simpa [ahead] using this.1, Int.le_trans this.2 hm⟩
 | succ k => exact ⟨by simpa [ahead] using this.1, Int.le_trans this.2 hm⟩
theorem gp_row (f : Nat → Int) : ∀ (D : List Int) (i : Nat), (∀ k, k < D.length → f (i + k) = D.getD k 0) → gp f i D.length = encRow (ahead f i) D
 | [], i, _ => rfl
 | d :: r, i, h => by
   have h0 : f i = d := by simpa using h 0 (by simp)
   show gp f i (r.length + 1) = _
   unfold gp
   rw [gp_row f r (i + 1) (fun k hk => by
    have := h (k + 1) (by simpa using hk)
    rw [show i + 1 + k = i + (k + 1) by omega, this]
    simp), encRow, h0]
   rw [show ahead f (i + 1) = f i from rfl, h0]
theorem putRising_l {most : Int} {D : List Int} (xs : List Nat) (hm : most ≤ maxNum) (hl : D.length ≤ maxNum) (h : upToR most (-1) D = true) : putRising (some xs) (fun i => D.getD i 0) D.length = some (xs ++ encRise D) := by
 unfold putRising
 have h1 : putNum (some xs) (D.length : Nat) = some (xs ++ encN D.length) := by
  unfold putNum
  simp only
  rw [if_pos ⟨by omega, by omega⟩]
  rfl
 rw [h1, putRow_rises _ _ _ (upToR_rises hm h), gp_row _ D 0 (fun k _ => by simp)]
 unfold encRise
 simp [ahead]
structure ST where
 N : Int
 Z : Int
 S : Nat
 D : List Int
structure MT where
 G : Int
 L : List ST
def okS (gen last : Int) (s : ST) : Bool := ((decide (last < s.N) && decide (s.N ≤ gen)) && (decide (0 ≤ s.Z) && decide (s.Z ≤ 67108864))) && upToR 3999 (-1) s.D
def rightS (gen : Int) : Int → List ST → Bool
 | _, [] => true
 | l, s :: r => okS gen l s && rightS gen s.N r
def rightM (m : MT) : Bool := ((decide (0 ≤ m.G) && decide (m.G ≤ maxNum)) && decide (m.L.length ≤ 40)) && rightS m.G 0 m.L
def encS (s : ST) : List Nat := encN s.N.toNat ++ (encN s.Z.toNat ++ (fixB s.S ++ encRise s.D))
def bodyS : List ST → List Nat
 | [] => []
 | s :: r => encS s ++ bodyS r
theorem bodyS_snoc (a : List ST) (s : ST) : bodyS (a ++ [s]) = bodyS a ++ encS s := by
 induction a with
 | nil => simp [bodyS]
 | cons x r ih => simp [bodyS, ih]
def partM (m : MT) : List Nat := encN m.G.toNat ++ (encN m.L.length ++ bodyS m.L)
def fileM (m : MT) : List Nat := fileB [(1, partM m)]
def shardsG : Nat → Option (List Nat) → List ST × Option (List Nat)
 | 0, S => ([], S)
 | _ + 1, none => ([], none)
 | k + 1, some M =>
   let n := getNum maxNum (some M)
   let z := getNum 67108864 n.2
   let s := getFix z.2
   let d := getRising 4000 3999 s.2
   let r := shardsG k d.2
   (⟨(n.1 : Int), (z.1 : Int), s.1, d.1⟩ :: r.1, r.2)
theorem shardsG_none : ∀ k, (shardsG k none).2 = none
 | 0 => rfl
 | _ + 1 => rfl
theorem upToR_len (most : Int) : ∀ (D : List Int) (l : Int), upToR most l D = true → D ≠ [] → l + D.length ≤ most
 | [], _, _, h => absurd rfl h
 | d :: r, l, h, _ => by
   simp only [upToR, Bool.and_eq_true, decide_eq_true_eq] at h
   by_cases hr : r = []
   ·subst hr; simp; omega
   ·have := upToR_len most r d h.2 hr
    simp only [List.length_cons]
    omega
theorem dead_len {D : List Int} (h : upToR 3999 (-1) D = true) : D.length ≤ 4000 := by
 by_cases hD : D = []
 ·subst hD; simp
 ·have := upToR_len 3999 D (-1) h hD; omega
def okST (s : ST) : Prop := 0 ≤ s.N ∧ s.N ≤ maxNum ∧ 0 ≤ s.Z ∧ s.Z ≤ 67108864 ∧ s.S < 4294967296 ∧ upToR 3999 (-1) s.D = true
theorem shardsG_put : ∀ (L : List ST) (rest : List Nat), (∀ s ∈ L, okST s) → shardsG L.length (some (bodyS L ++ rest)) = (L, some rest)
 | [], rest, _ => rfl
 | s :: r, rest, h => by
   obtain ⟨h1, h2, h3, h4, h5, h6⟩ := h s List.mem_cons_self
   have ih := shardsG_put r rest (fun x hx => h x (List.mem_cons_of_mem _ hx))
   have e1 : bodyS (s :: r) ++ rest = encN s.N.toNat ++ (encN s.Z.toNat ++ (fixB s.S ++ (encRise s.D ++ (bodyS r ++ rest)))) := by
    simp [bodyS, encS]
   show shardsG (r.length + 1) (some (bodyS (s :: r) ++ rest)) = (s :: r, some rest)
   rw [e1]
   unfold shardsG
   simp only
   rw [getNum_put _ _ _ (by omega) (by omega)]
   simp only
   rw [getNum_put _ _ _ (by omega) (by unfold maxNum; omega)]
   simp only
   rw [getFix_put _ _ h5]
   simp only
   rw [getRising_l 4000 3999 (by decide) (by decide) _ _ (by have := dead_len h6; omega) h6]
   simp only
   rw [ih, Int.toNat_of_nonneg h1, Int.toNat_of_nonneg h3]
theorem shardsG_is : ∀ (k : Nat) (M R : List Nat) (L : List ST), (∀ b ∈ M, b < 256) → shardsG k (some M) = (L, some R) → M = bodyS L ++ R ∧ L.length = k ∧ ∀ s ∈ L, okST s
 | 0, M, R, L, _, h => by
   simp [shardsG] at h
   obtain ⟨rfl, rfl⟩ := h
   exact ⟨by simp [bodyS], rfl, fun d hd => by cases hd⟩
 | k + 1, M, R, L, hM, h => by
   unfold shardsG at h
   simp only [Prod.mk.injEq] at h
   obtain ⟨rfl, h⟩ := h
   cases hn : getNum maxNum (some M) with
   | mk a T1 =>
     rw [hn] at h
     cases T1 with
     | none => simp only [getFix, getNum] at h; rw [getRising_none, shardsG_none] at h; cases h
     | some M1 =>
       obtain ⟨e1, h1, _⟩ := numIs hM hn
       have hM1 : ∀ b ∈ M1, b < 256 := fun x hx => hM x (by rw [e1]; simp [hx])
       simp only at h ⊢
       cases hz : getNum 67108864 (some M1) with
       | mk z T2 =>
         rw [hz] at h
         cases T2 with
         | none => simp only [getFix] at h; rw [getRising_none, shardsG_none] at h; cases h
         | some M2 =>
           obtain ⟨e2, h2, _⟩ := numIs hM1 hz
           have hM2 : ∀ b ∈ M2, b < 256 := fun x hx => hM1 x (by rw [e2]; simp [hx])
           simp only at h ⊢
           cases hs : getFix (some M2) with
           | mk s T3 =>
             rw [hs] at h
             cases T3 with
             | none => simp only at h; rw [getRising_none, shardsG_none] at h; cases h
             | some M3 =>
               obtain ⟨e3, h3⟩ := fixIs hM2 hs
               have hM3 : ∀ b ∈ M3, b < 256 := fun x hx => hM2 x (by rw [e3]; simp [hx])
               simp only at h ⊢
               cases hd : getRising 4000 3999 (some M3) with
               | mk d T4 =>
                 rw [hd] at h
                 cases T4 with
                 | none => simp only at h; rw [shardsG_none] at h; cases h
                 | some M4 =>
                   obtain ⟨e4, h4, h5⟩ := getRising_is 4000 3999 (by decide) hM3 hd
                   have hM4 : ∀ b ∈ M4, b < 256 := fun x hx => hM3 x (by rw [e4]; simp [hx])
                   simp only at h ⊢
                   obtain ⟨e5, hk, hok⟩ := shardsG_is k M4 R _ hM4 (Prod.ext rfl h)
                   refine ⟨?_, by simp [hk], ?_⟩
                   ·rw [e1, e2, e3, e4]
                    conv => lhs; rw [e5]
                    simp [bodyS, encS]
                   ·intro x hx
                    rcases List.mem_cons.1 hx with rfl | hx
                    ·exact ⟨by show (0 : Int) ≤ (a : Int); omega, h1, by show (0 : Int) ≤ (z : Int); omega, h2, h3, h5⟩
                    ·exact hok x hx
def getMP (P : List Nat) : Option MT :=
 let g := getNum maxNum (some P)
 let n := getNum 40 g.2
 match shardsG n.1 n.2 with
 | (L, some []) => if rightM ⟨(g.1 : Int), L⟩ = true then some ⟨(g.1 : Int), L⟩ else none
 | _ => none
def getM (B : List Nat) : Option MT :=
 match getFile B with
 | some [p] => if p.1 = 1 then getMP p.2 else none
 | _ => none
theorem rightS_ok {gen : Int} (hg : gen ≤ maxNum) : ∀ {l : Int} {L : List ST}, 0 ≤ l → rightS gen l L = true → (∀ s ∈ L, s.S < 4294967296) → ∀ s ∈ L, okST s
 | _, [], _, _, _ => fun s hs => by cases hs
 | l, x :: r, hl, h, hS => fun s hs => by
   simp only [rightS, okS, Bool.and_eq_true, decide_eq_true_eq] at h
   obtain ⟨⟨⟨⟨h1, h2⟩, h3, h4⟩, h5⟩, h6⟩ := h
   rcases List.mem_cons.1 hs with rfl | hs
   ·exact ⟨by omega, by omega, h3, h4, hS _ List.mem_cons_self, h5⟩
   ·exact rightS_ok hg (by omega) h6 (fun y hy => hS y (List.mem_cons_of_mem _ hy)) s hs
theorem rightM_ok {m : MT} (h : rightM m = true) (hS : ∀ s ∈ m.L, s.S < 4294967296) : (∀ s ∈ m.L, okST s) ∧ 0 ≤ m.G ∧ m.G ≤ maxNum ∧ m.L.length ≤ 40 := by
 simp only [rightM, Bool.and_eq_true, decide_eq_true_eq] at h
 exact ⟨rightS_ok h.1.1.2 (Int.le_refl 0) h.2 hS, h.1.1.1, h.1.1.2, h.1.2⟩
theorem encRow_len (most : Int) (hm : most ≤ maxNum) : ∀ (D : List Int) (l : Int), -1 ≤ l → upToR most l D = true → (encRow l D).length ≤ 6 * D.length
 | [], _, _, _ => by simp [encRow]
 | d :: r, l, hl, h => by
   simp only [upToR, Bool.and_eq_true, decide_eq_true_eq] at h
   have h1 := encRow_len most hm r d (by omega) h.2
   have h2 := encN_len6 (n := (d - l - 1).toNat) (by unfold maxNum at hm ⊢; omega)
   simp only [encRow, List.length_append, List.length_cons]
   omega
theorem encS_len {s : ST} (h : okST s) : (encS s).length ≤ 24022 := by
 obtain ⟨h1, h2, h3, h4, h5, h6⟩ := h
 have a1 := encN_len6 (n := s.N.toNat) (by omega)
 have a2 := encN_len6 (n := s.Z.toNat) (by unfold maxNum; omega)
 have a3 := dead_len h6
 have a4 := encN_len6 (n := s.D.length) (by unfold maxNum; omega)
 have a5 := encRow_len 3999 (by decide) s.D (-1) (by omega) h6
 simp only [encS, encRise, List.length_append, fixB_len]
 omega
theorem bodyS_len : ∀ L : List ST, (∀ s ∈ L, okST s) → (bodyS L).length ≤ 24022 * L.length
 | [], _ => by simp [bodyS]
 | s :: r, h => by
   have h1 := encS_len (h s List.mem_cons_self)
   have h2 := bodyS_len r (fun x hx => h x (List.mem_cons_of_mem _ hx))
   simp only [bodyS, List.length_append, List.length_cons]
   omega
theorem partM_len {m : MT} (h : rightM m = true) (hS : ∀ s ∈ m.L, s.S < 4294967296) : (partM m).length ≤ 960892 := by
 obtain ⟨h1, h2, h3, h4⟩ := rightM_ok h hS
 have a1 := encN_len6 (n := m.G.toNat) (by omega)
 have a2 := encN_len6 (n := m.L.length) (by unfold maxNum; omega)
 have a3 := bodyS_len m.L h1
 simp only [partM, List.length_append]
 omega
theorem encRow_lt : ∀ (D : List Int) (l : Int), ∀ b ∈ encRow l D, b < 256
 | [], _ => fun b hb => by cases hb
 | d :: r, l => fun b hb => by
   rw [encRow] at hb
   rcases List.mem_append.1 hb with h | h
   ·exact encN_lt _ b h
   ·exact encRow_lt r d b h
theorem partM_lt (m : MT) : ∀ b ∈ partM m, b < 256 := by
 have hb : ∀ L : List ST, ∀ b ∈ bodyS L, b < 256 := by
  intro L
  induction L with
  | nil => intro b hb; cases hb
  | cons s r ih =>
    intro b hb
    simp only [bodyS, encS, encRise, List.append_assoc] at hb
    simp only [List.mem_append] at hb
    rcases hb with h | h | h | h | h | h
    ·exact encN_lt _ b h
    ·exact encN_lt _ b h
    ·exact fixB_lt _ b h
    ·exact encN_lt _ b h
    ·exact encRow_lt _ _ b h
    ·exact ih b h
 intro b h
 simp only [partM, List.mem_append] at h
 rcases h with h | h | h
 ·exact encN_lt _ b h
 ·exact encN_lt _ b h
 ·exact hb _ b h
theorem getMP_put {m : MT} (h : rightM m = true) (hS : ∀ s ∈ m.L, s.S < 4294967296) : getMP (partM m) = some m := by
 obtain ⟨h1, h2, h3, h4⟩ := rightM_ok h hS
 unfold getMP partM
 rw [getNum_put _ _ _ (by omega) (by omega)]
 simp only
 rw [getNum_put _ _ _ (by omega) (by unfold maxNum; omega)]
 simp only
 have hp := shardsG_put m.L [] h1
 rw [List.append_nil] at hp
 rw [hp, Int.toNat_of_nonneg h2]
 simp only
 rw [if_pos h]
theorem getM_put {m : MT} (h : rightM m = true) (hS : ∀ s ∈ m.L, s.S < 4294967296) : getM (fileM m) = some m := by
 have hl := partM_len h hS
 have hp : ∀ p ∈ [((1 : Nat), partM m)], p.2.length ≤ maxDisk := fun p hp => by
  rw [List.mem_singleton] at hp
  subst hp
  unfold maxDisk
  show (partM m).length ≤ _
  omega
 have hs : sizeB [((1 : Nat), partM m)] ≤ maxDisk := by
  have := encN_len6 (n := (partM m).length) (by unfold maxNum; omega)
  simp only [sizeB, bodyB, partB, headP, List.length_append, List.length_cons, List.length_nil]
  unfold maxDisk
  omega
 unfold getM fileM
 rw [getFile_put _ hs hp]
 simp only
 rw [if_pos trivial, getMP_put h hS]
open Go.Lib
theorem nDigits_low : ∀ u : Nat, 1 ≤ u → 10 ^ (nDigits u - 1) ≤ u := by
 intro u
 induction u using Nat.strongRecOn with
 | _ u ih =>
   intro h1
   by_cases h : u < 10
   ·rw [nDigits_small h]; simpa using h1
   ·rw [nDigits_big h]
    have h2 := ih (u / 10) (by omega) (by omega)
    have h3 := nDigits_pos (u / 10)
    obtain ⟨k, hk⟩ : ∃ k, nDigits (u / 10) = k + 1 := ⟨nDigits (u / 10) - 1, by omega⟩
    rw [hk] at h2 ⊢
    simp only [Nat.add_sub_cancel] at h2 ⊢
    rw [Nat.pow_succ]
    omega
theorem nDigits_le {u k : Nat} (h : u < 10 ^ k) (hk : 1 ≤ k) : nDigits u ≤ k := by
 rcases Nat.eq_zero_or_pos u with h0 | h0
 ·subst h0; rw [nDigits_small (by decide)]; exact hk
 ·have h1 := nDigits_low u h0
  rcases Nat.lt_or_ge k (nDigits u) with h2 | h2
  ·have := Nat.pow_le_pow_right (n := 10) (by decide) (show k ≤ nDigits u - 1 by omega)
   omega
  ·exact h2
def maxName : Int := 1099511627776
theorem itoa_len {n : Int} (h0 : 0 ≤ n) (h1 : n ≤ maxName) : (itoa n).length ≤ 13 := by
 obtain ⟨u, rfl⟩ : ∃ u : Nat, n = u := ⟨n.toNat, by omega⟩
 rw [itoa_nonneg, decDigits_length]
 unfold maxName at h1
 exact nDigits_le (by omega) (by decide)
def nameN (n : Int) : List UInt8 := if 1 ≤ n ∧ n ≤ maxName then [115, 46] ++ itoa n else []
def numN (name : List UInt8) : Option Int :=
 match atoiAll (trimPrefix name [115, 46]) with
 | .ok v => if nameN v = name then some v else none
 | _ => none
theorem nameN_pos {n : Int} (h0 : 1 ≤ n) (h1 : n ≤ maxName) : nameN n = [115, 46] ++ itoa n := if_pos ⟨h0, h1⟩
end Go.Proofs.YtppdbinppibjhaaGreatDoor
