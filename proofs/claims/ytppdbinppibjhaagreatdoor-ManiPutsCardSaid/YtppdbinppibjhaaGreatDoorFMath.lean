/-
  Mathematics of frame: a file's bytes; the parts whose file bytes are; bursts.
-/
import Derived.Test.YtppdbinppibjhaaGreatDoorMaths
import Derived.Test.YtppdbinppibjhaaGreatDoorFoot
set_option linter.unusedVariables false
set_option linter.unusedSimpArgs false
namespace Go.Proofs.YtppdbinppibjhaaGreatDoor
abbrev PT := Nat × List Nat
def maxDisk : Nat := 67108864
def headP (t n : Nat) : List Nat := t :: encN n
def partB (p : PT) : List Nat := headP p.1 p.2.length ++ p.2
def bodyB : List PT → List Nat
 | [] => []
 | p :: r => partB p ++ bodyB r
theorem bodyB_append (a b : List PT) : bodyB (a ++ b) = bodyB a ++ bodyB b := by
 induction a with
 | nil => rfl
 | cons p a ih => simp [bodyB, ih, List.append_assoc]
theorem bodyB_snoc (a : List PT) (p : PT) : bodyB (a ++ [p]) = bodyB a ++ partB p := by rw [bodyB_append]; simp [bodyB]
def okPart (p : PT) : Prop := p.1 < 256 ∧ (∀ b ∈ p.2, b < 256) ∧ p.2.length ≤ maxNum
theorem partB_lt {p : PT} (h : okPart p) : ∀ b ∈ partB p, b < 256 := by
 intro b hb
 simp only [partB, headP, List.cons_append, List.mem_cons, List.mem_append] at hb
 rcases hb with rfl | hb | hb
 ·exact h.1
 ·exact encN_lt _ b hb
 ·exact h.2.1 b hb
theorem bodyB_lt {ps : List PT} (h : ∀ p ∈ ps, okPart p) : ∀ b ∈ bodyB ps, b < 256 := by
 induction ps with
 | nil => intro b hb; cases hb
 | cons p r ih =>
   intro b hb
   rcases List.mem_append.1 hb with hb | hb
   ·exact partB_lt (h p List.mem_cons_self) b hb
   ·exact ih (fun q hq => h q (List.mem_cons_of_mem _ hq)) b hb
def crcL (L : List Nat) : Nat := sumN (fun i => L.getD i 0) L.length
theorem crcL_lt (L : List Nat) : crcL L < 4294967296 := sumN_lt _ _
def sizeB (ps : List PT) : Nat := (bodyB ps).length + 8
def aheadB (ps : List PT) : List Nat := fixB (sizeB ps) ++ bodyB ps
def fileB (ps : List PT) : List Nat := aheadB ps ++ fixB (crcL (aheadB ps))
theorem fixB_len (n : Nat) : (fixB n).length = 4 := rfl
theorem fileB_len (ps : List PT) : (fileB ps).length = sizeB ps := by
 simp [fileB, aheadB, sizeB, fixB_len]; omega
theorem aheadB_len (ps : List PT) : (aheadB ps).length = sizeB ps - 4 := by simp [aheadB, sizeB, fixB_len]; omega
theorem fileB_lt {ps : List PT} (h : ∀ p ∈ ps, okPart p) : ∀ b ∈ fileB ps, b < 256 := by
 intro b hb
 simp only [fileB, aheadB, List.mem_append] at hb
 rcases hb with (hb | hb) | hb
 ·exact fixB_lt _ b hb
 ·exact bodyB_lt h b hb
 ·exact fixB_lt _ b hb
/-! ### What parts bytes are -/
def getPart : List Nat → Option (PT × List Nat)
 | [] => none
 | t :: r => match getText maxDisk (some r) with
   | (_, none) => none
   | (b, some r') => some ((t, b), r')
def getPs : Nat → List Nat → Option (List PT)
 | _, [] => some []
 | 0, _ :: _ => none
 | f + 1, t :: r => match getPart (t :: r) with
   | none => none
   | some (p, r') => (getPs f r').map (p :: ·)
def getP (L : List Nat) : Option (List PT) := getPs L.length L
theorem pN_take (f : Nat) : ∀ (m i : Nat) (L : List Nat), f ≤ m → pN f i (L.take m) = pN f i L := by
 induction f with
 | zero => intro m i L _; cases L <;> rfl
 | succ f ih =>
   intro m i L hm
   obtain ⟨m, rfl⟩ : ∃ k, m = k + 1 := ⟨m - 1, by omega⟩
   cases L with
   | nil => rfl
   | cons b r => simp only [List.take_succ_cons, pN, ih m (i + 1) r (by omega)]
theorem pN_cut (f : Nat) : ∀ (m i : Nat) (L : List Nat) (v k : Nat), pN f i L = some (v, k) → k ≤ m → pN f i (L.take m) = some (v, k) := by
 induction f with
 | zero => intro m i L v k h; cases L <;> cases h
 | succ f ih =>
   intro m i L v k h hk
   have hl := pN_len (f + 1) i L v k h
   obtain ⟨m, rfl⟩ : ∃ k, m = k + 1 := ⟨m - 1, by omega⟩
   cases L with
   | nil => cases h
   | cons b r =>
     simp only [List.take_succ_cons, pN] at h ⊢
     by_cases hb : b < 128
     ·simp only [if_pos hb] at h ⊢; exact h
     ·simp only [if_neg hb] at h ⊢
      cases hp : pN f (i + 1) r with
      | none => rw [hp] at h; cases h
      | some x =>
        rw [hp] at h
        simp at h
        rw [ih m (i + 1) r x.1 x.2 (by rw [hp]) (by omega)]
        simp; omega
theorem pN_canon (f : Nat) : ∀ (i : Nat) (L : List Nat) (v k : Nat), (∀ b ∈ L, b < 256) → pN f i L = some (v, k) → L.take k = encN v ∧ (0 < i → 0 < v) := by
 induction f with
 | zero => intro i L v k _ h; cases L <;> cases h
 | succ f ih =>
   intro i L v k hL h
   cases L with
   | nil => cases h
   | cons b r =>
     simp only [pN] at h
     have hb := hL b List.mem_cons_self
     split at h
     ·split at h
      ·cases h
      ·cases h
       refine ⟨by rw [encN_lo (by assumption)]; simp, fun hi => by omega⟩
     ·cases hp : pN f (i + 1) r with
      | none => rw [hp] at h; cases h
      | some x =>
        rw [hp] at h
        simp at h
        obtain ⟨h1, h2⟩ := ih (i + 1) r x.1 x.2 (fun c hc => hL c (List.mem_cons_of_mem _ hc)) (by rw [hp])
        have h3 := h2 (by omega)
        obtain ⟨rfl, rfl⟩ := h
        rw [encN_hi (by omega)]
        refine ⟨?_, fun _ => by omega⟩
        rw [List.take_succ_cons, h1]
        congr 1
        ·omega
        ·congr 1; omega
theorem getNum_some {most : Int} {L M : List Nat} {v : Nat} (h : getNum most (some L) = (v, some M)) : ∃ k, pN 6 0 L = some (v, k) ∧ M = L.drop k ∧ (v : Int) ≤ most ∧ v ≤ maxNum := by
 unfold getNum at h
 cases hp : pN 6 0 L with
 | none => simp [hp] at h
 | some x =>
   obtain ⟨a, k⟩ := x
   simp only [hp] at h
   split at h
   ·rename_i hc
    simp only [Prod.mk.injEq, Option.some.injEq] at h
    exact ⟨k, by rw [h.1], h.2.symm, by rw [← h.1]; exact hc.1, by rw [← h.1]; exact hc.2⟩
   ·simp at h
theorem getNum_at {most : Int} {L : List Nat} {v k : Nat} (h : pN 6 0 L = some (v, k)) (h1 : (v : Int) ≤ most) (h2 : v ≤ maxNum) : getNum most (some L) = (v, some (L.drop k)) := by
 unfold getNum; simp only [h]; rw [if_pos ⟨h1, h2⟩]
theorem getNum_off {most : Int} {L : List Nat} (h : ∀ v k, pN 6 0 L = some (v, k) → ¬ ((v : Int) ≤ most ∧ v ≤ maxNum)) : getNum most (some L) = (0, none) := by
 unfold getNum
 cases hp : pN 6 0 L with
 | none => simp only [hp]
 | some x => obtain ⟨v, k⟩ := x; simp only [hp]; rw [if_neg (h v k hp)]
theorem getText_at {most : Int} {L : List Nat} {v k : Nat} (h : pN 6 0 L = some (v, k)) (h1 : (v : Int) ≤ most) (h2 : v ≤ maxNum) :
  getText most (some L) = if (L.drop k).length < v then ([], none) else ((L.drop k).take v, some ((L.drop k).drop v)) := by
 unfold getText; rw [getNum_at h h1 h2]
theorem getText_off {most : Int} {L : List Nat} (h : ∀ v k, pN 6 0 L = some (v, k) → ¬ ((v : Int) ≤ most ∧ v ≤ maxNum)) : getText most (some L) = ([], none) := by
 unfold getText; rw [getNum_off h]
theorem getPart_cases (t : Nat) (r : List Nat) :
  (∃ v k, pN 6 0 r = some (v, k) ∧ v ≤ maxDisk ∧ getPart (t :: r) = if (r.drop k).length < v then none else some ((t, (r.drop k).take v), (r.drop k).drop v)) ∨
  ((∀ v k, pN 6 0 r = some (v, k) → maxDisk < v) ∧ getPart (t :: r) = none) := by
 by_cases h : ∃ v k, pN 6 0 r = some (v, k) ∧ v ≤ maxDisk
 ·obtain ⟨v, k, h1, h2⟩ := h
  refine .inl ⟨v, k, h1, h2, ?_⟩
  have h3 : v ≤ maxNum := by unfold maxDisk at h2; unfold maxNum; omega
  show (match getText maxDisk (some r) with | (_, none) => none | (b, some r') => some ((t, b), r')) = _
  rw [getText_at h1 (by omega) h3]
  by_cases hc : (r.drop k).length < v
  ·rw [if_pos hc, if_pos hc]
  ·rw [if_neg hc, if_neg hc]
 ·refine .inr ⟨fun v k hp => ?_, ?_⟩
  ·exact Nat.lt_of_not_le fun hv => h ⟨v, k, hp, hv⟩
  ·show (match getText maxDisk (some r) with | (_, none) => none | (b, some r') => some ((t, b), r')) = _
   rw [getText_off (fun v k hp hc => h ⟨v, k, hp, by omega⟩)]
theorem getPart_some {L R : List Nat} {p : PT} (hL : ∀ b ∈ L, b < 256) (h : getPart L = some (p, R)) : L = partB p ++ R ∧ okPart p := by
 cases L with
 | nil => cases h
 | cons t r =>
   rcases getPart_cases t r with ⟨v, k, h1, h2, h3⟩ | ⟨_, h3⟩
   ·rw [h] at h3
    split at h3
    ·cases h3
    ·rename_i hc
     simp only [Option.some.injEq, Prod.mk.injEq] at h3
     obtain ⟨rfl, rfl⟩ := h3
     have hr : ∀ b ∈ r, b < 256 := fun b hb => hL b (List.mem_cons_of_mem _ hb)
     have hcan := (pN_canon 6 0 r v k hr h1).1
     have hl : ((r.drop k).take v).length = v := by rw [List.length_take]; omega
     refine ⟨?_, hL t List.mem_cons_self, fun b hb => hr b (List.mem_of_mem_drop (List.mem_of_mem_take hb)), ?_⟩
     ·show t :: r = (t :: encN ((r.drop k).take v).length ++ (r.drop k).take v) ++ (r.drop k).drop v
      rw [hl, ← hcan, List.cons_append, List.cons_append, List.append_assoc, List.take_append_drop, List.take_append_drop]
     ·show ((r.drop k).take v).length ≤ maxNum
      rw [hl]; unfold maxDisk at h2; unfold maxNum; omega
   ·rw [h] at h3; cases h3
theorem getPart_lt {L R : List Nat} {p : PT} (h : getPart L = some (p, R)) : R.length < L.length := by
 cases L with
 | nil => cases h
 | cons t r =>
   rcases getPart_cases t r with ⟨v, k, h1, h2, h3⟩ | ⟨_, h3⟩
   ·rw [h] at h3
    split at h3
    ·cases h3
    ·simp only [Option.some.injEq, Prod.mk.injEq] at h3
     rw [h3.2]
     simp; omega
   ·rw [h] at h3; cases h3
theorem getPs_more : ∀ (f g : Nat) (L : List Nat), L.length ≤ f → L.length ≤ g → getPs f L = getPs g L := by
 intro f
 induction f with
 | zero =>
   intro g L hf _
   have := List.eq_nil_of_length_eq_zero (Nat.le_zero.1 hf)
   subst this
   cases g <;> rfl
 | succ f ih =>
   intro g L hf hg
   cases L with
   | nil => cases g <;> rfl
   | cons t r =>
     obtain ⟨g, rfl⟩ : ∃ k, g = k + 1 := ⟨g - 1, by simp at hg; omega⟩
     unfold getPs
     cases hp : getPart (t :: r) with
     | none => rfl
     | some x =>
       obtain ⟨p, r'⟩ := x
       have := getPart_lt hp
       simp only []
       rw [ih g r' (by simp at this hf; omega) (by simp at this hg; omega)]
theorem getP_nil : getP [] = some [] := rfl
theorem getP_bad {L : List Nat} (h0 : L ≠ []) (h : getPart L = none) : getP L = none := by
 cases L with
 | nil => exact absurd rfl h0
 | cons t r => simp only [getP, List.length_cons, getPs, h]
theorem getP_step {L R : List Nat} {p : PT} (h : getPart L = some (p, R)) : getP L = (getP R).map (p :: ·) := by
 have hl := getPart_lt h
 cases L with
 | nil => cases h
 | cons t r =>
   simp only [getP, List.length_cons, getPs, h]
   rw [getPs_more r.length R.length R (by simp at hl; omega) (Nat.le_refl _)]
theorem getP_some : ∀ (n : Nat) (L : List Nat) (ps : List PT), L.length ≤ n → (∀ b ∈ L, b < 256) → getP L = some ps → bodyB ps = L ∧ ∀ p ∈ ps, okPart p := by
 intro n
 induction n with
 | zero =>
   intro L ps h0 _ h
   have := List.eq_nil_of_length_eq_zero (Nat.le_zero.1 h0)
   subst this
   cases h
   exact ⟨rfl, fun p hp => by cases hp⟩
 | succ n ih =>
   intro L ps h0 hL h
   cases hp : getPart L with
   | none =>
     by_cases e : L = []
     ·subst e; cases h; exact ⟨rfl, fun p hp => by cases hp⟩
     ·rw [getP_bad e hp] at h; cases h
   | some x =>
     obtain ⟨p, R⟩ := x
     have h1 := getPart_lt hp
     obtain ⟨h2, h3⟩ := getPart_some hL hp
     rw [getP_step hp] at h
     cases hr : getP R with
     | none => rw [hr] at h; cases h
     | some qs =>
       rw [hr] at h
       cases h
       obtain ⟨h4, h5⟩ := ih R qs (by omega) (fun b hb => hL b (by rw [h2]; exact List.mem_append_right _ hb)) hr
       refine ⟨by rw [h2]; show partB p ++ bodyB qs = _; rw [h4], fun q hq => ?_⟩
       rcases List.mem_cons.1 hq with rfl | hq
       ·exact h3
       ·exact h5 q hq
theorem getPart_put (p : PT) (R : List Nat) (h : p.2.length ≤ maxDisk) : getPart (partB p ++ R) = some (p, R) := by
 obtain ⟨t, b⟩ := p
 simp only at h
 have hm : b.length ≤ maxNum := by unfold maxDisk at h; unfold maxNum; omega
 have hp : pN 6 0 (encN b.length ++ (b ++ R)) = some (b.length, (encN b.length).length) := pN_enc b.length 6 0 (b ++ R) (encN_len6 hm) (fun h => by omega)
 have he : partB (t, b) ++ R = t :: (encN b.length ++ (b ++ R)) := by simp [partB, headP]
 rw [he]
 show (match getText maxDisk (some (encN b.length ++ (b ++ R))) with | (_, none) => none | (c, some r') => some ((t, c), r')) = _
 rw [getText_at hp (by omega) hm, if_neg (by simp)]
 simp
theorem getP_put : ∀ ps : List PT, (∀ p ∈ ps, p.2.length ≤ maxDisk) → getP (bodyB ps) = some ps
 | [], _ => rfl
 | p :: r, h => by
   rw [show bodyB (p :: r) = partB p ++ bodyB r from rfl, getP_step (getPart_put p (bodyB r) (h p List.mem_cons_self)), getP_put r (fun q hq => h q (List.mem_cons_of_mem _ hq))]
   rfl
/-! ### What is got of a file -/
def wholeB (L : List Nat) : Bool := decide (8 ≤ L.length ∧ L.length ≤ maxDisk ∧ (getFix (some (L.take 4))).1 = L.length ∧ (getFix (some (L.drop (L.length - 4)))).1 = crcL (L.take (L.length - 4)))
def midB (L : List Nat) : List Nat := (L.take (L.length - 4)).drop 4
def getFile (L : List Nat) : Option (List PT) := if wholeB L = true then getP (midB L) else none
theorem getFix_take (L : List Nat) (h : 4 ≤ L.length) : (getFix (some L)).1 = (getFix (some (L.take 4))).1 := by
 have h1 : ¬ (L.take 4).length < 4 := by simp; omega
 unfold getFix
 simp only []
 rw [if_neg (by omega), if_neg h1]
 simp [List.getD_eq_getElem?_getD]
theorem fix_getFix (L : List Nat) (h : L.length = 4) (hL : ∀ b ∈ L, b < 256) : fixB (getFix (some L)).1 = L := by
 match L, h with
 | [a, b, c, d], _ =>
   have ha := hL a (by simp)
   have hb := hL b (by simp)
   have hc := hL c (by simp)
   have hd := hL d (by simp)
   simp [getFix, fixB]
   refine ⟨?_, ?_, ?_, ?_⟩ <;> omega
theorem getFix_fix (n : Nat) (h : n < 4294967296) : (getFix (some (fixB n))).1 = n := by
 have := getFix_put n [] h
 rw [List.append_nil] at this
 rw [this]
theorem wholeB_put (ps : List PT) (h : sizeB ps ≤ maxDisk) : wholeB (fileB ps) = true := by
 have hl := fileB_len ps
 have h8 : 8 ≤ sizeB ps := by unfold sizeB; omega
 have hm : sizeB ps < 4294967296 := by unfold maxDisk at h; omega
 have ht : (fileB ps).take 4 = fixB (sizeB ps) := by
  unfold fileB aheadB
  rw [List.append_assoc, List.take_append_of_le_length (by rw [fixB_len]; omega)]
  exact List.take_of_length_le (by rw [fixB_len]; omega)
 have ha : (fileB ps).length - 4 = (aheadB ps).length := by rw [hl, aheadB_len]
 have hd : (fileB ps).drop ((fileB ps).length - 4) = fixB (crcL (aheadB ps)) := by rw [ha]; unfold fileB; exact List.drop_left
 have htk : (fileB ps).take ((fileB ps).length - 4) = aheadB ps := by rw [ha]; unfold fileB; exact List.take_left
 unfold wholeB
 rw [hd, htk, ht, hl, getFix_fix _ hm, getFix_fix _ (crcL_lt _)]
 exact decide_eq_true ⟨h8, h, rfl, rfl⟩
theorem midB_put (ps : List PT) : midB (fileB ps) = bodyB ps := by
 have ha : (fileB ps).length - 4 = (aheadB ps).length := by rw [fileB_len, aheadB_len]
 unfold midB
 rw [ha]
 unfold fileB
 rw [List.take_left]
 unfold aheadB
 exact List.drop_left (l₁ := fixB (sizeB ps))
theorem getFile_put (ps : List PT) (h : sizeB ps ≤ maxDisk) (hp : ∀ p ∈ ps, p.2.length ≤ maxDisk) : getFile (fileB ps) = some ps := by
 unfold getFile
 rw [wholeB_put ps h, midB_put, if_pos rfl, getP_put ps hp]
theorem getFile_one {L : List Nat} {ps : List PT} (hL : ∀ b ∈ L, b < 256) (h : getFile L = some ps) : fileB ps = L ∧ (∀ p ∈ ps, okPart p) ∧ L.length ≤ maxDisk ∧ sizeB ps = L.length := by
 unfold getFile at h
 split at h
 ·rename_i hw
  have hw' := of_decide_eq_true (by unfold wholeB at hw; exact hw)
  obtain ⟨h8, hm, h1, h2⟩ := hw'
  have hmid : ∀ b ∈ midB L, b < 256 := fun b hb => hL b (List.mem_of_mem_take (List.mem_of_mem_drop hb))
  obtain ⟨h3, h4⟩ := getP_some _ (midB L) ps (Nat.le_refl _) hmid h
  have hml : (midB L).length = L.length - 8 := by unfold midB; simp; omega
  have hs : sizeB ps = L.length := by unfold sizeB; rw [h3, hml]; omega
  have e1 : fixB (sizeB ps) = L.take 4 := by
   rw [hs, ← h1]
   exact fix_getFix _ (by simp; omega) (fun b hb => hL b (List.mem_of_mem_take hb))
  have e2 : aheadB ps = L.take (L.length - 4) := by
   unfold aheadB
   rw [e1, h3]
   unfold midB
   have : L.take 4 = (L.take (L.length - 4)).take 4 := by rw [List.take_take]; congr 1; omega
   rw [this, List.take_append_drop]
  refine ⟨?_, h4, hm, hs⟩
  unfold fileB
  rw [e2, ← h2, fix_getFix _ (by simp; omega) (fun b hb => hL b (List.mem_of_mem_drop hb)), List.take_append_drop]
 ·cases h
theorem wholeB_of {L : List Nat} (h : wholeB L = true) : 8 ≤ L.length ∧ L.length ≤ maxDisk ∧ (getFix (some (L.take 4))).1 = L.length ∧ (getFix (some (L.drop (L.length - 4)))).1 = crcL (L.take (L.length - 4)) := of_decide_eq_true h
end Go.Proofs.YtppdbinppibjhaaGreatDoor
