/-
  Rows of ranges: arithmetic; append onto a boxed row whose elements have several cells.
-/
import Derived.Test.YtmnjicpgdhnimaaDoorSFoldP
import Derived.Test.YtmnjicpgdhnimaaDoorRows2
namespace Go.Proofs.YtmnjicpgdhnimaaDoor
open Go.RowKit Go.Shelf

/-- One byte more, behind all others. -/
def addR (R : List (Nat × Nat)) (b : Nat) : List (Nat × Nat) :=
  match R.getLast? with
  | some (lo, hi) => if hi + 1 = b then R.dropLast ++ [(lo, b)] else R ++ [(b, b)]
  | none => [(b, b)]
/-- The ranges of a rising list. -/
def rl (L : List Nat) : List (Nat × Nat) := L.foldl addR []
theorem rl_snoc (L : List Nat) (b : Nat) : rl (L ++ [b]) = addR (rl L) b := by simp [rl]
theorem addR_nil (b : Nat) : addR [] b = [(b, b)] := rfl
theorem addR_yes (R : List (Nat × Nat)) (lo hi b : Nat) (h : hi + 1 = b) : addR (R ++ [(lo, hi)]) b = R ++ [(lo, b)] := by
  unfold addR
  simp [h]
theorem addR_no (R : List (Nat × Nat)) (lo hi b : Nat) (h : hi + 1 ≠ b) : addR (R ++ [(lo, hi)]) b = (R ++ [(lo, hi)]) ++ [(b, b)] := by
  unfold addR
  simp [h]
theorem addR_length (R : List (Nat × Nat)) (b : Nat) : (addR R b).length ≤ R.length + 1 := by
  rcases List.eq_nil_or_concat R with rfl | ⟨R', ⟨lo, hi⟩, rfl⟩
  · simp [addR_nil]
  · rw [List.concat_eq_append]
    by_cases h : hi + 1 = b
    · rw [addR_yes _ _ _ _ h]; simp
    · rw [addR_no _ _ _ _ h]; simp
theorem rl_length (L : List Nat) : (rl L).length ≤ L.length := by
  have key : ∀ (L : List Nat) (R : List (Nat × Nat)), (L.foldl addR R).length ≤ R.length + L.length := by
    intro L
    induction L with
    | nil => intro R; simp
    | cons b L ih =>
      intro R
      have h1 := ih (addR R b)
      have h2 := addR_length R b
      simp only [List.foldl_cons, List.length_cons]
      omega
  have := key L []
  simpa [rl] using this
/-- All bounds of the ranges of small numbers are small. -/
theorem rl_small (N : Nat) (L : List Nat) (h : ∀ b ∈ L, b < N) : ∀ p ∈ rl L, p.1 < N ∧ p.2 < N := by
  have key : ∀ (L : List Nat) (R : List (Nat × Nat)), (∀ b ∈ L, b < N) → (∀ p ∈ R, p.1 < N ∧ p.2 < N) → ∀ p ∈ L.foldl addR R, p.1 < N ∧ p.2 < N := by
    intro L
    induction L with
    | nil => intro R _ hR; simpa using hR
    | cons b L ih =>
      intro R hL hR
      refine ih (addR R b) (fun c hc => hL c (by simp [hc])) ?_
      have hb := hL b (by simp)
      rcases List.eq_nil_or_concat R with rfl | ⟨R', ⟨lo, hi⟩, rfl⟩
      · rw [addR_nil]; intro p hp; simp at hp; subst hp; exact ⟨hb, hb⟩
      · rw [List.concat_eq_append] at hR ⊢
        by_cases e : hi + 1 = b
        · rw [addR_yes _ _ _ _ e]
          intro p hp
          rcases List.mem_append.1 hp with hp | hp
          · exact hR p (List.mem_append_left _ hp)
          · simp at hp; subst hp; exact ⟨(hR (lo, hi) (by simp)).1, hb⟩
        · rw [addR_no _ _ _ _ e]
          intro p hp
          rcases List.mem_append.1 hp with hp | hp
          · exact hR p hp
          · simp at hp; subst hp; exact ⟨hb, hb⟩
  exact key L [] h (by simp)
/-- The cells of ranges. -/
def rgc (R : List (Nat × Nat)) : List Value := R.flatMap fun p => [.int .u8 (p.1 : Nat), .int .u8 (p.2 : Nat)]
theorem rgc_append (R T : List (Nat × Nat)) : rgc (R ++ T) = rgc R ++ rgc T := by simp [rgc]
theorem rgc_one (p : Nat × Nat) : rgc [p] = [.int .u8 (p.1 : Nat), .int .u8 (p.2 : Nat)] := rfl
theorem rgc_length (R : List (Nat × Nat)) : (rgc R).length = 2 * R.length := by
  induction R with
  | nil => rfl
  | cons p R ih =>
    rw [show p :: R = [p] ++ R from rfl, rgc_append, List.length_append, ih, rgc_one, List.length_append]
    simp only [List.length_cons, List.length_nil]
    omega
theorem rgc_cells (R : List (Nat × Nat)) : ∀ u ∈ rgc R, u.oneCell' = true := by
  intro u hu
  simp only [rgc, List.mem_flatMap, List.mem_cons, List.not_mem_nil, or_false] at hu
  obtain ⟨p, _, rfl | rfl⟩ := hu <;> rfl
theorem rgc_last (R : List (Nat × Nat)) (lo hi : Nat) : (rgc (R ++ [(lo, hi)]))[R.length * 2 + 1]? = some (.int .u8 (hi : Nat)) := by
  rw [rgc_append, List.getElem?_append_right (by rw [rgc_length]; omega), rgc_length, rgc_one, show R.length * 2 + 1 - 2 * R.length = 1 by omega]
  rfl
theorem rgc_set (R : List (Nat × Nat)) (lo hi b : Nat) : (rgc (R ++ [(lo, hi)])).set (R.length * 2 + 1) (.int .u8 (b : Nat)) = rgc (R ++ [(lo, b)]) := by
  rw [rgc_append, rgc_append, List.set_append_right _ _ (by rw [rgc_length]; omega), rgc_length, rgc_one, rgc_one, show R.length * 2 + 1 - 2 * R.length = 1 by omega]
  rfl
theorem rgc_get (R : List (Nat × Nat)) (i : Nat) (h : i < R.length) : (rgc R)[i * 2]? = some (.int .u8 ((R.getD i (0, 0)).1 : Nat)) ∧ (rgc R)[i * 2 + 1]? = some (.int .u8 ((R.getD i (0, 0)).2 : Nat)) := by
  induction R generalizing i with
  | nil => simp at h
  | cons p R ih =>
    rw [show p :: R = [p] ++ R from rfl, rgc_append]
    cases i with
    | zero => exact ⟨rfl, rfl⟩
    | succ i =>
      have h2 : i < R.length := by simpa using h
      obtain ⟨h3, h4⟩ := ih i h2
      rw [List.getElem?_append_right (by rw [rgc_length]; simp; omega), List.getElem?_append_right (by rw [rgc_length]; simp; omega), rgc_length]
      simp only [List.length_cons, List.length_nil, Nat.zero_add, Nat.mul_one]
      rw [show (i + 1) * 2 - 2 = i * 2 by omega, show (i + 1) * 2 + 1 - 2 = i * 2 + 1 by omega]
      exact ⟨h3, h4⟩
theorem info_pair : (Tryd.prog.info? 45).map (fun i => (i.zero, i.size, i.bytes)) = some (some (.agg #[.int .u8 0, .int .u8 0]), 2, 2) := by kernel_rfl

theorem cell_two_new (w : World) (u0 u1 : Value) (t : TypeId) : ∀ j u, [u0, u1][j]? = some u → (w.alloc (.cells #[u0, u1] t)).cell? ((⟨w.heap.size, 0, none⟩ : Addr).add j) = some u := by
  intro j u h
  have hj : j < 2 := (List.getElem?_eq_some_iff.1 h).1
  have e : (⟨w.heap.size, 0, none⟩ : Addr).add j = ⟨w.heap.size, j, none⟩ := by
    unfold Addr.add
    split
    · rename_i e; rw [e]
    · simp
  rw [e, cell_of_row _ _ _ _ _ _ (heap_alloc_new _ _)]
  simpa using h
/-- What an append to a box's row leaves, behind the store back. -/
theorem grow_postS {W w1 : World} {n0 B size : Nat} {t e : TypeId} {v v' : Value} {k m : Nat} {xs ys : List Value} {tmp : Obj} (hv : Boxed W B t v) (hte : t ≠ e) (hrow : W.ownsRow n0 e size v k xs)
    (hown : w1.ownsRow n0 e size v' m ys) (hG : Grew (W.alloc tmp) w1 v v') :
    Boxed w1 B t v ∧ Boxed (w1.setCell ⟨B, 0, none⟩ v') B t v' ∧ (w1.setCell ⟨B, 0, none⟩ v').ownsRow n0 e size v' m ys ∧ Kept (fun k => k = B ∨ v.ownBlock = some k) W (w1.setCell ⟨B, 0, none⟩ v') ∧
      ∀ g, v'.ownBlock = some g → (v.ownBlock = some g ∨ W.heap.size ≤ g) ∧ g < (w1.setCell ⟨B, 0, none⟩ v').heap.size := by
  have hnr := hv.not_row hte hrow
  have hka : Kept (fun k => v.ownBlock = some k) W (W.alloc tmp) := (Kept.of_below (F := fun _ => False) (below_alloc W tmp)).mono (fun _ _ h => h.elim)
  have hk1 : Kept (fun k => v.ownBlock = some k) W w1 := hka.trans (hG.kept (fun _ h => h)) (fun _ _ h => h)
  have hb1 : Boxed w1 B t v := hk1.heap hv (fun e => hnr e.symm)
  have hsz : (w1.setCell ⟨B, 0, none⟩ v').heap.size = w1.heap.size := by simp
  refine ⟨hb1, hb1.set v', hown.kept (grownBy_setCell' w1 B v') (.inr (hb1.not_row hte hown).symm), (hk1.mono (fun _ _ h => .inr h)).setCell (.inl (.inl rfl)) v', fun g hg => ⟨?_, by rw [hsz]; exact (owns_cells hown g hg).1⟩⟩
  rcases hG.foot (F := fun k => v.ownBlock = some k) (fun _ h => h) g hg with h | ⟨h, _⟩
  · exact .inl h
  · rw [World.size_alloc] at h
    exact .inr (by omega)
end Go.Proofs.YtmnjicpgdhnimaaDoor
