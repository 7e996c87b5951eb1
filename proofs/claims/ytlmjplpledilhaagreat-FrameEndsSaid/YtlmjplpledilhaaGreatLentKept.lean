/-
  Contracts of the kit's functions that lend rows of parts and look whether they are kept.
-/
import Derived.Test.YtlmjplpledilhaaGreatLent
import Derived.Test.YtlmjplpledilhaaGreatFlatPartK
import Derived.Test.YtlmjplpledilhaaGreatSameP
namespace Go.Proofs.YtlmjplpledilhaaGreat
open Go.RowKit

theorem cells2p {w : World} {p : Nat} {a b : Value} {t : TypeId} (h : w.heap[p]? = some (.cells #[a, b] t (0, 0))) :
    w.cell? ⟨p, 0, none⟩ = some a ∧ w.cell? ⟨p, 1, none⟩ = some b ∧ w.frozen? ⟨p, 0, none⟩ = false ∧ w.frozen? ⟨p, 1, none⟩ = false :=
  ⟨by rw [cell_of_row _ _ _ _ _ _ h]; rfl, by rw [cell_of_row _ _ _ _ _ _ h]; rfl, frozen_of_row _ _ _ _ _ h, frozen_of_row _ _ _ _ _ h⟩
def dftP : Prt := ⟨0, [], none, 0⟩
/-- The cells of parts. -/
def rc : List Prt → List Value
  | [] => []
  | Q :: r => .int .u8 (Q.T : Nat) :: .slice Q.pB Q.B.length Q.cB :: rc r
theorem rc_append (a b : List Prt) : rc (a ++ b) = rc a ++ rc b := by
  induction a with
  | nil => rfl
  | cons x a ih => simp [rc, ih]
theorem rc_len (a : List Prt) : (rc a).length = a.length * 2 := by
  induction a with
  | nil => rfl
  | cons x a ih => simp [rc, ih]; omega
theorem rc_get : ∀ (xs : List Prt) (i : Nat), i < xs.length → (rc xs)[i * 2]? = some (.int .u8 ((xs.getD i dftP).T : Nat)) ∧ (rc xs)[i * 2 + 1]? = some (.slice (xs.getD i dftP).pB (xs.getD i dftP).B.length (xs.getD i dftP).cB)
  | [], i, h => by simp at h
  | x :: r, 0, _ => ⟨rfl, rfl⟩
  | x :: r, i + 1, h => by
    have := rc_get r i (by simpa using h)
    simp only [rc, List.getD_cons_succ]
    rw [show (i + 1) * 2 = i * 2 + 1 + 1 from by omega]
    simpa using this
theorem Blk.kept {F : Nat → Prop} {w w' : World} {g len : Nat} {z : Nat → Nat} (h : Blk w g len z) (hk : Kept F w w') (hg : ¬ F g) : Blk w' g len z := by
  obtain ⟨h1, cur, h2, h3⟩ := h
  exact ⟨h1, cur, hk.heap h2 hg, h3⟩
/-- A part that is lent; a mark behind. -/
def LOne (R : Nat) (W : World) (P Q : Prt) : Prop :=
  P.T < 256 ∧ Q.T = P.T ∧ Q.B = P.B ∧ ∃ h, h ≠ R ∧ Q.pB = some ⟨h, 0, none⟩ ∧ Q.cB = P.B.length + 12 ∧ Blk W h (P.B.length + 12) (lent (fun j => P.B.getD j 0) P.B.length)
def MOne (R : Nat) (W : World) (i : Nat) (Q : Prt) : Prop := Q.T = 0 ∧ Q.B = [markN 1 i] ∧ ∃ γ, γ ≠ R ∧ Q.pB = some ⟨γ, 0, none⟩ ∧ Q.cB = 1 ∧ PartFlat.gd W γ 1 i
theorem LOne.kept {R : Nat} {W W' : World} {P Q : Prt} (h : LOne R W P Q) (hk : Kept (fun k => k = R) W W') : LOne R W' P Q := by
  obtain ⟨h0, h1, h2, g, h3, h4, h5, h6⟩ := h
  exact ⟨h0, h1, h2, g, h3, h4, h5, h6.kept hk h3⟩
theorem MOne.kept {R i : Nat} {W W' : World} {Q : Prt} (h : MOne R W i Q) (hk : Kept (fun k => k = R) W W') : MOne R W' i Q := by
  obtain ⟨h1, h2, g, h3, h4, h5, h6⟩ := h
  exact ⟨h1, h2, g, h3, h4, h5, hk.heap h6 h3⟩
/-- The row that is lent, its block R. -/
def LentP (W : World) (R n : Nat) (P : Nat → Prt) (Qs : List Prt) : Prop :=
  Qs.length = n + 12 ∧ W.ownsRow R 45 2 (.slice (some ⟨R, 0, none⟩) (n + 12) (n + 12)) (n + 12) (rc Qs) ∧ (∀ i, i < n → LOne R W (P i) (Qs.getD i dftP)) ∧ ∀ i, i < 12 → MOne R W i (Qs.getD (n + i) dftP)
theorem LentP.below {W W' : World} {R n : Nat} {P : Nat → Prt} {Qs : List Prt} (h : LentP W R n P Qs) (hb : Below W.heap.size W W') : LentP W' R n P Qs :=
  ⟨h.1, owns_thruS h.2.1 hb, fun i hi => (h.2.2.1 i hi).kept (Kept.of_below hb), fun i hi => (h.2.2.2 i hi).kept (Kept.of_below hb)⟩
theorem LOne.ok {R : Nat} {W : World} {P Q : Prt} (h : LOne R W P Q) (hl : P.B.length ≤ 20000) (hB : ∀ b ∈ P.B, b < 256) : Q.Ok W := by
  obtain ⟨h0, h1, h2, g, h3, h4, h5, h6⟩ := h
  refine ⟨by rw [h1]; exact h0, by rw [h2, h5]; omega, by rw [h5]; omega, by rw [h4]; exact (fun e => by cases e), .inr ⟨g, 0, h4⟩, ?_⟩
  rw [h4, h2]
  refine BL.mk hB (.inr ⟨g, 0, rfl, fun i hi => ?_⟩)
  have := h6.cell (i := i) (by omega)
  unfold lent at this
  rw [if_pos hi] at this
  rw [Nat.zero_add]
  exact this
theorem LentP.prts {W : World} {R n : Nat} {P : Nat → Prt} {Qs : List Prt} (h : LentP W R n P Qs) (hl : ∀ i, i < n → (P i).B.length ≤ 20000 ∧ ∀ b ∈ (P i).B, b < 256) : Prts W (some ⟨R, 0, none⟩) n (fun i => Qs.getD i dftP) := by
  refine .inr ⟨R, 0, rfl, fun i hi => ?_⟩
  obtain ⟨e0, e1⟩ := rc_get Qs i (by have := h.1; omega)
  have hc := h.2.1.cells (g := R) rfl
  have c0 := hc _ _ e0
  have c1 := hc _ _ e1
  rw [add_none' _ rfl] at c0 c1
  exact ⟨⟨c0, c1⟩, (h.2.2.1 i hi).ok (hl i hi).1 (hl i hi).2⟩
theorem info_partK : (Tryz.prog.info? 45).map (fun i => (i.zero, i.size, i.bytes)) = some (some (.agg #[.int .u8 0, .slice none 0 0]), 2, 32) := by kernel_rfl

set_option maxRecDepth 100000 in
set_option maxHeartbeats 1000000 in
theorem lentPart_any (T : Nat) (a : Option Addr) (len cap : Nat) (z : Nat → Nat) (w : World) (hl : len ≤ 20000) (hn : a = none → cap = 0) (hlc : len ≤ cap) (hz : Byt w a len z) :
    Calls Tryz.prog 23 #[.agg #[.int .u8 (T : Nat), .slice a len cap]] w fun e w' => ∃ g, e = .returned (.agg #[.int .u8 (T : Nat), .slice (some ⟨g, 0, none⟩) len (len + 12)]) ∧ w.heap.size ≤ g ∧ Blk w' g (len + 12) (lent z len) ∧ Below w.heap.size w w' := by
  have hle := fun (W : World) (hW : Below w.heap.size w W) => lentBytes_any a len cap z W hl hn hlc (hz.below hW)
  obtain ⟨W1, hW1⟩ : ∃ W1, w.alloc (.cells #[.int .u8 (T : Nat), .slice a len cap] 45) = W1 := ⟨_, rfl⟩
  have hB1 : Below w.heap.size w W1 := by rw [← hW1]; exact below_alloc _ _
  have hs1 : W1.heap.size = w.heap.size + 1 := by rw [← hW1]; simp
  have h1 : W1.heap[w.heap.size]? = some (.cells #[.int .u8 (T : Nat), .slice a len cap] 45 (0, 0)) := by rw [← hW1]; exact heap_alloc_new _ _
  obtain ⟨W2, hW2⟩ : ∃ W2, W1.alloc (.cells #[.int .u8 0, .slice none 0 0] 45) = W2 := ⟨_, rfl⟩
  have hB2 : Below W1.heap.size W1 W2 := by rw [← hW2]; exact below_alloc _ _
  have hs2 : W2.heap.size = W1.heap.size + 1 := by rw [← hW2]; simp
  have h2 : W2.heap[W1.heap.size]? = some (.cells #[.int .u8 0, .slice none 0 0] 45 (0, 0)) := by rw [← hW2]; exact heap_alloc_new _ _
  have h12 := (hB2.block _ (block_lt h1)).trans h1
  obtain ⟨c0, c1, f0, f1⟩ := cells2p h12
  have hB : Below w.heap.size w W2 := hB1.trans (hB2.mono hB1.size)
  have hl2 := hle W2 hB
  have H := hide (And.intro hs1 (And.intro hs2 (And.intro h12 (And.intro h2 hB))))
  clear hle h1 h2 h12 hs1 hs2 hz hB1 hB2 hB hn hlc
  go_enter Tryz.func23, Tryz.ntmps23
  go_wp2_with fail
  refine hl2.mono ?_
  rintro e w3 ⟨g, rfl, hg, hblk, hB3⟩
  obtain ⟨hs1, hs2, h12, h2, hB⟩ := H.out
  have k1 := (hB3.block _ (block_lt h12)).trans h12
  have k2 := (hB3.block _ (block_lt h2)).trans h2
  obtain ⟨d0, d1, g0, g1⟩ := cells2p k1
  obtain ⟨e0, e1, i0, i1⟩ := cells2p k2
  obtain ⟨w4, hw4⟩ : ∃ w4, w3.setCell ⟨w.heap.size, 1, none⟩ (.slice (some ⟨g, 0, none⟩) len (len + 12)) = w4 := ⟨_, rfl⟩
  have k4 : w4.heap[w.heap.size]? = some (.cells #[.int .u8 (T : Nat), .slice (some ⟨g, 0, none⟩) len (len + 12)] 45 (0, 0)) := by rw [← hw4]; exact heap_setCell_same _ _ 1 _ _ _ k1
  have hK4 : Kept (fun k => k = w.heap.size) w3 w4 := by rw [← hw4]; exact (Kept.refl (fun k => k = w.heap.size) w3).setCell (.inl rfl) _
  have k24 := hK4.heap k2 (by show ¬ W1.heap.size = w.heap.size; omega)
  obtain ⟨d0, d1, g0, g1⟩ := cells2p k4
  obtain ⟨e0, e1, i0, i1⟩ := cells2p k24
  have HH := hide (And.intro hg (And.intro hblk (And.intro hB3 (And.intro hK4 (And.intro k24 k2)))))
  clear hl2 hs1 hs2 h12 h2 hB k1 k2 k4 hg hblk hB3 hK4 k24
  go_wp2_with fail
  obtain ⟨hg, hblk, hB3, hK4, k24, k2⟩ := HH.out
  obtain ⟨hs1, hs2, h12, h2, hB⟩ := H.out
  obtain ⟨w5, hw5⟩ : ∃ w5, (w4.setCell ⟨W1.heap.size, 0, none⟩ (.int .u8 (T : Nat))).setCell ⟨W1.heap.size, 1, none⟩ (.slice (some ⟨g, 0, none⟩) len (len + 12)) = w5 := ⟨_, rfl⟩
  have hS : w5.heap[W1.heap.size]? = some (.cells #[.int .u8 (T : Nat), .slice (some ⟨g, 0, none⟩) len (len + 12)] 45 (0, 0)) := by
    rw [← hw5]
    exact heap_setCell_same _ _ 1 _ _ _ (heap_setCell_same _ _ 0 _ _ _ k24)
  have hK5 : Kept (fun k => k = w.heap.size ∨ k = W1.heap.size) w3 w5 := by
    rw [← hw5]
    exact ((hK4.mono (G := fun k => k = w.heap.size ∨ k = W1.heap.size) (fun _ _ h => .inl h)).setCell (.inl (.inr rfl)) _).setCell (.inl (.inr rfl)) _
  have hs2' := hB.size
  refine bodyPost_ret_by (results_cell_row rfl _ _ W1.heap.size 45 #[.int .u8 (T : Nat), .slice (some ⟨g, 0, none⟩) len (len + 12)] (0, 0) _ rfl (by rw [hw5]; exact hS) Tryz.underlying45 rfl (by kernel_rfl)) rfl ⟨g, rfl, by omega, ?_, ?_⟩
  · rw [hw5]
    exact hblk.kept hK5 (by show ¬ (g = w.heap.size ∨ g = W1.heap.size); omega)
  · rw [hw5]
    exact ((Kept.of_below (F := fun k => w.heap.size ≤ k) hB).trans ((Kept.of_below (F := fun k => w.heap.size ≤ k) hB3).trans (hK5.mono (G := fun k => w.heap.size ≤ k) (fun k _ h => by rcases h with h | h <;> omega)) (fun _ _ h => h)) (fun _ _ h => h)).below (fun _ h => h) (Nat.le_refl _)

/-- What LentParts' loops hold. -/
def LSt (w : World) (n : Nat) (P : Nat → Prt) (Qs : List Prt) (W : World) : Prop :=
  W.ownsRow w.heap.size 45 2 (.slice (some ⟨w.heap.size, 0, none⟩) Qs.length (n + 12)) Qs.length (rc Qs) ∧ (∀ i, i < n → i < Qs.length → LOne w.heap.size W (P i) (Qs.getD i dftP)) ∧ (∀ i, n + i < Qs.length → MOne w.heap.size W i (Qs.getD (n + i) dftP)) ∧ Below w.heap.size w W
theorem LSt.below {w W W' : World} {n : Nat} {P : Nat → Prt} {Qs : List Prt} (h : LSt w n P Qs W) (hb : Below W.heap.size W W') : LSt w n P Qs W' :=
  ⟨owns_thruS h.1 hb, fun i hi hj => (h.2.1 i hi hj).kept (Kept.of_below hb), fun i hi => (h.2.2.1 i hi).kept (Kept.of_below hb), h.2.2.2.trans (hb.mono h.2.2.2.size)⟩
theorem getD_left {l m : List Prt} {i : Nat} (h : i < l.length) : (l ++ m).getD i dftP = l.getD i dftP := by
  rw [List.getD_eq_getElem?_getD, List.getD_eq_getElem?_getD, List.getElem?_append_left h]
theorem getD_last {l : List Prt} {x : Prt} {i : Nat} (h : i = l.length) : (l ++ [x]).getD i dftP = x := by
  subst h
  rw [List.getD_eq_getElem?_getD, List.getElem?_append_right (Nat.le_refl _), Nat.sub_self]
  rfl
theorem LSt.add {w W W' : World} {n : Nat} {P : Nat → Prt} {Qs : List Prt} {Q : Prt} (h : LSt w n P Qs W) (hg : W.grownBy W' (some w.heap.size)) (ho : W'.ownsRow w.heap.size 45 2 (.slice (some ⟨w.heap.size, 0, none⟩) (Qs.length + 1) (n + 12)) (Qs.length + 1) (rc Qs ++ [.int .u8 (Q.T : Nat), .slice Q.pB Q.B.length Q.cB]))
    (hl : Qs.length < n → LOne w.heap.size W (P Qs.length) Q) (hm : ∀ i, Qs.length = n + i → MOne w.heap.size W i Q) : LSt w n P (Qs ++ [Q]) W' := by
  have hK : Kept (fun k => k = w.heap.size) W W' := (Kept.refl (fun k => k = w.heap.size) W).grown hg (fun r e => by
    cases e
    refine .inl ⟨rfl, fun o ho' => ?_⟩
    obtain ⟨_, _, cur, hc⟩ := owns_cells h.1 w.heap.size rfl
    rw [hc] at ho'
    cases ho'
    rfl)
  have hlen : (Qs ++ [Q]).length = Qs.length + 1 := by simp
  refine ⟨?_, fun i hi hj => ?_, fun i hi => ?_, h.2.2.2.trans (hK.below (fun k e => by omega) h.2.2.2.size)⟩
  · rw [hlen, rc_append]
    exact ho
  · rw [hlen] at hj
    by_cases e : i < Qs.length
    · rw [getD_left e]
      exact (h.2.1 i hi e).kept hK
    · obtain rfl : i = Qs.length := by omega
      rw [getD_last rfl]
      exact (hl hi).kept hK
  · rw [hlen] at hi
    by_cases e : n + i < Qs.length
    · rw [getD_left e]
      exact (h.2.2.1 i e).kept hK
    · have e2 : Qs.length = n + i := by omega
      rw [getD_last e2.symm]
      exact (hm i e2).kept hK
theorem news2 {W : World} {g : Nat} {x y : Value} (h : W.heap[g]? = some (.cells #[x, y] 45 (0, 0))) : ∀ j u, [x, y][j]? = some u → W.cell? ((⟨g, 0, none⟩ : Addr).add j) = some u := by
  intro j u hj
  rw [add_none' _ rfl, cell_of_row _ _ _ _ _ _ h, Nat.zero_add]
  simpa using hj

set_option maxRecDepth 100000 in
set_option maxHeartbeats 2000000 in
theorem lentParts_any (a : Option Addr) (n cap : Nat) (P : Nat → Prt) (w : World) (hP : Prts w a n P) (hn : n ≤ 10000) (hl : ∀ i, i < n → (P i).B.length ≤ 10000) :
    Calls Tryz.prog 8 #[.slice a n cap] w fun e w' => e = .returned (.slice (some ⟨w.heap.size, 0, none⟩) n (n + 12)) ∧ (∃ Qs, LentP w' w.heap.size n P Qs) ∧ Below w.heap.size w w' := by
  obtain ⟨i0, hi, hq0, hq1, hq2⟩ := info_parts info_partK
  go_enter Tryz.func8, Tryz.ntmps8
  go_wp2_with (at_make; go_must (refine wpList_make_own _ rfl (.const (.int .i64 0)) (.tmp 9) 22 rfl w.heap.size 45 i0 (.agg #[.int .u8 0, .slice none 0 0]) 2 Tryz.underlying22 hi hq0 hq1 .i64 .i64 _ (n + 12) rfl rfl (by simp) (by rw [hq2]; omega) (by unfold maxLen; omega) (Nat.le_refl _) ?_); intro w1 hown1 hg1)
  have hS0 : LSt w n P [] w1 := ⟨hown1, (fun i _ h => by simp at h), (fun i h => by simp at h), below_grown hg1⟩
  clear hown1 hg1
  go_loopg [3, 4] n (fun q s3 s4 wr => ∃ (k : Nat) (Qs : List Prt), k + q = n ∧ s4 = .int .i64 k ∧ s3 = .slice (some ⟨w.heap.size, 0, none⟩) k (n + 12) ∧ Qs.length = k ∧ LSt w n P Qs wr)
  case atStart => exact ⟨0, [], by omega, rfl, rfl, rfl, hS0⟩
  case round =>
    obtain ⟨k, Qs, hkq, rfl, rfl, hQl, hSt⟩ := hrel
    clear hS0
    cases gk with
    | zero =>
      obtain rfl : k = n := by omega
      have HSt := hide (And.intro hSt hQl)
      clear hSt hQl hP hl
      go_wp2
      go_loopg [3, 6] 12 (fun q s3 s6 wr => ∃ (j : Nat) (Qs : List Prt), j + q = 12 ∧ s6 = .int .i64 j ∧ s3 = .slice (some ⟨w.heap.size, 0, none⟩) (k + j) (k + 12) ∧ Qs.length = k + j ∧ LSt w k P Qs wr)
      case atStart => exact ⟨0, Qs, by omega, rfl, by simp, by have := HSt.out.2; omega, HSt.out.1⟩
      case round =>
        obtain ⟨j, Qs2, hjq, rfl, rfl, hQl2, hSt2⟩ := hrel
        cases gk with
        | zero =>
          obtain rfl : j = 12 := by omega
          have HSt2 := hide (And.intro hSt2 hQl2)
          have hk0 : (0 : Int) ≤ (k : Int) := by omega
          have hk1 : (k : Int) ≤ (k : Int) + 12 := by omega
          clear hSt2 hQl2 hi hq0 hq1 hq2
          go_wp2
          go_ret
          obtain ⟨hS, hL⟩ := HSt2.out
          refine ⟨rfl, ⟨Qs2, hL, ?_, fun i hi => hS.2.1 i hi (by omega), fun i hi => hS.2.2.1 i (by omega)⟩, hS.2.2.2⟩
          have := hS.1
          rw [hL] at this
          exact this
        | succ q =>
          have hj0 : (0 : Int) ≤ (j : Int) := by omega
          have hjz : (j : Int) < 12 := by omega
          have hm := fun W : World => PartFlat.mark_any 1 j W (by omega) (by omega)
          have HS2 := hide hSt2
          have HQ2 := hide hQl2
          clear hSt2 hQl2
          go_wp2_with (first
            | (go_at_call 24; refine (hm _).mono ?_; rintro e w' ⟨γ, rfl, hgd, hbm⟩
               have HG := hide (And.intro hgd hbm)
               have hS3 := (HS2.out.below hbm).below (below_alloc w' (.cells #[.int .u8 0, .slice (some ⟨γ, 0, none⟩) 1 1] 45))
               have hown := hS3.1
               rw [HQ2.out] at hown
               have hnw := news2 (heap_alloc_new w' (.cells #[.int .u8 0, .slice (some ⟨γ, 0, none⟩) 1 1] 45))
               have HS3 := hide hS3
               clear hgd hbm hS3)
            | (at_builtin; go_must (refine wpList_append_fits _ rfl (.tmp 30) (.tmp 33) 22 rfl w.heap.size 45 i0 2 Tryz.underlying22 hi hq1 w.heap.size (k + j) (k + 12) (rc Qs2) rfl hown ⟨w'.heap.size, 0, none⟩ 1 1 [.int .u8 0, .slice (some ⟨γ, 0, none⟩) 1 1] rfl rfl hnw (PartFlat.el_one γ 1 j) (by omega) ?_); intro w3 hown3 hg3))
          have hgr : γ ≠ w.heap.size := fun e => by
            subst e
            obtain ⟨_, _, cur, hc⟩ := owns_cells (HS2.out.below HG.out.2).1 w.heap.size rfl
            have h2 : w'.heap[w.heap.size]? = _ := HG.out.1
            rw [hc] at h2
            injection h2 with h2
            injection h2 with _ h3
            exact absurd h3 (by decide)
          have hadd := HS3.out.add (Q := ⟨0, [markN 1 j], some ⟨γ, 0, none⟩, 1⟩) hg3 (by rw [HQ2.out]; exact hown3) (fun h => by have := HQ2.out; omega) (fun i hi => by
            obtain rfl : i = j := by have := HQ2.out; omega
            exact ⟨rfl, rfl, γ, hgr, rfl, rfl, (PartFlat.gd_below HG.out.1 (below_alloc w' _))⟩)
          have HA := hide hadd
          clear hadd hown3 hg3 hown hnw
          go_roundg q
          case measure => omega
          case rel => exact ⟨j + 1, _, by omega, by go_num, by go_num, by rw [List.length_append, HQ2.out]; simp; omega, HA.out⟩
    | succ q =>
      have hkn : k < n := by omega
      have hkz : (k : Int) < (n : Int) := by omega
      have hk0 : (0 : Int) ≤ (k : Int) := by omega
      obtain ⟨b, off, rfl, ⟨e0, e1⟩, hok⟩ := (hP.below hSt.2.2.2).cells k hkn
      have hll := hl k hkn
      have hle := fun W hW => lentPart_any (P k).T (P k).pB (P k).B.length (P k).cB (fun j => (P k).B.getD j 0) W (by omega) hok.nB hok.lB (hok.bB.below (w' := W) hW)
      clear hP hl
      have HS2 := hide hSt
      have HQ2 := hide hQl
      have hT := hok.T
      clear hSt hQl hok
      go_wp2_with (first
        | (go_at_call 23; refine (hle _ (Below.refl _ _)).mono ?_; rintro e w' ⟨g, rfl, hg, hblk, hbm⟩
           have HG := hide (And.intro hg (And.intro hblk hbm))
           have hb2 := below_step (below_alloc w' (.cells #[.int .u8 ((P k).T : Nat), .slice (some ⟨g, 0, none⟩) (P k).B.length ((P k).B.length + 12)] 45)) (.cells #[.int .u8 ((P k).T : Nat), .slice (some ⟨g, 0, none⟩) (P k).B.length ((P k).B.length + 12)] 45)
           have hS3 := (HS2.out.below hbm).below hb2
           have hown := hS3.1
           rw [HQ2.out] at hown
           have hnw := news2 (heap_alloc_new (w'.alloc (.cells #[.int .u8 ((P k).T : Nat), .slice (some ⟨g, 0, none⟩) (P k).B.length ((P k).B.length + 12)] 45)) (.cells #[.int .u8 ((P k).T : Nat), .slice (some ⟨g, 0, none⟩) (P k).B.length ((P k).B.length + 12)] 45))
           rw [World.size_alloc] at hnw
           have HS3 := hide (And.intro hS3 hb2)
           clear hg hblk hbm hS3 hb2)
        | (at_builtin; go_must (refine wpList_append_fits _ rfl (.tmp 22) (.tmp 24) 22 rfl w.heap.size 45 i0 2 Tryz.underlying22 hi hq1 w.heap.size k (n + 12) (rc Qs) rfl hown ⟨w'.heap.size + 1, 0, none⟩ 1 1 [.int .u8 ((P k).T : Nat), .slice (some ⟨g, 0, none⟩) (P k).B.length ((P k).B.length + 12)] rfl rfl hnw (by intro u hu; simp at hu; rcases hu with rfl | rfl <;> rfl) (by omega) ?_); intro w3 hown3 hg3))
      have hgr : g ≠ w.heap.size := by
        have h1 := (owns_cells HS2.out.1 w.heap.size rfl).1
        have h2 := HG.out.1
        omega
      have hadd := HS3.out.1.add (Q := ⟨(P k).T, (P k).B, some ⟨g, 0, none⟩, (P k).B.length + 12⟩) hg3 (by rw [HQ2.out]; exact hown3) (fun h => by
        rw [HQ2.out]
        exact ⟨hT, rfl, rfl, g, hgr, rfl, rfl, HG.out.2.1.below HS3.out.2⟩) (fun i hi => by have := HQ2.out; omega)
      have HA := hide hadd
      clear hadd hown3 hg3 hown hnw hle
      go_roundg q
      case measure => omega
      case rel => exact ⟨k + 1, _, by omega, by go_num, rfl, by rw [List.length_append, HQ2.out]; simp, HA.out⟩
end Go.Proofs.YtlmjplpledilhaaGreat

/-
  The kit's questions whether parts that were lent are kept (written by tools/gen-keptparts.py).
-/
namespace Go.Proofs.YtlmjplpledilhaaGreat
open Go.RowKit
set_option linter.unusedVariables false
set_option linter.unusedSimpArgs false

theorem get_someD {t : Array Value} {s : Nat} {v : Value} (h : t.getD s undef = v) (hv : v ≠ undef) : t[s]? = some v := by
  rw [Array.getD_eq_getD_getElem?] at h
  cases e : t[s]? with
  | none => rw [e] at h; exact absurd h.symm hv
  | some u => rw [e] at h; exact congrArg some h
set_option maxRecDepth 100000 in
set_option maxHeartbeats 400000 in
theorem keptPart_any (T l h pc : Nat) (L : List Nat) (pp : Option Addr) (w : World) (hl : L.length = l) (hL : l ≤ 20000) (hb : Blk w h (l + 12) (lent (fun i => L.getD i 0) l)) (hp : BL w pp L) :
    Calls Tryz.prog 32 #[.agg #[.int .u8 (T : Nat), .slice (some ⟨h, 0, none⟩) l (l + 12)], .agg #[.int .u8 (T : Nat), .slice pp l pc]] w fun e w' => e = .returned (.bool true) ∧ Below w.heap.size w w' := by
  obtain ⟨W1, hW1⟩ : ∃ W1, w.alloc (.cells #[.int .u8 (T : Nat), .slice (some ⟨h, 0, none⟩) l (l + 12)] 45) = W1 := ⟨_, rfl⟩
  have hB1 : Below w.heap.size w W1 := by rw [← hW1]; exact below_alloc _ _
  have hs1 : W1.heap.size = w.heap.size + 1 := by rw [← hW1]; simp
  have h1 : W1.heap[w.heap.size]? = some (.cells #[.int .u8 (T : Nat), .slice (some ⟨h, 0, none⟩) l (l + 12)] 45 (0, 0)) := by rw [← hW1]; exact heap_alloc_new _ _
  obtain ⟨W2, hW2⟩ : ∃ W2, W1.alloc (.cells #[.int .u8 (T : Nat), .slice pp l pc] 45) = W2 := ⟨_, rfl⟩
  have hB2 : Below W1.heap.size W1 W2 := by rw [← hW2]; exact below_alloc _ _
  have h2 : W2.heap[W1.heap.size]? = some (.cells #[.int .u8 (T : Nat), .slice pp l pc] 45 (0, 0)) := by rw [← hW2]; exact heap_alloc_new _ _
  have h12 := (hB2.block _ (block_lt h1)).trans h1
  have hB : Below w.heap.size w W2 := hB1.trans (hB2.mono hB1.size)
  obtain ⟨c0, c1, _, _⟩ := cells2p h12
  obtain ⟨d0, d1, _, _⟩ := cells2p h2
  have hz : Byt w pp l (fun i => L.getD i 0) := by have := hp; unfold BL at this; rw [hl] at this; exact this
  have hbl : BL w (some ⟨h, 0, none⟩) L := by
    refine BL.mk hp.lt (.inr ⟨h, 0, rfl, fun i hi => ?_⟩)
    have := hb.cell (i := i) (by omega)
    unfold lent at this
    rw [if_pos (by omega)] at this
    rw [Nat.zero_add]
    exact this
  have hsm := samePart_any T l L (some ⟨h, 0, none⟩) pp (l + 12) pc W2 hl (by omega) (hbl.below hB) (hp.below hB)
  have hkb := fun W hW => keptBytes_any h pp l pc (fun i => L.getD i 0) W (by omega) (hb.below (w' := W) hW) (hz.below hW)
  have H := hide (And.intro h12 (And.intro h2 hB))
  clear hb hp hz hbl h1 h2 h12 hs1 hB1 hB2 hB
  go_enter Tryz.func32, Tryz.ntmps32
  go_wp2_with fail
  refine hsm.mono ?_
  rintro e w3 ⟨rfl, hB3⟩
  have hB23 := H.out.2.2.trans (hB3.mono H.out.2.2.size)
  have hk := hkb w3 hB23
  obtain ⟨c0, c1, _, _⟩ := cells2p ((hB3.block _ (block_lt H.out.1)).trans H.out.1)
  obtain ⟨d0, d1, _, _⟩ := cells2p ((hB3.block _ (block_lt H.out.2.1)).trans H.out.2.1)
  have H3 := hide hB23
  clear hkb hsm hB3 hB23
  go_wp2_with fail
  refine hk.mono ?_
  rintro e w4 ⟨rfl, hB4⟩
  go_wp2_with fail
  go_ret
  exact ⟨rfl, H3.out.trans (hB4.mono H3.out.size)⟩

abbrev keptP_mem (s : Nat) : Prop := s ∈ [23, 24, 25, 26, 27, 28, 29, 30, 31, 32, 33, 34, 35, 36, 37, 38, 39, 40, 41, 42, 43, 44, 45, 46, 47, 48, 49, 50, 51, 52, 53, 54, 55, 56, 57]
theorem keptP_list (s : Nat) (h : keptP_mem s) : s ∈ [23, 24, 25, 26, 27, 28, 29, 30, 31, 32, 33, 34, 35, 36, 37, 38, 39, 40, 41, 42, 43, 44, 45, 46, 47, 48, 49, 50, 51, 52, 53, 54, 55, 56, 57] := h
def keptP_ops : Array Oper :=
  #[{ dst := some 23, op := Op.move (Operand.tmp 6), type := 3, pos := "lent.go:813", after := #[], guard := none },
    { dst := some 24, op := Op.move (Operand.tmp 1), type := 22, pos := "lent.go:813", after := #[], guard := none },
    { dst := some 25, op := Op.call { callee := Callee.builtin Builtin.len, args := #[Operand.tmp 24], argTypes := #[22] }, type := 3, pos := "lent.go:813", after := #[{ on := 1, ground := Ground.data }], guard := none },
    { dst := some 26, op := Op.binOp BinOp.lss 3 (Operand.tmp 23) (Operand.tmp 25) 3, type := 4, pos := "lent.go:813", after := #[{ on := 0, ground := Ground.data }, { on := 2, ground := Ground.data }], guard := none },
    { dst := some 27, op := Op.move (Operand.tmp 26), type := 4, pos := "lent.go:813", after := #[{ on := 3, ground := Ground.data }], guard := none },
    { dst := some 28, op := Op.move (Operand.tmp 5), type := 22, pos := "lent.go:813", after := #[{ on := 4, ground := Ground.guard }], guard := some (4, true) },
    { dst := some 29, op := Op.move (Operand.tmp 6), type := 3, pos := "lent.go:813", after := #[{ on := 4, ground := Ground.guard }], guard := some (4, true) },
    { dst := some 30, op := Op.indexAddr 22 (Operand.tmp 28) (Operand.tmp 29), type := 0, pos := "lent.go:813", after := #[{ on := 5, ground := Ground.data }, { on := 6, ground := Ground.data }, { on := 4, ground := Ground.guard }], guard := some (4, true) },
    { dst := some 31, op := Op.load 45 (Operand.tmp 30), type := 45, pos := "lent.go:813", after := #[{ on := 7, ground := Ground.data }, { on := 4, ground := Ground.guard }], guard := some (4, true) },
    { dst := some 32, op := Op.move (Operand.tmp 1), type := 22, pos := "lent.go:813", after := #[{ on := 4, ground := Ground.guard }], guard := some (4, true) },
    { dst := some 33, op := Op.move (Operand.tmp 6), type := 3, pos := "lent.go:813", after := #[{ on := 4, ground := Ground.guard }], guard := some (4, true) },
    { dst := some 34, op := Op.indexAddr 22 (Operand.tmp 32) (Operand.tmp 33), type := 0, pos := "lent.go:813", after := #[{ on := 9, ground := Ground.data }, { on := 10, ground := Ground.data }, { on := 4, ground := Ground.guard }], guard := some (4, true) },
    { dst := some 35, op := Op.load 45 (Operand.tmp 34), type := 45, pos := "lent.go:813", after := #[{ on := 11, ground := Ground.data }, { on := 4, ground := Ground.guard }], guard := some (4, true) },
    { dst := some 36, op := Op.call { callee := Callee.value (Operand.func 32), args := #[Operand.tmp 31, Operand.tmp 35], argTypes := #[45, 45] }, type := 4, pos := "lent.go:813", after := #[{ on := 8, ground := Ground.data }, { on := 12, ground := Ground.data }, { on := 4, ground := Ground.chain }, { on := 4, ground := Ground.guard }], guard := some (4, true) },
    { dst := some 37, op := Op.unOp UnOp.not 4 (Operand.tmp 36), type := 4, pos := "lent.go:813", after := #[{ on := 13, ground := Ground.data }, { on := 4, ground := Ground.guard }], guard := some (4, true) },
    { dst := some 38, op := Op.pick (Operand.tmp 27) (Operand.tmp 37) (Operand.const (Value.bool false)), type := 4, pos := "lent.go:813", after := #[{ on := 4, ground := Ground.data }, { on := 14, ground := Ground.data }], guard := none },
    { dst := some 39, op := Op.move (Operand.tmp 38), type := 4, pos := "lent.go:813", after := #[{ on := 15, ground := Ground.data }, { on := 13, ground := Ground.chain }], guard := none },
    { dst := some 40, op := Op.move (Operand.tmp 6), type := 3, pos := "lent.go:813", after := #[{ on := 16, ground := Ground.guard }], guard := some (16, false) },
    { dst := some 41, op := Op.move (Operand.tmp 1), type := 22, pos := "lent.go:813", after := #[{ on := 16, ground := Ground.guard }], guard := some (16, false) },
    { dst := some 42, op := Op.call { callee := Callee.builtin Builtin.len, args := #[Operand.tmp 41], argTypes := #[22] }, type := 3, pos := "lent.go:813", after := #[{ on := 18, ground := Ground.data }, { on := 16, ground := Ground.guard }], guard := some (16, false) },
    { dst := some 43, op := Op.binOp BinOp.geq 3 (Operand.tmp 40) (Operand.tmp 42) 3, type := 4, pos := "lent.go:813", after := #[{ on := 17, ground := Ground.data }, { on := 19, ground := Ground.data }, { on := 16, ground := Ground.guard }], guard := some (16, false) },
    { dst := some 44, op := Op.move (Operand.tmp 43), type := 4, pos := "lent.go:813", after := #[{ on := 20, ground := Ground.data }, { on := 16, ground := Ground.chain }, { on := 16, ground := Ground.guard }], guard := some (16, false) },
    { dst := some 45, op := Op.move (Operand.tmp 5), type := 22, pos := "lent.go:813", after := #[{ on := 21, ground := Ground.guard }], guard := some (21, true) },
    { dst := some 46, op := Op.move (Operand.tmp 6), type := 3, pos := "lent.go:813", after := #[{ on := 21, ground := Ground.guard }], guard := some (21, true) },
    { dst := some 47, op := Op.indexAddr 22 (Operand.tmp 45) (Operand.tmp 46), type := 0, pos := "lent.go:813", after := #[{ on := 22, ground := Ground.data }, { on := 23, ground := Ground.data }, { on := 21, ground := Ground.guard }], guard := some (21, true) },
    { dst := some 48, op := Op.load 45 (Operand.tmp 47), type := 45, pos := "lent.go:813", after := #[{ on := 24, ground := Ground.data }, { on := 21, ground := Ground.guard }], guard := some (21, true) },
    { dst := some 49, op := Op.move (Operand.tmp 6), type := 3, pos := "lent.go:813", after := #[{ on := 21, ground := Ground.guard }], guard := some (21, true) },
    { dst := some 50, op := Op.move (Operand.tmp 1), type := 22, pos := "lent.go:813", after := #[{ on := 21, ground := Ground.guard }], guard := some (21, true) },
    { dst := some 51, op := Op.call { callee := Callee.builtin Builtin.len, args := #[Operand.tmp 50], argTypes := #[22] }, type := 3, pos := "lent.go:813", after := #[{ on := 27, ground := Ground.data }, { on := 21, ground := Ground.guard }], guard := some (21, true) },
    { dst := some 52, op := Op.binOp BinOp.sub 3 (Operand.tmp 49) (Operand.tmp 51) 3, type := 3, pos := "lent.go:813", after := #[{ on := 26, ground := Ground.data }, { on := 28, ground := Ground.data }, { on := 21, ground := Ground.guard }], guard := some (21, true) },
    { dst := some 53, op := Op.call { callee := Callee.value (Operand.func 24), args := #[Operand.const (Value.int IntKind.i64 1), Operand.tmp 52], argTypes := #[3, 3] }, type := 45, pos := "lent.go:813", after := #[{ on := 29, ground := Ground.data }, { on := 21, ground := Ground.chain }, { on := 21, ground := Ground.guard }], guard := some (21, true) },
    { dst := some 54, op := Op.call { callee := Callee.value (Operand.func 33), args := #[Operand.tmp 48, Operand.tmp 53], argTypes := #[45, 45] }, type := 4, pos := "lent.go:813", after := #[{ on := 25, ground := Ground.data }, { on := 30, ground := Ground.data }, { on := 30, ground := Ground.chain }, { on := 21, ground := Ground.guard }], guard := some (21, true) },
    { dst := some 55, op := Op.unOp UnOp.not 4 (Operand.tmp 54), type := 4, pos := "lent.go:813", after := #[{ on := 31, ground := Ground.data }, { on := 21, ground := Ground.guard }], guard := some (21, true) },
    { dst := some 56, op := Op.pick (Operand.tmp 44) (Operand.tmp 55) (Operand.const (Value.bool false)), type := 4, pos := "lent.go:813", after := #[{ on := 21, ground := Ground.data }, { on := 32, ground := Ground.data }, { on := 16, ground := Ground.guard }], guard := some (16, false) },
    { dst := some 57, op := Op.pick (Operand.tmp 39) (Operand.const (Value.bool true)) (Operand.tmp 56), type := 4, pos := "lent.go:813", after := #[{ on := 16, ground := Ground.data }, { on := 33, ground := Ground.data }], guard := none }]
def keptP_slot : Nat → Nat
  | 0 => 23
  | 1 => 24
  | 2 => 25
  | 3 => 26
  | 4 => 27
  | 5 => 28
  | 6 => 29
  | 7 => 30
  | 8 => 31
  | 9 => 32
  | 10 => 33
  | 11 => 34
  | 12 => 35
  | 13 => 36
  | 14 => 37
  | 15 => 38
  | 16 => 39
  | 17 => 40
  | 18 => 41
  | 19 => 42
  | 20 => 43
  | 21 => 44
  | 22 => 45
  | 23 => 46
  | 24 => 47
  | 25 => 48
  | 26 => 49
  | 27 => 50
  | 28 => 51
  | 29 => 52
  | 30 => 53
  | 31 => 54
  | 32 => 55
  | 33 => 56
  | 34 => 57
  | j + 35 => 1058 + j

set_option maxRecDepth 100000 in
theorem keptP_inj (i j : Nat) (hi : i < 35) (hj : j < 35) (h : keptP_slot i = keptP_slot j) : i = j := by
  have key : ∀ i j : Fin 35, keptP_slot i.val = keptP_slot j.val → i = j := by decide
  exact Fin.mk.inj (key ⟨i, hi⟩ ⟨j, hj⟩ h)
def keptA_val (n k jj R b off cl T l h pc h0 : Nat) (pp : Option Addr) : Nat → Value → World → Prop
  | 0, v, w => v = .int .i64 (k : Nat)
  | 1, v, w => v = .slice (some ⟨b, off, none⟩) n cl
  | 2, v, w => v = .int .i64 (n : Nat)
  | 3, v, w => v = .bool true
  | 4, v, w => v = .bool true
  | 5, v, w => v = .slice (some ⟨R, 0, none⟩) (n + 12) (n + 12)
  | 6, v, w => v = .int .i64 (k : Nat)
  | 7, v, w => v = .pointer (some ⟨R, k * 2, none⟩)
  | 8, v, w => v = .agg #[.int .u8 (T : Nat), .slice (some ⟨h, 0, none⟩) l (l + 12)]
  | 9, v, w => v = .slice (some ⟨b, off, none⟩) n cl
  | 10, v, w => v = .int .i64 (k : Nat)
  | 11, v, w => v = .pointer (some ⟨b, off + k * 2, none⟩)
  | 12, v, w => v = .agg #[.int .u8 (T : Nat), .slice pp l pc]
  | 13, v, w => v = .bool true
  | 14, v, w => v = .bool false
  | 15, v, w => v = .bool false
  | 16, v, w => v = .bool false
  | 17, v, w => v = .int .i64 (k : Nat)
  | 18, v, w => v = .slice (some ⟨b, off, none⟩) n cl
  | 19, v, w => v = .int .i64 (n : Nat)
  | 20, v, w => v = .bool false
  | 21, v, w => v = .bool false
  | 22, v, w => v = undef
  | 23, v, w => v = undef
  | 24, v, w => v = undef
  | 25, v, w => v = undef
  | 26, v, w => v = undef
  | 27, v, w => v = undef
  | 28, v, w => v = undef
  | 29, v, w => v = undef
  | 30, v, w => v = undef
  | 31, v, w => v = undef
  | 32, v, w => v = undef
  | 33, v, w => v = .bool false
  | 34, v, w => v = .bool false
  | _, _, _ => True
theorem keptA_below (n k jj R b off cl T l h pc h0 : Nat) (pp : Option Addr) (w w' : World) (hb : Below w.heap.size w w') : ∀ j v, keptA_val n k jj R b off cl T l h pc h0 pp j v w → keptA_val n k jj R b off cl T l h pc h0 pp j v w' := by
  intro j v h
  match j, h with
  | 0, h => exact h
  | 1, h => exact h
  | 2, h => exact h
  | 3, h => exact h
  | 4, h => exact h
  | 5, h => exact h
  | 6, h => exact h
  | 7, h => exact h
  | 8, h => exact h
  | 9, h => exact h
  | 10, h => exact h
  | 11, h => exact h
  | 12, h => exact h
  | 13, h => exact h
  | 14, h => exact h
  | 15, h => exact h
  | 16, h => exact h
  | 17, h => exact h
  | 18, h => exact h
  | 19, h => exact h
  | 20, h => exact h
  | 21, h => exact h
  | 22, h => exact h
  | 23, h => exact h
  | 24, h => exact h
  | 25, h => exact h
  | 26, h => exact h
  | 27, h => exact h
  | 28, h => exact h
  | 29, h => exact h
  | 30, h => exact h
  | 31, h => exact h
  | 32, h => exact h
  | 33, h => exact h
  | 34, h => exact h
  | _ + 35, h => exact h

set_option maxRecDepth 100000 in
set_option maxHeartbeats 2000000 in
theorem keptA (n k jj R b off cl T l h pc h0 : Nat) (pp : Option Addr) (Q : Exit → Act → World → Prop) (t0 : Array Value) (w0 : World) (ht : t0.size = 58)
    (hs1 : t0.getD 1 undef = .slice (some ⟨b, off, none⟩) n cl) (hs5 : t0.getD 5 undef = .slice (some ⟨R, 0, none⟩) (n + 12) (n + 12)) (hs6 : t0.getD 6 undef = .int .i64 (k : Nat))
    (hkn : Hid (k < n)) (hq0 : w0.cell? ⟨R, k * 2, none⟩ = some (.int .u8 (T : Nat))) (hq1 : w0.cell? ⟨R, k * 2 + 1, none⟩ = some (.slice (some ⟨h, 0, none⟩) l (l + 12))) (hp0 : w0.cell? ⟨b, off + k * 2, none⟩ = some (.int .u8 (T : Nat))) (hp1 : w0.cell? ⟨b, off + k * 2 + 1, none⟩ = some (.slice pp l pc))
    (cs : ∀ W, Below w0.heap.size w0 W → Calls Tryz.prog 32 #[.agg #[.int .u8 (T : Nat), .slice (some ⟨h, 0, none⟩) l (l + 12)], .agg #[.int .u8 (T : Nat), .slice pp l pc]] W fun e w' => e = .returned (.bool true) ∧ Below W.heap.size W w')
    (hQ : ∀ (vs : Nat → Value) (w : World), Below w0.heap.size w0 w → (vs 57 = .bool false) → Q .normal { tmps := [23, 24, 25, 26, 27, 28, 29, 30, 31, 32, 33, 34, 35, 36, 37, 38, 39, 40, 41, 42, 43, 44, 45, 46, 47, 48, 49, 50, 51, 52, 53, 54, 55, 56, 57].foldl (fun y d => y.setIfInBounds d (vs d)) t0, defers := [] } w) :
    (Code.region 7 keptP_ops true).wp Tryz.prog Q { tmps := t0, defers := [] } w0 := by
  have hsl : ∀ j, j < 35 → keptP_mem (keptP_slot j) := by
    intro j hj
    match j, hj with
    | 0, _ => exact (by decide : keptP_mem 23)
    | 1, _ => exact (by decide : keptP_mem 24)
    | 2, _ => exact (by decide : keptP_mem 25)
    | 3, _ => exact (by decide : keptP_mem 26)
    | 4, _ => exact (by decide : keptP_mem 27)
    | 5, _ => exact (by decide : keptP_mem 28)
    | 6, _ => exact (by decide : keptP_mem 29)
    | 7, _ => exact (by decide : keptP_mem 30)
    | 8, _ => exact (by decide : keptP_mem 31)
    | 9, _ => exact (by decide : keptP_mem 32)
    | 10, _ => exact (by decide : keptP_mem 33)
    | 11, _ => exact (by decide : keptP_mem 34)
    | 12, _ => exact (by decide : keptP_mem 35)
    | 13, _ => exact (by decide : keptP_mem 36)
    | 14, _ => exact (by decide : keptP_mem 37)
    | 15, _ => exact (by decide : keptP_mem 38)
    | 16, _ => exact (by decide : keptP_mem 39)
    | 17, _ => exact (by decide : keptP_mem 40)
    | 18, _ => exact (by decide : keptP_mem 41)
    | 19, _ => exact (by decide : keptP_mem 42)
    | 20, _ => exact (by decide : keptP_mem 43)
    | 21, _ => exact (by decide : keptP_mem 44)
    | 22, _ => exact (by decide : keptP_mem 45)
    | 23, _ => exact (by decide : keptP_mem 46)
    | 24, _ => exact (by decide : keptP_mem 47)
    | 25, _ => exact (by decide : keptP_mem 48)
    | 26, _ => exact (by decide : keptP_mem 49)
    | 27, _ => exact (by decide : keptP_mem 50)
    | 28, _ => exact (by decide : keptP_mem 51)
    | 29, _ => exact (by decide : keptP_mem 52)
    | 30, _ => exact (by decide : keptP_mem 53)
    | 31, _ => exact (by decide : keptP_mem 54)
    | 32, _ => exact (by decide : keptP_mem 55)
    | 33, _ => exact (by decide : keptP_mem 56)
    | 34, _ => exact (by decide : keptP_mem 57)
    | k + 35, hj => omega
  refine wp_region_inv (by kernel_rfl) keptP_slot (keptA_val n k jj R b off cl T l h pc h0 pp) t0 w0 ?_ ?_ ?_ (keptA_below n k jj R b off cl T l h pc h0 pp) ?_ ?_
  · intro j o ho
    have hj : j < 35 := (Array.getElem?_eq_some_iff.1 ho).1
    rw [ht]
    match j, ho with
    | 0, ho => cases ho; exact ⟨rfl, by decide⟩
    | 1, ho => cases ho; exact ⟨rfl, by decide⟩
    | 2, ho => cases ho; exact ⟨rfl, by decide⟩
    | 3, ho => cases ho; exact ⟨rfl, by decide⟩
    | 4, ho => cases ho; exact ⟨rfl, by decide⟩
    | 5, ho => cases ho; exact ⟨rfl, by decide⟩
    | 6, ho => cases ho; exact ⟨rfl, by decide⟩
    | 7, ho => cases ho; exact ⟨rfl, by decide⟩
    | 8, ho => cases ho; exact ⟨rfl, by decide⟩
    | 9, ho => cases ho; exact ⟨rfl, by decide⟩
    | 10, ho => cases ho; exact ⟨rfl, by decide⟩
    | 11, ho => cases ho; exact ⟨rfl, by decide⟩
    | 12, ho => cases ho; exact ⟨rfl, by decide⟩
    | 13, ho => cases ho; exact ⟨rfl, by decide⟩
    | 14, ho => cases ho; exact ⟨rfl, by decide⟩
    | 15, ho => cases ho; exact ⟨rfl, by decide⟩
    | 16, ho => cases ho; exact ⟨rfl, by decide⟩
    | 17, ho => cases ho; exact ⟨rfl, by decide⟩
    | 18, ho => cases ho; exact ⟨rfl, by decide⟩
    | 19, ho => cases ho; exact ⟨rfl, by decide⟩
    | 20, ho => cases ho; exact ⟨rfl, by decide⟩
    | 21, ho => cases ho; exact ⟨rfl, by decide⟩
    | 22, ho => cases ho; exact ⟨rfl, by decide⟩
    | 23, ho => cases ho; exact ⟨rfl, by decide⟩
    | 24, ho => cases ho; exact ⟨rfl, by decide⟩
    | 25, ho => cases ho; exact ⟨rfl, by decide⟩
    | 26, ho => cases ho; exact ⟨rfl, by decide⟩
    | 27, ho => cases ho; exact ⟨rfl, by decide⟩
    | 28, ho => cases ho; exact ⟨rfl, by decide⟩
    | 29, ho => cases ho; exact ⟨rfl, by decide⟩
    | 30, ho => cases ho; exact ⟨rfl, by decide⟩
    | 31, ho => cases ho; exact ⟨rfl, by decide⟩
    | 32, ho => cases ho; exact ⟨rfl, by decide⟩
    | 33, ho => cases ho; exact ⟨rfl, by decide⟩
    | 34, ho => cases ho; exact ⟨rfl, by decide⟩
    | k + 35, _ => omega
  · intro i j hi hj h
    exact keptP_inj i j hi hj h
  · intro j o ho
    have hj : j < 35 := (Array.getElem?_eq_some_iff.1 ho).1
    match j, ho with
    | 0, ho => cases ho; decide
    | 1, ho => cases ho; decide
    | 2, ho => cases ho; decide
    | 3, ho => cases ho; decide
    | 4, ho => cases ho; decide
    | 5, ho => cases ho; decide
    | 6, ho => cases ho; decide
    | 7, ho => cases ho; decide
    | 8, ho => cases ho; decide
    | 9, ho => cases ho; decide
    | 10, ho => cases ho; decide
    | 11, ho => cases ho; decide
    | 12, ho => cases ho; decide
    | 13, ho => cases ho; decide
    | 14, ho => cases ho; decide
    | 15, ho => cases ho; decide
    | 16, ho => cases ho; decide
    | 17, ho => cases ho; decide
    | 18, ho => cases ho; decide
    | 19, ho => cases ho; decide
    | 20, ho => cases ho; decide
    | 21, ho => cases ho; decide
    | 22, ho => cases ho; decide
    | 23, ho => cases ho; decide
    | 24, ho => cases ho; decide
    | 25, ho => cases ho; decide
    | 26, ho => cases ho; decide
    | 27, ho => cases ho; decide
    | 28, ho => cases ho; decide
    | 29, ho => cases ho; decide
    | 30, ho => cases ho; decide
    | 31, ho => cases ho; decide
    | 32, ho => cases ho; decide
    | 33, ho => cases ho; decide
    | 34, ho => cases ho; decide
    | k + 35, _ => omega
  · intro j o ho x w hB hdef hsz hs hdeps
    have hs' : ∀ s, ¬ keptP_mem s → x.tmps.getD s undef = t0.getD s undef := fun s hn => hs s (fun j hj e => hn (by rw [e]; exact hsl j hj))
    have u1 := (hs' 1 (by decide)).trans hs1
    have u5 := (hs' 5 (by decide)).trans hs5
    have u6 := (hs' 6 (by decide)).trans hs6
    have hj : j < 35 := (Array.getElem?_eq_some_iff.1 ho).1
    clear hs hs' hsl hsz ht hQ hs1 hs5 hs6
    simp only [Array.getD_eq_getD_getElem?] at u1 u5 u6
    match j, ho with
    | 0, ho =>
      have e : o = { dst := some 23, op := Op.move (Operand.tmp 6), type := 3, pos := "lent.go:813", after := #[], guard := none } := (Option.some.inj ho).symm
      subst e
      clear hdeps
      refine wpOp_step ho (fun K hK => ?_)
      clear ho
      go_simp
      exact hK _ _ ⟨_, act_putD x hdef _ _, rfl, Below.refl _ _⟩
    | 1, ho =>
      have e : o = { dst := some 24, op := Op.move (Operand.tmp 1), type := 22, pos := "lent.go:813", after := #[], guard := none } := (Option.some.inj ho).symm
      subst e
      clear hdeps
      refine wpOp_step ho (fun K hK => ?_)
      clear ho
      go_simp
      exact hK _ _ ⟨_, act_putD x hdef _ _, rfl, Below.refl _ _⟩
    | 2, ho =>
      have e : o = { dst := some 25, op := Op.call { callee := Callee.builtin Builtin.len, args := #[Operand.tmp 24], argTypes := #[22] }, type := 3, pos := "lent.go:813", after := #[{ on := 1, ground := Ground.data }], guard := none } := (Option.some.inj ho).symm
      subst e
      have q1 : x.tmps.getD 24 undef = .slice (some ⟨b, off, none⟩) n cl := hdeps { on := 1, ground := Ground.data } (by simp) rfl
      simp only [Array.getD_eq_getD_getElem?] at q1
      clear hdeps
      refine wpOp_step ho (fun K hK => ?_)
      clear ho
      go_simp
      exact hK _ _ ⟨_, act_putD x hdef _ _, rfl, Below.refl _ _⟩
    | 3, ho =>
      have e : o = { dst := some 26, op := Op.binOp BinOp.lss 3 (Operand.tmp 23) (Operand.tmp 25) 3, type := 4, pos := "lent.go:813", after := #[{ on := 0, ground := Ground.data }, { on := 2, ground := Ground.data }], guard := none } := (Option.some.inj ho).symm
      subst e
      have q0 : x.tmps.getD 23 undef = .int .i64 (k : Nat) := hdeps { on := 0, ground := Ground.data } (by simp) rfl
      have q2 : x.tmps.getD 25 undef = .int .i64 (n : Nat) := hdeps { on := 2, ground := Ground.data } (by simp) rfl
      simp only [Array.getD_eq_getD_getElem?] at q0 q2
      clear hdeps
      have kz : (k : Int) < (n : Int) := by have := hkn.out; omega
      have kz0 : (0 : Int) ≤ (k : Int) := by omega
      have kz1 : (k : Int) < (n : Int) + 12 := by omega
      refine wpOp_step ho (fun K hK => ?_)
      clear ho
      go_simp
      exact hK _ _ ⟨_, act_putD x hdef _ _, rfl, Below.refl _ _⟩
    | 4, ho =>
      have e : o = { dst := some 27, op := Op.move (Operand.tmp 26), type := 4, pos := "lent.go:813", after := #[{ on := 3, ground := Ground.data }], guard := none } := (Option.some.inj ho).symm
      subst e
      have q3 : x.tmps.getD 26 undef = .bool true := hdeps { on := 3, ground := Ground.data } (by simp) rfl
      simp only [Array.getD_eq_getD_getElem?] at q3
      clear hdeps
      refine wpOp_step ho (fun K hK => ?_)
      clear ho
      go_simp
      exact hK _ _ ⟨_, act_putD x hdef _ _, rfl, Below.refl _ _⟩
    | 5, ho =>
      have e : o = { dst := some 28, op := Op.move (Operand.tmp 5), type := 22, pos := "lent.go:813", after := #[{ on := 4, ground := Ground.guard }], guard := some (4, true) } := (Option.some.inj ho).symm
      subst e
      have q4 : x.tmps.getD 27 undef = .bool true := hdeps { on := 4, ground := Ground.guard } (by simp) rfl
      have e4 : (keptP_ops[4]?.bind fun x => x.dst) = some 27 := rfl
      have g4 := get_someD q4 (fun h => by cases h)
      simp only [Array.getD_eq_getD_getElem?] at q4
      clear hdeps
      refine wpOp_step ho (fun K hK => ?_)
      clear ho
      go_simp
      exact hK _ _ ⟨_, act_putD x hdef _ _, rfl, Below.refl _ _⟩
    | 6, ho =>
      have e : o = { dst := some 29, op := Op.move (Operand.tmp 6), type := 3, pos := "lent.go:813", after := #[{ on := 4, ground := Ground.guard }], guard := some (4, true) } := (Option.some.inj ho).symm
      subst e
      have q4 : x.tmps.getD 27 undef = .bool true := hdeps { on := 4, ground := Ground.guard } (by simp) rfl
      have e4 : (keptP_ops[4]?.bind fun x => x.dst) = some 27 := rfl
      have g4 := get_someD q4 (fun h => by cases h)
      simp only [Array.getD_eq_getD_getElem?] at q4
      clear hdeps
      refine wpOp_step ho (fun K hK => ?_)
      clear ho
      go_simp
      exact hK _ _ ⟨_, act_putD x hdef _ _, rfl, Below.refl _ _⟩
    | 7, ho =>
      have e : o = { dst := some 30, op := Op.indexAddr 22 (Operand.tmp 28) (Operand.tmp 29), type := 0, pos := "lent.go:813", after := #[{ on := 5, ground := Ground.data }, { on := 6, ground := Ground.data }, { on := 4, ground := Ground.guard }], guard := some (4, true) } := (Option.some.inj ho).symm
      subst e
      have q5 : x.tmps.getD 28 undef = .slice (some ⟨R, 0, none⟩) (n + 12) (n + 12) := hdeps { on := 5, ground := Ground.data } (by simp) rfl
      have q6 : x.tmps.getD 29 undef = .int .i64 (k : Nat) := hdeps { on := 6, ground := Ground.data } (by simp) rfl
      have q4 : x.tmps.getD 27 undef = .bool true := hdeps { on := 4, ground := Ground.guard } (by simp) rfl
      have e4 : (keptP_ops[4]?.bind fun x => x.dst) = some 27 := rfl
      have g4 := get_someD q4 (fun h => by cases h)
      simp only [Array.getD_eq_getD_getElem?] at q5 q6 q4
      clear hdeps
      have kz : (k : Int) < (n : Int) := by have := hkn.out; omega
      have kz0 : (0 : Int) ≤ (k : Int) := by omega
      have kz1 : (k : Int) < (n : Int) + 12 := by omega
      refine wpOp_step ho (fun K hK => ?_)
      clear ho
      go_simp
      exact hK _ _ ⟨_, act_putD x hdef _ _, rfl, Below.refl _ _⟩
    | 8, ho =>
      have e : o = { dst := some 31, op := Op.load 45 (Operand.tmp 30), type := 45, pos := "lent.go:813", after := #[{ on := 7, ground := Ground.data }, { on := 4, ground := Ground.guard }], guard := some (4, true) } := (Option.some.inj ho).symm
      subst e
      have q7 : x.tmps.getD 30 undef = .pointer (some ⟨R, k * 2, none⟩) := hdeps { on := 7, ground := Ground.data } (by simp) rfl
      have q4 : x.tmps.getD 27 undef = .bool true := hdeps { on := 4, ground := Ground.guard } (by simp) rfl
      have e4 : (keptP_ops[4]?.bind fun x => x.dst) = some 27 := rfl
      have g4 := get_someD q4 (fun h => by cases h)
      simp only [Array.getD_eq_getD_getElem?] at q7 q4
      clear hdeps
      have c0 := cell_thru hq0 hB
      have c1 := cell_thru hq1 hB
      refine wpOp_step ho (fun K hK => ?_)
      clear ho
      go_simp
      exact hK _ _ ⟨_, act_putD x hdef _ _, rfl, Below.refl _ _⟩
    | 9, ho =>
      have e : o = { dst := some 32, op := Op.move (Operand.tmp 1), type := 22, pos := "lent.go:813", after := #[{ on := 4, ground := Ground.guard }], guard := some (4, true) } := (Option.some.inj ho).symm
      subst e
      have q4 : x.tmps.getD 27 undef = .bool true := hdeps { on := 4, ground := Ground.guard } (by simp) rfl
      have e4 : (keptP_ops[4]?.bind fun x => x.dst) = some 27 := rfl
      have g4 := get_someD q4 (fun h => by cases h)
      simp only [Array.getD_eq_getD_getElem?] at q4
      clear hdeps
      refine wpOp_step ho (fun K hK => ?_)
      clear ho
      go_simp
      exact hK _ _ ⟨_, act_putD x hdef _ _, rfl, Below.refl _ _⟩
    | 10, ho =>
      have e : o = { dst := some 33, op := Op.move (Operand.tmp 6), type := 3, pos := "lent.go:813", after := #[{ on := 4, ground := Ground.guard }], guard := some (4, true) } := (Option.some.inj ho).symm
      subst e
      have q4 : x.tmps.getD 27 undef = .bool true := hdeps { on := 4, ground := Ground.guard } (by simp) rfl
      have e4 : (keptP_ops[4]?.bind fun x => x.dst) = some 27 := rfl
      have g4 := get_someD q4 (fun h => by cases h)
      simp only [Array.getD_eq_getD_getElem?] at q4
      clear hdeps
      refine wpOp_step ho (fun K hK => ?_)
      clear ho
      go_simp
      exact hK _ _ ⟨_, act_putD x hdef _ _, rfl, Below.refl _ _⟩
    | 11, ho =>
      have e : o = { dst := some 34, op := Op.indexAddr 22 (Operand.tmp 32) (Operand.tmp 33), type := 0, pos := "lent.go:813", after := #[{ on := 9, ground := Ground.data }, { on := 10, ground := Ground.data }, { on := 4, ground := Ground.guard }], guard := some (4, true) } := (Option.some.inj ho).symm
      subst e
      have q9 : x.tmps.getD 32 undef = .slice (some ⟨b, off, none⟩) n cl := hdeps { on := 9, ground := Ground.data } (by simp) rfl
      have q10 : x.tmps.getD 33 undef = .int .i64 (k : Nat) := hdeps { on := 10, ground := Ground.data } (by simp) rfl
      have q4 : x.tmps.getD 27 undef = .bool true := hdeps { on := 4, ground := Ground.guard } (by simp) rfl
      have e4 : (keptP_ops[4]?.bind fun x => x.dst) = some 27 := rfl
      have g4 := get_someD q4 (fun h => by cases h)
      simp only [Array.getD_eq_getD_getElem?] at q9 q10 q4
      clear hdeps
      have kz : (k : Int) < (n : Int) := by have := hkn.out; omega
      have kz0 : (0 : Int) ≤ (k : Int) := by omega
      have kz1 : (k : Int) < (n : Int) + 12 := by omega
      refine wpOp_step ho (fun K hK => ?_)
      clear ho
      go_simp
      exact hK _ _ ⟨_, act_putD x hdef _ _, rfl, Below.refl _ _⟩
    | 12, ho =>
      have e : o = { dst := some 35, op := Op.load 45 (Operand.tmp 34), type := 45, pos := "lent.go:813", after := #[{ on := 11, ground := Ground.data }, { on := 4, ground := Ground.guard }], guard := some (4, true) } := (Option.some.inj ho).symm
      subst e
      have q11 : x.tmps.getD 34 undef = .pointer (some ⟨b, off + k * 2, none⟩) := hdeps { on := 11, ground := Ground.data } (by simp) rfl
      have q4 : x.tmps.getD 27 undef = .bool true := hdeps { on := 4, ground := Ground.guard } (by simp) rfl
      have e4 : (keptP_ops[4]?.bind fun x => x.dst) = some 27 := rfl
      have g4 := get_someD q4 (fun h => by cases h)
      simp only [Array.getD_eq_getD_getElem?] at q11 q4
      clear hdeps
      have c0 := cell_thru hp0 hB
      have c1 := cell_thru hp1 hB
      refine wpOp_step ho (fun K hK => ?_)
      clear ho
      go_simp
      exact hK _ _ ⟨_, act_putD x hdef _ _, rfl, Below.refl _ _⟩
    | 13, ho =>
      have e : o = { dst := some 36, op := Op.call { callee := Callee.value (Operand.func 32), args := #[Operand.tmp 31, Operand.tmp 35], argTypes := #[45, 45] }, type := 4, pos := "lent.go:813", after := #[{ on := 8, ground := Ground.data }, { on := 12, ground := Ground.data }, { on := 4, ground := Ground.chain }, { on := 4, ground := Ground.guard }], guard := some (4, true) } := (Option.some.inj ho).symm
      subst e
      have q8 : x.tmps.getD 31 undef = .agg #[.int .u8 (T : Nat), .slice (some ⟨h, 0, none⟩) l (l + 12)] := hdeps { on := 8, ground := Ground.data } (by simp) rfl
      have q12 : x.tmps.getD 35 undef = .agg #[.int .u8 (T : Nat), .slice pp l pc] := hdeps { on := 12, ground := Ground.data } (by simp) rfl
      have q4 : x.tmps.getD 27 undef = .bool true := hdeps { on := 4, ground := Ground.guard } (by simp) rfl
      have e4 : (keptP_ops[4]?.bind fun x => x.dst) = some 27 := rfl
      have g4 := get_someD q4 (fun h => by cases h)
      simp only [Array.getD_eq_getD_getElem?] at q8 q12 q4
      clear hdeps
      refine wpOp_step ho (fun K hK => ?_)
      clear ho
      go_simp
      refine (cs w hB).mono ?_
      rintro e w' ⟨rfl, hb⟩
      exact hK _ _ ⟨_, act_putD x hdef _ _, rfl, hb⟩
    | 14, ho =>
      have e : o = { dst := some 37, op := Op.unOp UnOp.not 4 (Operand.tmp 36), type := 4, pos := "lent.go:813", after := #[{ on := 13, ground := Ground.data }, { on := 4, ground := Ground.guard }], guard := some (4, true) } := (Option.some.inj ho).symm
      subst e
      have q13 : x.tmps.getD 36 undef = .bool true := hdeps { on := 13, ground := Ground.data } (by simp) rfl
      have q4 : x.tmps.getD 27 undef = .bool true := hdeps { on := 4, ground := Ground.guard } (by simp) rfl
      have e4 : (keptP_ops[4]?.bind fun x => x.dst) = some 27 := rfl
      have g4 := get_someD q4 (fun h => by cases h)
      simp only [Array.getD_eq_getD_getElem?] at q13 q4
      clear hdeps
      refine wpOp_step ho (fun K hK => ?_)
      clear ho
      go_simp
      exact hK _ _ ⟨_, act_putD x hdef _ _, rfl, Below.refl _ _⟩
    | 15, ho =>
      have e : o = { dst := some 38, op := Op.pick (Operand.tmp 27) (Operand.tmp 37) (Operand.const (Value.bool false)), type := 4, pos := "lent.go:813", after := #[{ on := 4, ground := Ground.data }, { on := 14, ground := Ground.data }], guard := none } := (Option.some.inj ho).symm
      subst e
      have q4 : x.tmps.getD 27 undef = .bool true := hdeps { on := 4, ground := Ground.data } (by simp) rfl
      have q14 : x.tmps.getD 37 undef = .bool false := hdeps { on := 14, ground := Ground.data } (by simp) rfl
      simp only [Array.getD_eq_getD_getElem?] at q4 q14
      clear hdeps
      refine wpOp_step ho (fun K hK => ?_)
      clear ho
      go_simp
      exact hK _ _ ⟨_, act_putD x hdef _ _, rfl, Below.refl _ _⟩
    | 16, ho =>
      have e : o = { dst := some 39, op := Op.move (Operand.tmp 38), type := 4, pos := "lent.go:813", after := #[{ on := 15, ground := Ground.data }, { on := 13, ground := Ground.chain }], guard := none } := (Option.some.inj ho).symm
      subst e
      have q15 : x.tmps.getD 38 undef = .bool false := hdeps { on := 15, ground := Ground.data } (by simp) rfl
      simp only [Array.getD_eq_getD_getElem?] at q15
      clear hdeps
      refine wpOp_step ho (fun K hK => ?_)
      clear ho
      go_simp
      exact hK _ _ ⟨_, act_putD x hdef _ _, rfl, Below.refl _ _⟩
    | 17, ho =>
      have e : o = { dst := some 40, op := Op.move (Operand.tmp 6), type := 3, pos := "lent.go:813", after := #[{ on := 16, ground := Ground.guard }], guard := some (16, false) } := (Option.some.inj ho).symm
      subst e
      have q16 : x.tmps.getD 39 undef = .bool false := hdeps { on := 16, ground := Ground.guard } (by simp) rfl
      have e16 : (keptP_ops[16]?.bind fun x => x.dst) = some 39 := rfl
      have g16 := get_someD q16 (fun h => by cases h)
      simp only [Array.getD_eq_getD_getElem?] at q16
      clear hdeps
      refine wpOp_step ho (fun K hK => ?_)
      clear ho
      go_simp
      exact hK _ _ ⟨_, act_putD x hdef _ _, rfl, Below.refl _ _⟩
    | 18, ho =>
      have e : o = { dst := some 41, op := Op.move (Operand.tmp 1), type := 22, pos := "lent.go:813", after := #[{ on := 16, ground := Ground.guard }], guard := some (16, false) } := (Option.some.inj ho).symm
      subst e
      have q16 : x.tmps.getD 39 undef = .bool false := hdeps { on := 16, ground := Ground.guard } (by simp) rfl
      have e16 : (keptP_ops[16]?.bind fun x => x.dst) = some 39 := rfl
      have g16 := get_someD q16 (fun h => by cases h)
      simp only [Array.getD_eq_getD_getElem?] at q16
      clear hdeps
      refine wpOp_step ho (fun K hK => ?_)
      clear ho
      go_simp
      exact hK _ _ ⟨_, act_putD x hdef _ _, rfl, Below.refl _ _⟩
    | 19, ho =>
      have e : o = { dst := some 42, op := Op.call { callee := Callee.builtin Builtin.len, args := #[Operand.tmp 41], argTypes := #[22] }, type := 3, pos := "lent.go:813", after := #[{ on := 18, ground := Ground.data }, { on := 16, ground := Ground.guard }], guard := some (16, false) } := (Option.some.inj ho).symm
      subst e
      have q18 : x.tmps.getD 41 undef = .slice (some ⟨b, off, none⟩) n cl := hdeps { on := 18, ground := Ground.data } (by simp) rfl
      have q16 : x.tmps.getD 39 undef = .bool false := hdeps { on := 16, ground := Ground.guard } (by simp) rfl
      have e16 : (keptP_ops[16]?.bind fun x => x.dst) = some 39 := rfl
      have g16 := get_someD q16 (fun h => by cases h)
      simp only [Array.getD_eq_getD_getElem?] at q18 q16
      clear hdeps
      refine wpOp_step ho (fun K hK => ?_)
      clear ho
      go_simp
      exact hK _ _ ⟨_, act_putD x hdef _ _, rfl, Below.refl _ _⟩
    | 20, ho =>
      have e : o = { dst := some 43, op := Op.binOp BinOp.geq 3 (Operand.tmp 40) (Operand.tmp 42) 3, type := 4, pos := "lent.go:813", after := #[{ on := 17, ground := Ground.data }, { on := 19, ground := Ground.data }, { on := 16, ground := Ground.guard }], guard := some (16, false) } := (Option.some.inj ho).symm
      subst e
      have q17 : x.tmps.getD 40 undef = .int .i64 (k : Nat) := hdeps { on := 17, ground := Ground.data } (by simp) rfl
      have q19 : x.tmps.getD 42 undef = .int .i64 (n : Nat) := hdeps { on := 19, ground := Ground.data } (by simp) rfl
      have q16 : x.tmps.getD 39 undef = .bool false := hdeps { on := 16, ground := Ground.guard } (by simp) rfl
      have e16 : (keptP_ops[16]?.bind fun x => x.dst) = some 39 := rfl
      have g16 := get_someD q16 (fun h => by cases h)
      simp only [Array.getD_eq_getD_getElem?] at q17 q19 q16
      clear hdeps
      have kz : (k : Int) < (n : Int) := by have := hkn.out; omega
      have kz0 : (0 : Int) ≤ (k : Int) := by omega
      have kz1 : (k : Int) < (n : Int) + 12 := by omega
      have hd1 : decide ((n : Int) ≤ (k : Int)) = false := decide_eq_false (by omega)
      have hd2 : decide (n ≤ k) = false := decide_eq_false (by have := hkn.out; omega)
      refine wpOp_step ho (fun K hK => ?_)
      clear ho
      go_simp
      exact hK _ _ ⟨_, act_putD x hdef _ _, rfl, Below.refl _ _⟩
    | 21, ho =>
      have e : o = { dst := some 44, op := Op.move (Operand.tmp 43), type := 4, pos := "lent.go:813", after := #[{ on := 20, ground := Ground.data }, { on := 16, ground := Ground.chain }, { on := 16, ground := Ground.guard }], guard := some (16, false) } := (Option.some.inj ho).symm
      subst e
      have q20 : x.tmps.getD 43 undef = .bool false := hdeps { on := 20, ground := Ground.data } (by simp) rfl
      have q16 : x.tmps.getD 39 undef = .bool false := hdeps { on := 16, ground := Ground.guard } (by simp) rfl
      have e16 : (keptP_ops[16]?.bind fun x => x.dst) = some 39 := rfl
      have g16 := get_someD q16 (fun h => by cases h)
      simp only [Array.getD_eq_getD_getElem?] at q20 q16
      clear hdeps
      refine wpOp_step ho (fun K hK => ?_)
      clear ho
      go_simp
      exact hK _ _ ⟨_, act_putD x hdef _ _, rfl, Below.refl _ _⟩
    | 22, ho =>
      have e : o = { dst := some 45, op := Op.move (Operand.tmp 5), type := 22, pos := "lent.go:813", after := #[{ on := 21, ground := Ground.guard }], guard := some (21, true) } := (Option.some.inj ho).symm
      subst e
      have q21 : x.tmps.getD 44 undef = .bool false := hdeps { on := 21, ground := Ground.guard } (by simp) rfl
      have e21 : (keptP_ops[21]?.bind fun x => x.dst) = some 44 := rfl
      have g21 := get_someD q21 (fun h => by cases h)
      simp only [Array.getD_eq_getD_getElem?] at q21
      clear hdeps
      refine wpOp_step ho (fun K hK => ?_)
      clear ho
      go_simp
      exact hK _ _ ⟨_, act_putD x hdef _ _, rfl, Below.refl _ _⟩
    | 23, ho =>
      have e : o = { dst := some 46, op := Op.move (Operand.tmp 6), type := 3, pos := "lent.go:813", after := #[{ on := 21, ground := Ground.guard }], guard := some (21, true) } := (Option.some.inj ho).symm
      subst e
      have q21 : x.tmps.getD 44 undef = .bool false := hdeps { on := 21, ground := Ground.guard } (by simp) rfl
      have e21 : (keptP_ops[21]?.bind fun x => x.dst) = some 44 := rfl
      have g21 := get_someD q21 (fun h => by cases h)
      simp only [Array.getD_eq_getD_getElem?] at q21
      clear hdeps
      refine wpOp_step ho (fun K hK => ?_)
      clear ho
      go_simp
      exact hK _ _ ⟨_, act_putD x hdef _ _, rfl, Below.refl _ _⟩
    | 24, ho =>
      have e : o = { dst := some 47, op := Op.indexAddr 22 (Operand.tmp 45) (Operand.tmp 46), type := 0, pos := "lent.go:813", after := #[{ on := 22, ground := Ground.data }, { on := 23, ground := Ground.data }, { on := 21, ground := Ground.guard }], guard := some (21, true) } := (Option.some.inj ho).symm
      subst e
      have q22 : x.tmps.getD 45 undef = undef := hdeps { on := 22, ground := Ground.data } (by simp) rfl
      have q23 : x.tmps.getD 46 undef = undef := hdeps { on := 23, ground := Ground.data } (by simp) rfl
      have q21 : x.tmps.getD 44 undef = .bool false := hdeps { on := 21, ground := Ground.guard } (by simp) rfl
      have e21 : (keptP_ops[21]?.bind fun x => x.dst) = some 44 := rfl
      have g21 := get_someD q21 (fun h => by cases h)
      simp only [Array.getD_eq_getD_getElem?] at q22 q23 q21
      clear hdeps
      refine wpOp_step ho (fun K hK => ?_)
      clear ho
      go_simp
      exact hK _ _ ⟨_, act_putD x hdef _ _, rfl, Below.refl _ _⟩
    | 25, ho =>
      have e : o = { dst := some 48, op := Op.load 45 (Operand.tmp 47), type := 45, pos := "lent.go:813", after := #[{ on := 24, ground := Ground.data }, { on := 21, ground := Ground.guard }], guard := some (21, true) } := (Option.some.inj ho).symm
      subst e
      have q24 : x.tmps.getD 47 undef = undef := hdeps { on := 24, ground := Ground.data } (by simp) rfl
      have q21 : x.tmps.getD 44 undef = .bool false := hdeps { on := 21, ground := Ground.guard } (by simp) rfl
      have e21 : (keptP_ops[21]?.bind fun x => x.dst) = some 44 := rfl
      have g21 := get_someD q21 (fun h => by cases h)
      simp only [Array.getD_eq_getD_getElem?] at q24 q21
      clear hdeps
      refine wpOp_step ho (fun K hK => ?_)
      clear ho
      go_simp
      exact hK _ _ ⟨_, act_putD x hdef _ _, rfl, Below.refl _ _⟩
    | 26, ho =>
      have e : o = { dst := some 49, op := Op.move (Operand.tmp 6), type := 3, pos := "lent.go:813", after := #[{ on := 21, ground := Ground.guard }], guard := some (21, true) } := (Option.some.inj ho).symm
      subst e
      have q21 : x.tmps.getD 44 undef = .bool false := hdeps { on := 21, ground := Ground.guard } (by simp) rfl
      have e21 : (keptP_ops[21]?.bind fun x => x.dst) = some 44 := rfl
      have g21 := get_someD q21 (fun h => by cases h)
      simp only [Array.getD_eq_getD_getElem?] at q21
      clear hdeps
      refine wpOp_step ho (fun K hK => ?_)
      clear ho
      go_simp
      exact hK _ _ ⟨_, act_putD x hdef _ _, rfl, Below.refl _ _⟩
    | 27, ho =>
      have e : o = { dst := some 50, op := Op.move (Operand.tmp 1), type := 22, pos := "lent.go:813", after := #[{ on := 21, ground := Ground.guard }], guard := some (21, true) } := (Option.some.inj ho).symm
      subst e
      have q21 : x.tmps.getD 44 undef = .bool false := hdeps { on := 21, ground := Ground.guard } (by simp) rfl
      have e21 : (keptP_ops[21]?.bind fun x => x.dst) = some 44 := rfl
      have g21 := get_someD q21 (fun h => by cases h)
      simp only [Array.getD_eq_getD_getElem?] at q21
      clear hdeps
      refine wpOp_step ho (fun K hK => ?_)
      clear ho
      go_simp
      exact hK _ _ ⟨_, act_putD x hdef _ _, rfl, Below.refl _ _⟩
    | 28, ho =>
      have e : o = { dst := some 51, op := Op.call { callee := Callee.builtin Builtin.len, args := #[Operand.tmp 50], argTypes := #[22] }, type := 3, pos := "lent.go:813", after := #[{ on := 27, ground := Ground.data }, { on := 21, ground := Ground.guard }], guard := some (21, true) } := (Option.some.inj ho).symm
      subst e
      have q27 : x.tmps.getD 50 undef = undef := hdeps { on := 27, ground := Ground.data } (by simp) rfl
      have q21 : x.tmps.getD 44 undef = .bool false := hdeps { on := 21, ground := Ground.guard } (by simp) rfl
      have e21 : (keptP_ops[21]?.bind fun x => x.dst) = some 44 := rfl
      have g21 := get_someD q21 (fun h => by cases h)
      simp only [Array.getD_eq_getD_getElem?] at q27 q21
      clear hdeps
      refine wpOp_step ho (fun K hK => ?_)
      clear ho
      go_simp
      exact hK _ _ ⟨_, act_putD x hdef _ _, rfl, Below.refl _ _⟩
    | 29, ho =>
      have e : o = { dst := some 52, op := Op.binOp BinOp.sub 3 (Operand.tmp 49) (Operand.tmp 51) 3, type := 3, pos := "lent.go:813", after := #[{ on := 26, ground := Ground.data }, { on := 28, ground := Ground.data }, { on := 21, ground := Ground.guard }], guard := some (21, true) } := (Option.some.inj ho).symm
      subst e
      have q26 : x.tmps.getD 49 undef = undef := hdeps { on := 26, ground := Ground.data } (by simp) rfl
      have q28 : x.tmps.getD 51 undef = undef := hdeps { on := 28, ground := Ground.data } (by simp) rfl
      have q21 : x.tmps.getD 44 undef = .bool false := hdeps { on := 21, ground := Ground.guard } (by simp) rfl
      have e21 : (keptP_ops[21]?.bind fun x => x.dst) = some 44 := rfl
      have g21 := get_someD q21 (fun h => by cases h)
      simp only [Array.getD_eq_getD_getElem?] at q26 q28 q21
      clear hdeps
      refine wpOp_step ho (fun K hK => ?_)
      clear ho
      go_simp
      exact hK _ _ ⟨_, act_putD x hdef _ _, rfl, Below.refl _ _⟩
    | 30, ho =>
      have e : o = { dst := some 53, op := Op.call { callee := Callee.value (Operand.func 24), args := #[Operand.const (Value.int IntKind.i64 1), Operand.tmp 52], argTypes := #[3, 3] }, type := 45, pos := "lent.go:813", after := #[{ on := 29, ground := Ground.data }, { on := 21, ground := Ground.chain }, { on := 21, ground := Ground.guard }], guard := some (21, true) } := (Option.some.inj ho).symm
      subst e
      have q29 : x.tmps.getD 52 undef = undef := hdeps { on := 29, ground := Ground.data } (by simp) rfl
      have q21 : x.tmps.getD 44 undef = .bool false := hdeps { on := 21, ground := Ground.guard } (by simp) rfl
      have e21 : (keptP_ops[21]?.bind fun x => x.dst) = some 44 := rfl
      have g21 := get_someD q21 (fun h => by cases h)
      simp only [Array.getD_eq_getD_getElem?] at q29 q21
      clear hdeps
      refine wpOp_step ho (fun K hK => ?_)
      clear ho
      go_simp
      exact hK _ _ ⟨_, act_putD x hdef _ _, rfl, Below.refl _ _⟩
    | 31, ho =>
      have e : o = { dst := some 54, op := Op.call { callee := Callee.value (Operand.func 33), args := #[Operand.tmp 48, Operand.tmp 53], argTypes := #[45, 45] }, type := 4, pos := "lent.go:813", after := #[{ on := 25, ground := Ground.data }, { on := 30, ground := Ground.data }, { on := 30, ground := Ground.chain }, { on := 21, ground := Ground.guard }], guard := some (21, true) } := (Option.some.inj ho).symm
      subst e
      have q25 : x.tmps.getD 48 undef = undef := hdeps { on := 25, ground := Ground.data } (by simp) rfl
      have q30 : x.tmps.getD 53 undef = undef := hdeps { on := 30, ground := Ground.data } (by simp) rfl
      have q21 : x.tmps.getD 44 undef = .bool false := hdeps { on := 21, ground := Ground.guard } (by simp) rfl
      have e21 : (keptP_ops[21]?.bind fun x => x.dst) = some 44 := rfl
      have g21 := get_someD q21 (fun h => by cases h)
      simp only [Array.getD_eq_getD_getElem?] at q25 q30 q21
      clear hdeps
      refine wpOp_step ho (fun K hK => ?_)
      clear ho
      go_simp
      exact hK _ _ ⟨_, act_putD x hdef _ _, rfl, Below.refl _ _⟩
    | 32, ho =>
      have e : o = { dst := some 55, op := Op.unOp UnOp.not 4 (Operand.tmp 54), type := 4, pos := "lent.go:813", after := #[{ on := 31, ground := Ground.data }, { on := 21, ground := Ground.guard }], guard := some (21, true) } := (Option.some.inj ho).symm
      subst e
      have q31 : x.tmps.getD 54 undef = undef := hdeps { on := 31, ground := Ground.data } (by simp) rfl
      have q21 : x.tmps.getD 44 undef = .bool false := hdeps { on := 21, ground := Ground.guard } (by simp) rfl
      have e21 : (keptP_ops[21]?.bind fun x => x.dst) = some 44 := rfl
      have g21 := get_someD q21 (fun h => by cases h)
      simp only [Array.getD_eq_getD_getElem?] at q31 q21
      clear hdeps
      refine wpOp_step ho (fun K hK => ?_)
      clear ho
      go_simp
      exact hK _ _ ⟨_, act_putD x hdef _ _, rfl, Below.refl _ _⟩
    | 33, ho =>
      have e : o = { dst := some 56, op := Op.pick (Operand.tmp 44) (Operand.tmp 55) (Operand.const (Value.bool false)), type := 4, pos := "lent.go:813", after := #[{ on := 21, ground := Ground.data }, { on := 32, ground := Ground.data }, { on := 16, ground := Ground.guard }], guard := some (16, false) } := (Option.some.inj ho).symm
      subst e
      have q21 : x.tmps.getD 44 undef = .bool false := hdeps { on := 21, ground := Ground.data } (by simp) rfl
      have q32 : x.tmps.getD 55 undef = undef := hdeps { on := 32, ground := Ground.data } (by simp) rfl
      have q16 : x.tmps.getD 39 undef = .bool false := hdeps { on := 16, ground := Ground.guard } (by simp) rfl
      have e16 : (keptP_ops[16]?.bind fun x => x.dst) = some 39 := rfl
      have g16 := get_someD q16 (fun h => by cases h)
      simp only [Array.getD_eq_getD_getElem?] at q21 q32 q16
      clear hdeps
      refine wpOp_step ho (fun K hK => ?_)
      clear ho
      go_simp
      exact hK _ _ ⟨_, act_putD x hdef _ _, rfl, Below.refl _ _⟩
    | 34, ho =>
      have e : o = { dst := some 57, op := Op.pick (Operand.tmp 39) (Operand.const (Value.bool true)) (Operand.tmp 56), type := 4, pos := "lent.go:813", after := #[{ on := 16, ground := Ground.data }, { on := 33, ground := Ground.data }], guard := none } := (Option.some.inj ho).symm
      subst e
      have q16 : x.tmps.getD 39 undef = .bool false := hdeps { on := 16, ground := Ground.data } (by simp) rfl
      have q33 : x.tmps.getD 56 undef = .bool false := hdeps { on := 33, ground := Ground.data } (by simp) rfl
      simp only [Array.getD_eq_getD_getElem?] at q16 q33
      clear hdeps
      refine wpOp_step ho (fun K hK => ?_)
      clear ho
      go_simp
      exact hK _ _ ⟨_, act_putD x hdef _ _, rfl, Below.refl _ _⟩
    | k + 35, _ => omega
  · intro x w hB hdef hsz hs hv
    have hx := frame_sets x.tmps t0 hsz [23, 24, 25, 26, 27, 28, 29, 30, 31, 32, 33, 34, 35, 36, 37, 38, 39, 40, 41, 42, 43, 44, 45, 46, 47, 48, 49, 50, 51, 52, 53, 54, 55, 56, 57] (fun s hn => hs s (fun j hj e => hn (keptP_list s (by rw [e]; exact hsl j hj))))
    have hq := hQ (fun d => x.tmps.getD d undef) w hB (hv 34 (by decide))
    obtain ⟨T, Df⟩ := x
    dsimp only at hx hdef hq
    subst hdef
    rw [← hx] at hq
    exact hq
def keptB_val (n k jj R b off cl T l h pc h0 : Nat) (pp lA : Option Addr) : Nat → Value → World → Prop
  | 0, v, w => v = .int .i64 (k : Nat)
  | 1, v, w => v = .slice lA n cl
  | 2, v, w => v = .int .i64 (n : Nat)
  | 3, v, w => v = .bool false
  | 4, v, w => v = .bool false
  | 5, v, w => v = undef
  | 6, v, w => v = undef
  | 7, v, w => v = undef
  | 8, v, w => v = undef
  | 9, v, w => v = undef
  | 10, v, w => v = undef
  | 11, v, w => v = undef
  | 12, v, w => v = undef
  | 13, v, w => v = undef
  | 14, v, w => v = undef
  | 15, v, w => v = .bool false
  | 16, v, w => v = .bool false
  | 17, v, w => v = .int .i64 (k : Nat)
  | 18, v, w => v = .slice lA n cl
  | 19, v, w => v = .int .i64 (n : Nat)
  | 20, v, w => v = .bool true
  | 21, v, w => v = .bool true
  | 22, v, w => v = .slice (some ⟨R, 0, none⟩) (n + 12) (n + 12)
  | 23, v, w => v = .int .i64 (k : Nat)
  | 24, v, w => v = .pointer (some ⟨R, k * 2, none⟩)
  | 25, v, w => v = .agg #[.int .u8 0, .slice (some ⟨h0, 0, none⟩) 1 1]
  | 26, v, w => v = .int .i64 (k : Nat)
  | 27, v, w => v = .slice lA n cl
  | 28, v, w => v = .int .i64 (n : Nat)
  | 29, v, w => v = .int .i64 (jj : Nat)
  | 30, v, w => ∃ γ, v = .agg #[.int .u8 0, .slice (some ⟨γ, 0, none⟩) 1 1] ∧ PartFlat.gd w γ 1 jj
  | 31, v, w => v = .bool true
  | 32, v, w => v = .bool false
  | 33, v, w => v = .bool false
  | 34, v, w => v = .bool false
  | _, _, _ => True
theorem keptB_below (n k jj R b off cl T l h pc h0 : Nat) (pp lA : Option Addr) (w w' : World) (hb : Below w.heap.size w w') : ∀ j v, keptB_val n k jj R b off cl T l h pc h0 pp lA j v w → keptB_val n k jj R b off cl T l h pc h0 pp lA j v w' := by
  intro j v h
  match j, h with
  | 0, h => exact h
  | 1, h => exact h
  | 2, h => exact h
  | 3, h => exact h
  | 4, h => exact h
  | 5, h => exact h
  | 6, h => exact h
  | 7, h => exact h
  | 8, h => exact h
  | 9, h => exact h
  | 10, h => exact h
  | 11, h => exact h
  | 12, h => exact h
  | 13, h => exact h
  | 14, h => exact h
  | 15, h => exact h
  | 16, h => exact h
  | 17, h => exact h
  | 18, h => exact h
  | 19, h => exact h
  | 20, h => exact h
  | 21, h => exact h
  | 22, h => exact h
  | 23, h => exact h
  | 24, h => exact h
  | 25, h => exact h
  | 26, h => exact h
  | 27, h => exact h
  | 28, h => exact h
  | 29, h => exact h
  | 30, h => obtain ⟨γ, h1, h2⟩ := h; exact ⟨γ, h1, PartFlat.gd_below h2 hb⟩
  | 31, h => exact h
  | 32, h => exact h
  | 33, h => exact h
  | 34, h => exact h
  | _ + 35, h => exact h

set_option maxRecDepth 100000 in
set_option maxHeartbeats 2000000 in
theorem keptB (n k jj R b off cl T l h pc h0 : Nat) (pp lA : Option Addr) (Q : Exit → Act → World → Prop) (t0 : Array Value) (w0 : World) (ht : t0.size = 58)
    (hs1 : t0.getD 1 undef = .slice lA n cl) (hs5 : t0.getD 5 undef = .slice (some ⟨R, 0, none⟩) (n + 12) (n + 12)) (hs6 : t0.getD 6 undef = .int .i64 (k : Nat))
    (hkn : Hid (k = n + jj ∧ jj < 12 ∧ n ≤ 1000000)) (hq0 : w0.cell? ⟨R, k * 2, none⟩ = some (.int .u8 0)) (hq1 : w0.cell? ⟨R, k * 2 + 1, none⟩ = some (.slice (some ⟨h0, 0, none⟩) 1 1))
    (cm : ∀ W, Calls Tryz.prog 24 #[.int .i64 1, .int .i64 (jj : Nat)] W fun e w' => ∃ γ, e = .returned (.agg #[.int .u8 0, .slice (some ⟨γ, 0, none⟩) 1 1]) ∧ PartFlat.gd w' γ 1 jj ∧ Below W.heap.size W w')
    (cs : ∀ W γ, Below w0.heap.size w0 W → PartFlat.gd W γ 1 jj → Calls Tryz.prog 33 #[.agg #[.int .u8 0, .slice (some ⟨h0, 0, none⟩) 1 1], .agg #[.int .u8 0, .slice (some ⟨γ, 0, none⟩) 1 1]] W fun e w' => e = .returned (.bool true) ∧ Below W.heap.size W w')
    (hQ : ∀ (vs : Nat → Value) (w : World), Below w0.heap.size w0 w → (vs 57 = .bool false) → Q .normal { tmps := [23, 24, 25, 26, 27, 28, 29, 30, 31, 32, 33, 34, 35, 36, 37, 38, 39, 40, 41, 42, 43, 44, 45, 46, 47, 48, 49, 50, 51, 52, 53, 54, 55, 56, 57].foldl (fun y d => y.setIfInBounds d (vs d)) t0, defers := [] } w) :
    (Code.region 7 keptP_ops true).wp Tryz.prog Q { tmps := t0, defers := [] } w0 := by
  have hsl : ∀ j, j < 35 → keptP_mem (keptP_slot j) := by
    intro j hj
    match j, hj with
    | 0, _ => exact (by decide : keptP_mem 23)
    | 1, _ => exact (by decide : keptP_mem 24)
    | 2, _ => exact (by decide : keptP_mem 25)
    | 3, _ => exact (by decide : keptP_mem 26)
    | 4, _ => exact (by decide : keptP_mem 27)
    | 5, _ => exact (by decide : keptP_mem 28)
    | 6, _ => exact (by decide : keptP_mem 29)
    | 7, _ => exact (by decide : keptP_mem 30)
    | 8, _ => exact (by decide : keptP_mem 31)
    | 9, _ => exact (by decide : keptP_mem 32)
    | 10, _ => exact (by decide : keptP_mem 33)
    | 11, _ => exact (by decide : keptP_mem 34)
    | 12, _ => exact (by decide : keptP_mem 35)
    | 13, _ => exact (by decide : keptP_mem 36)
    | 14, _ => exact (by decide : keptP_mem 37)
    | 15, _ => exact (by decide : keptP_mem 38)
    | 16, _ => exact (by decide : keptP_mem 39)
    | 17, _ => exact (by decide : keptP_mem 40)
    | 18, _ => exact (by decide : keptP_mem 41)
    | 19, _ => exact (by decide : keptP_mem 42)
    | 20, _ => exact (by decide : keptP_mem 43)
    | 21, _ => exact (by decide : keptP_mem 44)
    | 22, _ => exact (by decide : keptP_mem 45)
    | 23, _ => exact (by decide : keptP_mem 46)
    | 24, _ => exact (by decide : keptP_mem 47)
    | 25, _ => exact (by decide : keptP_mem 48)
    | 26, _ => exact (by decide : keptP_mem 49)
    | 27, _ => exact (by decide : keptP_mem 50)
    | 28, _ => exact (by decide : keptP_mem 51)
    | 29, _ => exact (by decide : keptP_mem 52)
    | 30, _ => exact (by decide : keptP_mem 53)
    | 31, _ => exact (by decide : keptP_mem 54)
    | 32, _ => exact (by decide : keptP_mem 55)
    | 33, _ => exact (by decide : keptP_mem 56)
    | 34, _ => exact (by decide : keptP_mem 57)
    | k + 35, hj => omega
  refine wp_region_inv (by kernel_rfl) keptP_slot (keptB_val n k jj R b off cl T l h pc h0 pp lA) t0 w0 ?_ ?_ ?_ (keptB_below n k jj R b off cl T l h pc h0 pp lA) ?_ ?_
  · intro j o ho
    have hj : j < 35 := (Array.getElem?_eq_some_iff.1 ho).1
    rw [ht]
    match j, ho with
    | 0, ho => cases ho; exact ⟨rfl, by decide⟩
    | 1, ho => cases ho; exact ⟨rfl, by decide⟩
    | 2, ho => cases ho; exact ⟨rfl, by decide⟩
    | 3, ho => cases ho; exact ⟨rfl, by decide⟩
    | 4, ho => cases ho; exact ⟨rfl, by decide⟩
    | 5, ho => cases ho; exact ⟨rfl, by decide⟩
    | 6, ho => cases ho; exact ⟨rfl, by decide⟩
    | 7, ho => cases ho; exact ⟨rfl, by decide⟩
    | 8, ho => cases ho; exact ⟨rfl, by decide⟩
    | 9, ho => cases ho; exact ⟨rfl, by decide⟩
    | 10, ho => cases ho; exact ⟨rfl, by decide⟩
    | 11, ho => cases ho; exact ⟨rfl, by decide⟩
    | 12, ho => cases ho; exact ⟨rfl, by decide⟩
    | 13, ho => cases ho; exact ⟨rfl, by decide⟩
    | 14, ho => cases ho; exact ⟨rfl, by decide⟩
    | 15, ho => cases ho; exact ⟨rfl, by decide⟩
    | 16, ho => cases ho; exact ⟨rfl, by decide⟩
    | 17, ho => cases ho; exact ⟨rfl, by decide⟩
    | 18, ho => cases ho; exact ⟨rfl, by decide⟩
    | 19, ho => cases ho; exact ⟨rfl, by decide⟩
    | 20, ho => cases ho; exact ⟨rfl, by decide⟩
    | 21, ho => cases ho; exact ⟨rfl, by decide⟩
    | 22, ho => cases ho; exact ⟨rfl, by decide⟩
    | 23, ho => cases ho; exact ⟨rfl, by decide⟩
    | 24, ho => cases ho; exact ⟨rfl, by decide⟩
    | 25, ho => cases ho; exact ⟨rfl, by decide⟩
    | 26, ho => cases ho; exact ⟨rfl, by decide⟩
    | 27, ho => cases ho; exact ⟨rfl, by decide⟩
    | 28, ho => cases ho; exact ⟨rfl, by decide⟩
    | 29, ho => cases ho; exact ⟨rfl, by decide⟩
    | 30, ho => cases ho; exact ⟨rfl, by decide⟩
    | 31, ho => cases ho; exact ⟨rfl, by decide⟩
    | 32, ho => cases ho; exact ⟨rfl, by decide⟩
    | 33, ho => cases ho; exact ⟨rfl, by decide⟩
    | 34, ho => cases ho; exact ⟨rfl, by decide⟩
    | k + 35, _ => omega
  · intro i j hi hj h
    exact keptP_inj i j hi hj h
  · intro j o ho
    have hj : j < 35 := (Array.getElem?_eq_some_iff.1 ho).1
    match j, ho with
    | 0, ho => cases ho; decide
    | 1, ho => cases ho; decide
    | 2, ho => cases ho; decide
    | 3, ho => cases ho; decide
    | 4, ho => cases ho; decide
    | 5, ho => cases ho; decide
    | 6, ho => cases ho; decide
    | 7, ho => cases ho; decide
    | 8, ho => cases ho; decide
    | 9, ho => cases ho; decide
    | 10, ho => cases ho; decide
    | 11, ho => cases ho; decide
    | 12, ho => cases ho; decide
    | 13, ho => cases ho; decide
    | 14, ho => cases ho; decide
    | 15, ho => cases ho; decide
    | 16, ho => cases ho; decide
    | 17, ho => cases ho; decide
    | 18, ho => cases ho; decide
    | 19, ho => cases ho; decide
    | 20, ho => cases ho; decide
    | 21, ho => cases ho; decide
    | 22, ho => cases ho; decide
    | 23, ho => cases ho; decide
    | 24, ho => cases ho; decide
    | 25, ho => cases ho; decide
    | 26, ho => cases ho; decide
    | 27, ho => cases ho; decide
    | 28, ho => cases ho; decide
    | 29, ho => cases ho; decide
    | 30, ho => cases ho; decide
    | 31, ho => cases ho; decide
    | 32, ho => cases ho; decide
    | 33, ho => cases ho; decide
    | 34, ho => cases ho; decide
    | k + 35, _ => omega
  · intro j o ho x w hB hdef hsz hs hdeps
    have hs' : ∀ s, ¬ keptP_mem s → x.tmps.getD s undef = t0.getD s undef := fun s hn => hs s (fun j hj e => hn (by rw [e]; exact hsl j hj))
    have u1 := (hs' 1 (by decide)).trans hs1
    have u5 := (hs' 5 (by decide)).trans hs5
    have u6 := (hs' 6 (by decide)).trans hs6
    have hj : j < 35 := (Array.getElem?_eq_some_iff.1 ho).1
    clear hs hs' hsl hsz ht hQ hs1 hs5 hs6
    simp only [Array.getD_eq_getD_getElem?] at u1 u5 u6
    match j, ho with
    | 0, ho =>
      have e : o = { dst := some 23, op := Op.move (Operand.tmp 6), type := 3, pos := "lent.go:813", after := #[], guard := none } := (Option.some.inj ho).symm
      subst e
      clear hdeps
      refine wpOp_step ho (fun K hK => ?_)
      clear ho
      go_simp
      exact hK _ _ ⟨_, act_putD x hdef _ _, rfl, Below.refl _ _⟩
    | 1, ho =>
      have e : o = { dst := some 24, op := Op.move (Operand.tmp 1), type := 22, pos := "lent.go:813", after := #[], guard := none } := (Option.some.inj ho).symm
      subst e
      clear hdeps
      refine wpOp_step ho (fun K hK => ?_)
      clear ho
      go_simp
      exact hK _ _ ⟨_, act_putD x hdef _ _, rfl, Below.refl _ _⟩
    | 2, ho =>
      have e : o = { dst := some 25, op := Op.call { callee := Callee.builtin Builtin.len, args := #[Operand.tmp 24], argTypes := #[22] }, type := 3, pos := "lent.go:813", after := #[{ on := 1, ground := Ground.data }], guard := none } := (Option.some.inj ho).symm
      subst e
      have q1 : x.tmps.getD 24 undef = .slice lA n cl := hdeps { on := 1, ground := Ground.data } (by simp) rfl
      simp only [Array.getD_eq_getD_getElem?] at q1
      clear hdeps
      refine wpOp_step ho (fun K hK => ?_)
      clear ho
      go_simp
      exact hK _ _ ⟨_, act_putD x hdef _ _, rfl, Below.refl _ _⟩
    | 3, ho =>
      have e : o = { dst := some 26, op := Op.binOp BinOp.lss 3 (Operand.tmp 23) (Operand.tmp 25) 3, type := 4, pos := "lent.go:813", after := #[{ on := 0, ground := Ground.data }, { on := 2, ground := Ground.data }], guard := none } := (Option.some.inj ho).symm
      subst e
      have q0 : x.tmps.getD 23 undef = .int .i64 (k : Nat) := hdeps { on := 0, ground := Ground.data } (by simp) rfl
      have q2 : x.tmps.getD 25 undef = .int .i64 (n : Nat) := hdeps { on := 2, ground := Ground.data } (by simp) rfl
      simp only [Array.getD_eq_getD_getElem?] at q0 q2
      clear hdeps
      have kz1 : (k : Int) < (n : Int) + 12 := by have := hkn.out; omega
      have kz0 : (0 : Int) ≤ (k : Int) := by omega
      have kz2 : (n : Int) ≤ (k : Int) := by have := hkn.out; omega
      have hd1 : decide ((k : Int) < (n : Int)) = false := decide_eq_false (by omega)
      have hd2 : decide (k < n) = false := decide_eq_false (by have := hkn.out; omega)
      refine wpOp_step ho (fun K hK => ?_)
      clear ho
      go_simp
      exact hK _ _ ⟨_, act_putD x hdef _ _, rfl, Below.refl _ _⟩
    | 4, ho =>
      have e : o = { dst := some 27, op := Op.move (Operand.tmp 26), type := 4, pos := "lent.go:813", after := #[{ on := 3, ground := Ground.data }], guard := none } := (Option.some.inj ho).symm
      subst e
      have q3 : x.tmps.getD 26 undef = .bool false := hdeps { on := 3, ground := Ground.data } (by simp) rfl
      simp only [Array.getD_eq_getD_getElem?] at q3
      clear hdeps
      refine wpOp_step ho (fun K hK => ?_)
      clear ho
      go_simp
      exact hK _ _ ⟨_, act_putD x hdef _ _, rfl, Below.refl _ _⟩
    | 5, ho =>
      have e : o = { dst := some 28, op := Op.move (Operand.tmp 5), type := 22, pos := "lent.go:813", after := #[{ on := 4, ground := Ground.guard }], guard := some (4, true) } := (Option.some.inj ho).symm
      subst e
      have q4 : x.tmps.getD 27 undef = .bool false := hdeps { on := 4, ground := Ground.guard } (by simp) rfl
      have e4 : (keptP_ops[4]?.bind fun x => x.dst) = some 27 := rfl
      have g4 := get_someD q4 (fun h => by cases h)
      simp only [Array.getD_eq_getD_getElem?] at q4
      clear hdeps
      refine wpOp_step ho (fun K hK => ?_)
      clear ho
      go_simp
      exact hK _ _ ⟨_, act_putD x hdef _ _, rfl, Below.refl _ _⟩
    | 6, ho =>
      have e : o = { dst := some 29, op := Op.move (Operand.tmp 6), type := 3, pos := "lent.go:813", after := #[{ on := 4, ground := Ground.guard }], guard := some (4, true) } := (Option.some.inj ho).symm
      subst e
      have q4 : x.tmps.getD 27 undef = .bool false := hdeps { on := 4, ground := Ground.guard } (by simp) rfl
      have e4 : (keptP_ops[4]?.bind fun x => x.dst) = some 27 := rfl
      have g4 := get_someD q4 (fun h => by cases h)
      simp only [Array.getD_eq_getD_getElem?] at q4
      clear hdeps
      refine wpOp_step ho (fun K hK => ?_)
      clear ho
      go_simp
      exact hK _ _ ⟨_, act_putD x hdef _ _, rfl, Below.refl _ _⟩
    | 7, ho =>
      have e : o = { dst := some 30, op := Op.indexAddr 22 (Operand.tmp 28) (Operand.tmp 29), type := 0, pos := "lent.go:813", after := #[{ on := 5, ground := Ground.data }, { on := 6, ground := Ground.data }, { on := 4, ground := Ground.guard }], guard := some (4, true) } := (Option.some.inj ho).symm
      subst e
      have q5 : x.tmps.getD 28 undef = undef := hdeps { on := 5, ground := Ground.data } (by simp) rfl
      have q6 : x.tmps.getD 29 undef = undef := hdeps { on := 6, ground := Ground.data } (by simp) rfl
      have q4 : x.tmps.getD 27 undef = .bool false := hdeps { on := 4, ground := Ground.guard } (by simp) rfl
      have e4 : (keptP_ops[4]?.bind fun x => x.dst) = some 27 := rfl
      have g4 := get_someD q4 (fun h => by cases h)
      simp only [Array.getD_eq_getD_getElem?] at q5 q6 q4
      clear hdeps
      refine wpOp_step ho (fun K hK => ?_)
      clear ho
      go_simp
      exact hK _ _ ⟨_, act_putD x hdef _ _, rfl, Below.refl _ _⟩
    | 8, ho =>
      have e : o = { dst := some 31, op := Op.load 45 (Operand.tmp 30), type := 45, pos := "lent.go:813", after := #[{ on := 7, ground := Ground.data }, { on := 4, ground := Ground.guard }], guard := some (4, true) } := (Option.some.inj ho).symm
      subst e
      have q7 : x.tmps.getD 30 undef = undef := hdeps { on := 7, ground := Ground.data } (by simp) rfl
      have q4 : x.tmps.getD 27 undef = .bool false := hdeps { on := 4, ground := Ground.guard } (by simp) rfl
      have e4 : (keptP_ops[4]?.bind fun x => x.dst) = some 27 := rfl
      have g4 := get_someD q4 (fun h => by cases h)
      simp only [Array.getD_eq_getD_getElem?] at q7 q4
      clear hdeps
      refine wpOp_step ho (fun K hK => ?_)
      clear ho
      go_simp
      exact hK _ _ ⟨_, act_putD x hdef _ _, rfl, Below.refl _ _⟩
    | 9, ho =>
      have e : o = { dst := some 32, op := Op.move (Operand.tmp 1), type := 22, pos := "lent.go:813", after := #[{ on := 4, ground := Ground.guard }], guard := some (4, true) } := (Option.some.inj ho).symm
      subst e
      have q4 : x.tmps.getD 27 undef = .bool false := hdeps { on := 4, ground := Ground.guard } (by simp) rfl
      have e4 : (keptP_ops[4]?.bind fun x => x.dst) = some 27 := rfl
      have g4 := get_someD q4 (fun h => by cases h)
      simp only [Array.getD_eq_getD_getElem?] at q4
      clear hdeps
      refine wpOp_step ho (fun K hK => ?_)
      clear ho
      go_simp
      exact hK _ _ ⟨_, act_putD x hdef _ _, rfl, Below.refl _ _⟩
    | 10, ho =>
      have e : o = { dst := some 33, op := Op.move (Operand.tmp 6), type := 3, pos := "lent.go:813", after := #[{ on := 4, ground := Ground.guard }], guard := some (4, true) } := (Option.some.inj ho).symm
      subst e
      have q4 : x.tmps.getD 27 undef = .bool false := hdeps { on := 4, ground := Ground.guard } (by simp) rfl
      have e4 : (keptP_ops[4]?.bind fun x => x.dst) = some 27 := rfl
      have g4 := get_someD q4 (fun h => by cases h)
      simp only [Array.getD_eq_getD_getElem?] at q4
      clear hdeps
      refine wpOp_step ho (fun K hK => ?_)
      clear ho
      go_simp
      exact hK _ _ ⟨_, act_putD x hdef _ _, rfl, Below.refl _ _⟩
    | 11, ho =>
      have e : o = { dst := some 34, op := Op.indexAddr 22 (Operand.tmp 32) (Operand.tmp 33), type := 0, pos := "lent.go:813", after := #[{ on := 9, ground := Ground.data }, { on := 10, ground := Ground.data }, { on := 4, ground := Ground.guard }], guard := some (4, true) } := (Option.some.inj ho).symm
      subst e
      have q9 : x.tmps.getD 32 undef = undef := hdeps { on := 9, ground := Ground.data } (by simp) rfl
      have q10 : x.tmps.getD 33 undef = undef := hdeps { on := 10, ground := Ground.data } (by simp) rfl
      have q4 : x.tmps.getD 27 undef = .bool false := hdeps { on := 4, ground := Ground.guard } (by simp) rfl
      have e4 : (keptP_ops[4]?.bind fun x => x.dst) = some 27 := rfl
      have g4 := get_someD q4 (fun h => by cases h)
      simp only [Array.getD_eq_getD_getElem?] at q9 q10 q4
      clear hdeps
      refine wpOp_step ho (fun K hK => ?_)
      clear ho
      go_simp
      exact hK _ _ ⟨_, act_putD x hdef _ _, rfl, Below.refl _ _⟩
    | 12, ho =>
      have e : o = { dst := some 35, op := Op.load 45 (Operand.tmp 34), type := 45, pos := "lent.go:813", after := #[{ on := 11, ground := Ground.data }, { on := 4, ground := Ground.guard }], guard := some (4, true) } := (Option.some.inj ho).symm
      subst e
      have q11 : x.tmps.getD 34 undef = undef := hdeps { on := 11, ground := Ground.data } (by simp) rfl
      have q4 : x.tmps.getD 27 undef = .bool false := hdeps { on := 4, ground := Ground.guard } (by simp) rfl
      have e4 : (keptP_ops[4]?.bind fun x => x.dst) = some 27 := rfl
      have g4 := get_someD q4 (fun h => by cases h)
      simp only [Array.getD_eq_getD_getElem?] at q11 q4
      clear hdeps
      refine wpOp_step ho (fun K hK => ?_)
      clear ho
      go_simp
      exact hK _ _ ⟨_, act_putD x hdef _ _, rfl, Below.refl _ _⟩
    | 13, ho =>
      have e : o = { dst := some 36, op := Op.call { callee := Callee.value (Operand.func 32), args := #[Operand.tmp 31, Operand.tmp 35], argTypes := #[45, 45] }, type := 4, pos := "lent.go:813", after := #[{ on := 8, ground := Ground.data }, { on := 12, ground := Ground.data }, { on := 4, ground := Ground.chain }, { on := 4, ground := Ground.guard }], guard := some (4, true) } := (Option.some.inj ho).symm
      subst e
      have q8 : x.tmps.getD 31 undef = undef := hdeps { on := 8, ground := Ground.data } (by simp) rfl
      have q12 : x.tmps.getD 35 undef = undef := hdeps { on := 12, ground := Ground.data } (by simp) rfl
      have q4 : x.tmps.getD 27 undef = .bool false := hdeps { on := 4, ground := Ground.guard } (by simp) rfl
      have e4 : (keptP_ops[4]?.bind fun x => x.dst) = some 27 := rfl
      have g4 := get_someD q4 (fun h => by cases h)
      simp only [Array.getD_eq_getD_getElem?] at q8 q12 q4
      clear hdeps
      refine wpOp_step ho (fun K hK => ?_)
      clear ho
      go_simp
      exact hK _ _ ⟨_, act_putD x hdef _ _, rfl, Below.refl _ _⟩
    | 14, ho =>
      have e : o = { dst := some 37, op := Op.unOp UnOp.not 4 (Operand.tmp 36), type := 4, pos := "lent.go:813", after := #[{ on := 13, ground := Ground.data }, { on := 4, ground := Ground.guard }], guard := some (4, true) } := (Option.some.inj ho).symm
      subst e
      have q13 : x.tmps.getD 36 undef = undef := hdeps { on := 13, ground := Ground.data } (by simp) rfl
      have q4 : x.tmps.getD 27 undef = .bool false := hdeps { on := 4, ground := Ground.guard } (by simp) rfl
      have e4 : (keptP_ops[4]?.bind fun x => x.dst) = some 27 := rfl
      have g4 := get_someD q4 (fun h => by cases h)
      simp only [Array.getD_eq_getD_getElem?] at q13 q4
      clear hdeps
      refine wpOp_step ho (fun K hK => ?_)
      clear ho
      go_simp
      exact hK _ _ ⟨_, act_putD x hdef _ _, rfl, Below.refl _ _⟩
    | 15, ho =>
      have e : o = { dst := some 38, op := Op.pick (Operand.tmp 27) (Operand.tmp 37) (Operand.const (Value.bool false)), type := 4, pos := "lent.go:813", after := #[{ on := 4, ground := Ground.data }, { on := 14, ground := Ground.data }], guard := none } := (Option.some.inj ho).symm
      subst e
      have q4 : x.tmps.getD 27 undef = .bool false := hdeps { on := 4, ground := Ground.data } (by simp) rfl
      have q14 : x.tmps.getD 37 undef = undef := hdeps { on := 14, ground := Ground.data } (by simp) rfl
      simp only [Array.getD_eq_getD_getElem?] at q4 q14
      clear hdeps
      refine wpOp_step ho (fun K hK => ?_)
      clear ho
      go_simp
      exact hK _ _ ⟨_, act_putD x hdef _ _, rfl, Below.refl _ _⟩
    | 16, ho =>
      have e : o = { dst := some 39, op := Op.move (Operand.tmp 38), type := 4, pos := "lent.go:813", after := #[{ on := 15, ground := Ground.data }, { on := 13, ground := Ground.chain }], guard := none } := (Option.some.inj ho).symm
      subst e
      have q15 : x.tmps.getD 38 undef = .bool false := hdeps { on := 15, ground := Ground.data } (by simp) rfl
      simp only [Array.getD_eq_getD_getElem?] at q15
      clear hdeps
      refine wpOp_step ho (fun K hK => ?_)
      clear ho
      go_simp
      exact hK _ _ ⟨_, act_putD x hdef _ _, rfl, Below.refl _ _⟩
    | 17, ho =>
      have e : o = { dst := some 40, op := Op.move (Operand.tmp 6), type := 3, pos := "lent.go:813", after := #[{ on := 16, ground := Ground.guard }], guard := some (16, false) } := (Option.some.inj ho).symm
      subst e
      have q16 : x.tmps.getD 39 undef = .bool false := hdeps { on := 16, ground := Ground.guard } (by simp) rfl
      have e16 : (keptP_ops[16]?.bind fun x => x.dst) = some 39 := rfl
      have g16 := get_someD q16 (fun h => by cases h)
      simp only [Array.getD_eq_getD_getElem?] at q16
      clear hdeps
      refine wpOp_step ho (fun K hK => ?_)
      clear ho
      go_simp
      exact hK _ _ ⟨_, act_putD x hdef _ _, rfl, Below.refl _ _⟩
    | 18, ho =>
      have e : o = { dst := some 41, op := Op.move (Operand.tmp 1), type := 22, pos := "lent.go:813", after := #[{ on := 16, ground := Ground.guard }], guard := some (16, false) } := (Option.some.inj ho).symm
      subst e
      have q16 : x.tmps.getD 39 undef = .bool false := hdeps { on := 16, ground := Ground.guard } (by simp) rfl
      have e16 : (keptP_ops[16]?.bind fun x => x.dst) = some 39 := rfl
      have g16 := get_someD q16 (fun h => by cases h)
      simp only [Array.getD_eq_getD_getElem?] at q16
      clear hdeps
      refine wpOp_step ho (fun K hK => ?_)
      clear ho
      go_simp
      exact hK _ _ ⟨_, act_putD x hdef _ _, rfl, Below.refl _ _⟩
    | 19, ho =>
      have e : o = { dst := some 42, op := Op.call { callee := Callee.builtin Builtin.len, args := #[Operand.tmp 41], argTypes := #[22] }, type := 3, pos := "lent.go:813", after := #[{ on := 18, ground := Ground.data }, { on := 16, ground := Ground.guard }], guard := some (16, false) } := (Option.some.inj ho).symm
      subst e
      have q18 : x.tmps.getD 41 undef = .slice lA n cl := hdeps { on := 18, ground := Ground.data } (by simp) rfl
      have q16 : x.tmps.getD 39 undef = .bool false := hdeps { on := 16, ground := Ground.guard } (by simp) rfl
      have e16 : (keptP_ops[16]?.bind fun x => x.dst) = some 39 := rfl
      have g16 := get_someD q16 (fun h => by cases h)
      simp only [Array.getD_eq_getD_getElem?] at q18 q16
      clear hdeps
      refine wpOp_step ho (fun K hK => ?_)
      clear ho
      go_simp
      exact hK _ _ ⟨_, act_putD x hdef _ _, rfl, Below.refl _ _⟩
    | 20, ho =>
      have e : o = { dst := some 43, op := Op.binOp BinOp.geq 3 (Operand.tmp 40) (Operand.tmp 42) 3, type := 4, pos := "lent.go:813", after := #[{ on := 17, ground := Ground.data }, { on := 19, ground := Ground.data }, { on := 16, ground := Ground.guard }], guard := some (16, false) } := (Option.some.inj ho).symm
      subst e
      have q17 : x.tmps.getD 40 undef = .int .i64 (k : Nat) := hdeps { on := 17, ground := Ground.data } (by simp) rfl
      have q19 : x.tmps.getD 42 undef = .int .i64 (n : Nat) := hdeps { on := 19, ground := Ground.data } (by simp) rfl
      have q16 : x.tmps.getD 39 undef = .bool false := hdeps { on := 16, ground := Ground.guard } (by simp) rfl
      have e16 : (keptP_ops[16]?.bind fun x => x.dst) = some 39 := rfl
      have g16 := get_someD q16 (fun h => by cases h)
      simp only [Array.getD_eq_getD_getElem?] at q17 q19 q16
      clear hdeps
      have kz1 : (k : Int) < (n : Int) + 12 := by have := hkn.out; omega
      have kz0 : (0 : Int) ≤ (k : Int) := by omega
      have kz2 : (n : Int) ≤ (k : Int) := by have := hkn.out; omega
      refine wpOp_step ho (fun K hK => ?_)
      clear ho
      go_simp
      exact hK _ _ ⟨_, act_putD x hdef _ _, rfl, Below.refl _ _⟩
    | 21, ho =>
      have e : o = { dst := some 44, op := Op.move (Operand.tmp 43), type := 4, pos := "lent.go:813", after := #[{ on := 20, ground := Ground.data }, { on := 16, ground := Ground.chain }, { on := 16, ground := Ground.guard }], guard := some (16, false) } := (Option.some.inj ho).symm
      subst e
      have q20 : x.tmps.getD 43 undef = .bool true := hdeps { on := 20, ground := Ground.data } (by simp) rfl
      have q16 : x.tmps.getD 39 undef = .bool false := hdeps { on := 16, ground := Ground.guard } (by simp) rfl
      have e16 : (keptP_ops[16]?.bind fun x => x.dst) = some 39 := rfl
      have g16 := get_someD q16 (fun h => by cases h)
      simp only [Array.getD_eq_getD_getElem?] at q20 q16
      clear hdeps
      refine wpOp_step ho (fun K hK => ?_)
      clear ho
      go_simp
      exact hK _ _ ⟨_, act_putD x hdef _ _, rfl, Below.refl _ _⟩
    | 22, ho =>
      have e : o = { dst := some 45, op := Op.move (Operand.tmp 5), type := 22, pos := "lent.go:813", after := #[{ on := 21, ground := Ground.guard }], guard := some (21, true) } := (Option.some.inj ho).symm
      subst e
      have q21 : x.tmps.getD 44 undef = .bool true := hdeps { on := 21, ground := Ground.guard } (by simp) rfl
      have e21 : (keptP_ops[21]?.bind fun x => x.dst) = some 44 := rfl
      have g21 := get_someD q21 (fun h => by cases h)
      simp only [Array.getD_eq_getD_getElem?] at q21
      clear hdeps
      refine wpOp_step ho (fun K hK => ?_)
      clear ho
      go_simp
      exact hK _ _ ⟨_, act_putD x hdef _ _, rfl, Below.refl _ _⟩
    | 23, ho =>
      have e : o = { dst := some 46, op := Op.move (Operand.tmp 6), type := 3, pos := "lent.go:813", after := #[{ on := 21, ground := Ground.guard }], guard := some (21, true) } := (Option.some.inj ho).symm
      subst e
      have q21 : x.tmps.getD 44 undef = .bool true := hdeps { on := 21, ground := Ground.guard } (by simp) rfl
      have e21 : (keptP_ops[21]?.bind fun x => x.dst) = some 44 := rfl
      have g21 := get_someD q21 (fun h => by cases h)
      simp only [Array.getD_eq_getD_getElem?] at q21
      clear hdeps
      refine wpOp_step ho (fun K hK => ?_)
      clear ho
      go_simp
      exact hK _ _ ⟨_, act_putD x hdef _ _, rfl, Below.refl _ _⟩
    | 24, ho =>
      have e : o = { dst := some 47, op := Op.indexAddr 22 (Operand.tmp 45) (Operand.tmp 46), type := 0, pos := "lent.go:813", after := #[{ on := 22, ground := Ground.data }, { on := 23, ground := Ground.data }, { on := 21, ground := Ground.guard }], guard := some (21, true) } := (Option.some.inj ho).symm
      subst e
      have q22 : x.tmps.getD 45 undef = .slice (some ⟨R, 0, none⟩) (n + 12) (n + 12) := hdeps { on := 22, ground := Ground.data } (by simp) rfl
      have q23 : x.tmps.getD 46 undef = .int .i64 (k : Nat) := hdeps { on := 23, ground := Ground.data } (by simp) rfl
      have q21 : x.tmps.getD 44 undef = .bool true := hdeps { on := 21, ground := Ground.guard } (by simp) rfl
      have e21 : (keptP_ops[21]?.bind fun x => x.dst) = some 44 := rfl
      have g21 := get_someD q21 (fun h => by cases h)
      simp only [Array.getD_eq_getD_getElem?] at q22 q23 q21
      clear hdeps
      have kz1 : (k : Int) < (n : Int) + 12 := by have := hkn.out; omega
      have kz0 : (0 : Int) ≤ (k : Int) := by omega
      have kz2 : (n : Int) ≤ (k : Int) := by have := hkn.out; omega
      refine wpOp_step ho (fun K hK => ?_)
      clear ho
      go_simp
      exact hK _ _ ⟨_, act_putD x hdef _ _, rfl, Below.refl _ _⟩
    | 25, ho =>
      have e : o = { dst := some 48, op := Op.load 45 (Operand.tmp 47), type := 45, pos := "lent.go:813", after := #[{ on := 24, ground := Ground.data }, { on := 21, ground := Ground.guard }], guard := some (21, true) } := (Option.some.inj ho).symm
      subst e
      have q24 : x.tmps.getD 47 undef = .pointer (some ⟨R, k * 2, none⟩) := hdeps { on := 24, ground := Ground.data } (by simp) rfl
      have q21 : x.tmps.getD 44 undef = .bool true := hdeps { on := 21, ground := Ground.guard } (by simp) rfl
      have e21 : (keptP_ops[21]?.bind fun x => x.dst) = some 44 := rfl
      have g21 := get_someD q21 (fun h => by cases h)
      simp only [Array.getD_eq_getD_getElem?] at q24 q21
      clear hdeps
      have c0 := cell_thru hq0 hB
      have c1 := cell_thru hq1 hB
      refine wpOp_step ho (fun K hK => ?_)
      clear ho
      go_simp
      exact hK _ _ ⟨_, act_putD x hdef _ _, rfl, Below.refl _ _⟩
    | 26, ho =>
      have e : o = { dst := some 49, op := Op.move (Operand.tmp 6), type := 3, pos := "lent.go:813", after := #[{ on := 21, ground := Ground.guard }], guard := some (21, true) } := (Option.some.inj ho).symm
      subst e
      have q21 : x.tmps.getD 44 undef = .bool true := hdeps { on := 21, ground := Ground.guard } (by simp) rfl
      have e21 : (keptP_ops[21]?.bind fun x => x.dst) = some 44 := rfl
      have g21 := get_someD q21 (fun h => by cases h)
      simp only [Array.getD_eq_getD_getElem?] at q21
      clear hdeps
      refine wpOp_step ho (fun K hK => ?_)
      clear ho
      go_simp
      exact hK _ _ ⟨_, act_putD x hdef _ _, rfl, Below.refl _ _⟩
    | 27, ho =>
      have e : o = { dst := some 50, op := Op.move (Operand.tmp 1), type := 22, pos := "lent.go:813", after := #[{ on := 21, ground := Ground.guard }], guard := some (21, true) } := (Option.some.inj ho).symm
      subst e
      have q21 : x.tmps.getD 44 undef = .bool true := hdeps { on := 21, ground := Ground.guard } (by simp) rfl
      have e21 : (keptP_ops[21]?.bind fun x => x.dst) = some 44 := rfl
      have g21 := get_someD q21 (fun h => by cases h)
      simp only [Array.getD_eq_getD_getElem?] at q21
      clear hdeps
      refine wpOp_step ho (fun K hK => ?_)
      clear ho
      go_simp
      exact hK _ _ ⟨_, act_putD x hdef _ _, rfl, Below.refl _ _⟩
    | 28, ho =>
      have e : o = { dst := some 51, op := Op.call { callee := Callee.builtin Builtin.len, args := #[Operand.tmp 50], argTypes := #[22] }, type := 3, pos := "lent.go:813", after := #[{ on := 27, ground := Ground.data }, { on := 21, ground := Ground.guard }], guard := some (21, true) } := (Option.some.inj ho).symm
      subst e
      have q27 : x.tmps.getD 50 undef = .slice lA n cl := hdeps { on := 27, ground := Ground.data } (by simp) rfl
      have q21 : x.tmps.getD 44 undef = .bool true := hdeps { on := 21, ground := Ground.guard } (by simp) rfl
      have e21 : (keptP_ops[21]?.bind fun x => x.dst) = some 44 := rfl
      have g21 := get_someD q21 (fun h => by cases h)
      simp only [Array.getD_eq_getD_getElem?] at q27 q21
      clear hdeps
      refine wpOp_step ho (fun K hK => ?_)
      clear ho
      go_simp
      exact hK _ _ ⟨_, act_putD x hdef _ _, rfl, Below.refl _ _⟩
    | 29, ho =>
      have e : o = { dst := some 52, op := Op.binOp BinOp.sub 3 (Operand.tmp 49) (Operand.tmp 51) 3, type := 3, pos := "lent.go:813", after := #[{ on := 26, ground := Ground.data }, { on := 28, ground := Ground.data }, { on := 21, ground := Ground.guard }], guard := some (21, true) } := (Option.some.inj ho).symm
      subst e
      have q26 : x.tmps.getD 49 undef = .int .i64 (k : Nat) := hdeps { on := 26, ground := Ground.data } (by simp) rfl
      have q28 : x.tmps.getD 51 undef = .int .i64 (n : Nat) := hdeps { on := 28, ground := Ground.data } (by simp) rfl
      have q21 : x.tmps.getD 44 undef = .bool true := hdeps { on := 21, ground := Ground.guard } (by simp) rfl
      have e21 : (keptP_ops[21]?.bind fun x => x.dst) = some 44 := rfl
      have g21 := get_someD q21 (fun h => by cases h)
      simp only [Array.getD_eq_getD_getElem?] at q26 q28 q21
      clear hdeps
      have ks : IntKind.i64.wrap (jj : Int) = (jj : Int) := IntWalk.i64_in _ (by have := hkn.out; omega)
      have ks2 : (k : Int) - (n : Int) = (jj : Int) := by have := hkn.out; omega
      refine wpOp_step ho (fun K hK => ?_)
      clear ho
      go_simp
      exact hK _ _ ⟨_, act_putD x hdef _ _, rfl, Below.refl _ _⟩
    | 30, ho =>
      have e : o = { dst := some 53, op := Op.call { callee := Callee.value (Operand.func 24), args := #[Operand.const (Value.int IntKind.i64 1), Operand.tmp 52], argTypes := #[3, 3] }, type := 45, pos := "lent.go:813", after := #[{ on := 29, ground := Ground.data }, { on := 21, ground := Ground.chain }, { on := 21, ground := Ground.guard }], guard := some (21, true) } := (Option.some.inj ho).symm
      subst e
      have q29 : x.tmps.getD 52 undef = .int .i64 (jj : Nat) := hdeps { on := 29, ground := Ground.data } (by simp) rfl
      have q21 : x.tmps.getD 44 undef = .bool true := hdeps { on := 21, ground := Ground.guard } (by simp) rfl
      have e21 : (keptP_ops[21]?.bind fun x => x.dst) = some 44 := rfl
      have g21 := get_someD q21 (fun h => by cases h)
      simp only [Array.getD_eq_getD_getElem?] at q29 q21
      clear hdeps
      refine wpOp_step ho (fun K hK => ?_)
      clear ho
      go_simp
      refine (cm w).mono ?_
      rintro e w' ⟨γ, rfl, hg, hb⟩
      exact hK _ _ ⟨_, act_putD x hdef _ _, ⟨γ, rfl, hg⟩, hb⟩
    | 31, ho =>
      have e : o = { dst := some 54, op := Op.call { callee := Callee.value (Operand.func 33), args := #[Operand.tmp 48, Operand.tmp 53], argTypes := #[45, 45] }, type := 4, pos := "lent.go:813", after := #[{ on := 25, ground := Ground.data }, { on := 30, ground := Ground.data }, { on := 30, ground := Ground.chain }, { on := 21, ground := Ground.guard }], guard := some (21, true) } := (Option.some.inj ho).symm
      subst e
      have q25 : x.tmps.getD 48 undef = .agg #[.int .u8 0, .slice (some ⟨h0, 0, none⟩) 1 1] := hdeps { on := 25, ground := Ground.data } (by simp) rfl
      obtain ⟨γ30, q30, p30⟩ := hdeps { on := 30, ground := Ground.data } (by simp) rfl
      have q30 : x.tmps.getD 53 undef = .agg #[.int .u8 0, .slice (some ⟨γ30, 0, none⟩) 1 1] := q30
      have q21 : x.tmps.getD 44 undef = .bool true := hdeps { on := 21, ground := Ground.guard } (by simp) rfl
      have e21 : (keptP_ops[21]?.bind fun x => x.dst) = some 44 := rfl
      have g21 := get_someD q21 (fun h => by cases h)
      simp only [Array.getD_eq_getD_getElem?] at q25 q30 q21
      clear hdeps
      refine wpOp_step ho (fun K hK => ?_)
      clear ho
      go_simp
      refine (cs w γ30 hB p30).mono ?_
      rintro e w' ⟨rfl, hb⟩
      exact hK _ _ ⟨_, act_putD x hdef _ _, rfl, hb⟩
    | 32, ho =>
      have e : o = { dst := some 55, op := Op.unOp UnOp.not 4 (Operand.tmp 54), type := 4, pos := "lent.go:813", after := #[{ on := 31, ground := Ground.data }, { on := 21, ground := Ground.guard }], guard := some (21, true) } := (Option.some.inj ho).symm
      subst e
      have q31 : x.tmps.getD 54 undef = .bool true := hdeps { on := 31, ground := Ground.data } (by simp) rfl
      have q21 : x.tmps.getD 44 undef = .bool true := hdeps { on := 21, ground := Ground.guard } (by simp) rfl
      have e21 : (keptP_ops[21]?.bind fun x => x.dst) = some 44 := rfl
      have g21 := get_someD q21 (fun h => by cases h)
      simp only [Array.getD_eq_getD_getElem?] at q31 q21
      clear hdeps
      refine wpOp_step ho (fun K hK => ?_)
      clear ho
      go_simp
      exact hK _ _ ⟨_, act_putD x hdef _ _, rfl, Below.refl _ _⟩
    | 33, ho =>
      have e : o = { dst := some 56, op := Op.pick (Operand.tmp 44) (Operand.tmp 55) (Operand.const (Value.bool false)), type := 4, pos := "lent.go:813", after := #[{ on := 21, ground := Ground.data }, { on := 32, ground := Ground.data }, { on := 16, ground := Ground.guard }], guard := some (16, false) } := (Option.some.inj ho).symm
      subst e
      have q21 : x.tmps.getD 44 undef = .bool true := hdeps { on := 21, ground := Ground.data } (by simp) rfl
      have q32 : x.tmps.getD 55 undef = .bool false := hdeps { on := 32, ground := Ground.data } (by simp) rfl
      have q16 : x.tmps.getD 39 undef = .bool false := hdeps { on := 16, ground := Ground.guard } (by simp) rfl
      have e16 : (keptP_ops[16]?.bind fun x => x.dst) = some 39 := rfl
      have g16 := get_someD q16 (fun h => by cases h)
      simp only [Array.getD_eq_getD_getElem?] at q21 q32 q16
      clear hdeps
      refine wpOp_step ho (fun K hK => ?_)
      clear ho
      go_simp
      exact hK _ _ ⟨_, act_putD x hdef _ _, rfl, Below.refl _ _⟩
    | 34, ho =>
      have e : o = { dst := some 57, op := Op.pick (Operand.tmp 39) (Operand.const (Value.bool true)) (Operand.tmp 56), type := 4, pos := "lent.go:813", after := #[{ on := 16, ground := Ground.data }, { on := 33, ground := Ground.data }], guard := none } := (Option.some.inj ho).symm
      subst e
      have q16 : x.tmps.getD 39 undef = .bool false := hdeps { on := 16, ground := Ground.data } (by simp) rfl
      have q33 : x.tmps.getD 56 undef = .bool false := hdeps { on := 33, ground := Ground.data } (by simp) rfl
      simp only [Array.getD_eq_getD_getElem?] at q16 q33
      clear hdeps
      refine wpOp_step ho (fun K hK => ?_)
      clear ho
      go_simp
      exact hK _ _ ⟨_, act_putD x hdef _ _, rfl, Below.refl _ _⟩
    | k + 35, _ => omega
  · intro x w hB hdef hsz hs hv
    have hx := frame_sets x.tmps t0 hsz [23, 24, 25, 26, 27, 28, 29, 30, 31, 32, 33, 34, 35, 36, 37, 38, 39, 40, 41, 42, 43, 44, 45, 46, 47, 48, 49, 50, 51, 52, 53, 54, 55, 56, 57] (fun s hn => hs s (fun j hj e => hn (keptP_list s (by rw [e]; exact hsl j hj))))
    have hq := hQ (fun d => x.tmps.getD d undef) w hB (hv 34 (by decide))
    obtain ⟨T, Df⟩ := x
    dsimp only at hx hdef hq
    subst hdef
    rw [← hx] at hq
    exact hq

set_option maxRecDepth 100000 in
set_option maxHeartbeats 1000000 in
theorem keptParts_any (R : Nat) (a : Option Addr) (n ca : Nat) (P : Nat → Prt) (Qs : List Prt) (w : World) (hn : n ≤ 10000) (hl : ∀ i, i < n → (P i).B.length ≤ 10000) (ha : Prts w a n P) (hQ : LentP w R n P Qs) :
    Calls Tryz.prog 12 #[.slice (some ⟨R, 0, none⟩) n (n + 12), .slice a n ca] w fun e w' => e = .returned (.bool true) ∧ Below w.heap.size w w' := by
  have hn0 : (0 : Int) ≤ (n : Int) := by omega
  have hn1 : (n : Int) ≤ 10000 := by omega
  go_enter Tryz.func12, Tryz.ntmps12
  go_wp2
  go_loopg [6] (n + 12) (fun q s6 wr => ∃ k : Nat, k + q = n + 12 ∧ s6 = .int .i64 k ∧ Below w.heap.size w wr)
  case atStart => exact ⟨0, by omega, rfl, Below.refl _ _⟩
  case round =>
    obtain ⟨k, hkq, rfl, hbr⟩ := hrel
    have hk0 : (0 : Int) ≤ (k : Int) := by omega
    cases gk with
    | zero =>
      have hkz : ¬ ((k : Int) < (n : Int) + 12) := by omega
      clear ha hl hQ
      go_wp2
      go_ret
      exact ⟨rfl, hbr⟩
    | succ q =>
      have hkz : (k : Int) < (n : Int) + 12 := by omega
      have hQr := hQ.below hbr
      obtain ⟨e0, e1⟩ := rc_get Qs k (by have := hQ.1; omega)
      have hc := hQr.2.1.cells (g := R) rfl
      have x0 := hc _ _ e0
      have x1 := hc _ _ e1
      rw [add_none' _ rfl] at x0 x1
      simp only [Nat.zero_add] at x0 x1
      by_cases hkn : k < n
      · obtain ⟨b, off, rfl, ⟨y0, y1⟩, ok⟩ := (ha.below hbr).cells k hkn
        obtain ⟨hT, hQT, hQB, h, _, hpB, hcB, hblk⟩ := hQr.2.2.1 k hkn
        have hll := hl k hkn
        rw [hQT] at x0
        rw [hpB, hQB, hcB] at x1
        have cs := fun W hW => keptPart_any (P k).T (P k).B.length h (P k).cB (P k).B (P k).pB W rfl (by omega) (hblk.below (w' := W) hW) (ok.bB.below hW)
        have HK := hide hkn
        clear ha hl hQ hQr hc e0 e1 ok hQT hQB hpB hcB hblk hT hll hkn
        generalize (P k).T = T at *
        generalize (P k).B.length = l at *
        generalize (P k).cB = pc at *
        generalize (P k).pB = pp at *
        go_wp2
        refine keptA n k 0 R b off ca T l h pc 0 pp _ _ _ rfl rfl rfl rfl HK x0 x1 y0 y1 cs ?_
        intro vs w2 hB2 h57
        simp only [List.foldl_cons, List.foldl_nil, List.setIfInBounds_toArray, List.set_cons_succ, List.set_cons_zero]
        rw [h57]
        generalize vs 23 = z23
        generalize vs 24 = z24
        generalize vs 25 = z25
        generalize vs 26 = z26
        generalize vs 27 = z27
        generalize vs 28 = z28
        generalize vs 29 = z29
        generalize vs 30 = z30
        generalize vs 31 = z31
        generalize vs 32 = z32
        generalize vs 33 = z33
        generalize vs 34 = z34
        generalize vs 35 = z35
        generalize vs 36 = z36
        generalize vs 37 = z37
        generalize vs 38 = z38
        generalize vs 39 = z39
        generalize vs 40 = z40
        generalize vs 41 = z41
        generalize vs 42 = z42
        generalize vs 43 = z43
        generalize vs 44 = z44
        generalize vs 45 = z45
        generalize vs 46 = z46
        generalize vs 47 = z47
        generalize vs 48 = z48
        generalize vs 49 = z49
        generalize vs 50 = z50
        generalize vs 51 = z51
        generalize vs 52 = z52
        generalize vs 53 = z53
        generalize vs 54 = z54
        generalize vs 55 = z55
        generalize vs 56 = z56
        have HB := hide (hbr.trans (hB2.mono hbr.size))
        clear cs x0 x1 y0 y1 hB2
        go_wp2_with fail
        go_roundg q
        case measure => omega
        case rel => exact ⟨k + 1, by omega, by go_num, HB.out⟩
      · obtain ⟨j, rfl⟩ : ∃ j, k = n + j := ⟨k - n, by omega⟩
        obtain ⟨hQT, hQB, γ, _, hpB, hcB, hgd⟩ := hQr.2.2.2 j (by omega)
        rw [hQT] at x0
        rw [hpB, hQB, hcB] at x1
        have cm := fun W => PartFlat.mark_any 1 j W (by omega) (by omega)
        have cs := fun W γ' (hW : Below wr.heap.size wr W) hg => PartFlat.same_any γ γ' 1 j W (PartFlat.gd_below hgd hW) hg
        have HK : Hid (n + j = n + j ∧ j < 12 ∧ n ≤ 1000000) := ⟨rfl, by omega, by omega⟩
        obtain ⟨k, hk⟩ : ∃ k, n + j = k := ⟨_, rfl⟩
        clear ha hl hQ hQr hc e0 e1 hQT hQB hpB hcB hgd
        rw [hk] at x0 x1 hkz hk0 hkq ⊢
        have HK2 : Hid (k = n + j ∧ j < 12 ∧ n ≤ 1000000) := ⟨hk.symm, HK.out.2.1, HK.out.2.2⟩
        clear HK hk hkn
        go_wp2
        refine keptB n k j R 0 0 ca 0 0 0 0 γ none a _ _ _ rfl rfl rfl rfl HK2 x0 x1 cm cs ?_
        intro vs w2 hB2 h57
        simp only [List.foldl_cons, List.foldl_nil, List.setIfInBounds_toArray, List.set_cons_succ, List.set_cons_zero]
        rw [h57]
        generalize vs 23 = z23
        generalize vs 24 = z24
        generalize vs 25 = z25
        generalize vs 26 = z26
        generalize vs 27 = z27
        generalize vs 28 = z28
        generalize vs 29 = z29
        generalize vs 30 = z30
        generalize vs 31 = z31
        generalize vs 32 = z32
        generalize vs 33 = z33
        generalize vs 34 = z34
        generalize vs 35 = z35
        generalize vs 36 = z36
        generalize vs 37 = z37
        generalize vs 38 = z38
        generalize vs 39 = z39
        generalize vs 40 = z40
        generalize vs 41 = z41
        generalize vs 42 = z42
        generalize vs 43 = z43
        generalize vs 44 = z44
        generalize vs 45 = z45
        generalize vs 46 = z46
        generalize vs 47 = z47
        generalize vs 48 = z48
        generalize vs 49 = z49
        generalize vs 50 = z50
        generalize vs 51 = z51
        generalize vs 52 = z52
        generalize vs 53 = z53
        generalize vs 54 = z54
        generalize vs 55 = z55
        generalize vs 56 = z56
        have HB := hide (hbr.trans (hB2.mono hbr.size))
        clear cs cm x0 x1 hB2
        go_wp2_with fail
        go_roundg q
        case measure => omega
        case rel => exact ⟨k + 1, by omega, by go_num, HB.out⟩
end Go.Proofs.YtlmjplpledilhaaGreat
