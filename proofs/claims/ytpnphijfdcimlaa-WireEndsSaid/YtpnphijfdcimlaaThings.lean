/-
  Things in a row, as they came in; great, right, puts.
-/
import Derived.Test.YtpnphijfdcimlaaAwakeW
namespace Go.Proofs.Ytpnphijfdcimlaa
open Go.RowKit

/-- A thing: three numbers, a text, a row. -/
structure Thg where
  K : Int
  N : Int
  M : Int
  B : List Nat
  pB : Option Addr
  cB : Nat
  R : Nat → Int
  lR : Nat
  pR : Option Addr
  cR : Nat
/-- Its fields' values. -/
def Thg.vals (T : Thg) : Array Value := #[.int .i64 T.K, .int .i64 T.N, .int .i64 T.M, .slice T.pB T.B.length T.cB, .slice T.pR T.lR T.cR]
/-- What its text and its row hold. -/
structure Thg.Ok (w : World) (T : Thg) : Prop where
  K : (Lit.int .i64 T.K).wf = true
  N : (Lit.int .i64 T.N).wf = true
  M : (Lit.int .i64 T.M).wf = true
  lB : T.B.length ≤ T.cB
  mB : T.cB ≤ 9223372036854775807
  nB : T.pB = none → T.cB = 0
  bB : BL w T.pB T.B
  lR : T.lR ≤ T.cR
  mR : T.cR ≤ 9223372036854775807
  nR : T.pR = none → T.cR = 0
  bR : Ints w T.pR T.lR T.R
  wR : ∀ i, (Lit.int .i64 (T.R i)).wf = true
/-- Where its text and its row lie, if they hold something. -/
theorem Thg.Ok.atB {w : World} {T : Thg} (h : T.Ok w) : ∀ g off s, T.pB = some ⟨g, off, s⟩ → 0 < T.B.length → g < w.heap.size := by
  intro g off s e h0
  obtain ⟨b, o, e', hc⟩ := h.bB.cell h0
  rw [e] at e'; cases e'
  exact block_lt_of_cell (hc 0 h0)
theorem Thg.Ok.atR {w : World} {T : Thg} (h : T.Ok w) : ∀ g off s, T.pR = some ⟨g, off, s⟩ → 0 < T.lR → g < w.heap.size := by
  intro g off s e h0
  obtain ⟨b, o, e', hc⟩ := h.bR.cell h0
  rw [e] at e'; cases e'
  exact block_lt_of_cell (hc 0 h0)
theorem Thg.Ok.kept {w w' : World} {T : Thg} {F : Nat → Prop} (h : T.Ok w) (hk : Kept F w w') (hF : ∀ k, k < w.heap.size → ¬ F k) : T.Ok w' :=
  ⟨h.K, h.N, h.M, h.lB, h.mB, h.nB, h.bB.kept0 hk (fun g o s e h0 => hF g (h.atB g o s e h0)), h.lR, h.mR, h.nR, h.bR.kept0 hk (fun g o s e h0 => hF g (h.atR g o s e h0)), h.wR⟩
theorem Thg.Ok.below {w w' : World} {T : Thg} (h : T.Ok w) (hb : Below w.heap.size w w') : T.Ok w' := h.kept (Kept.of_below (F := fun _ => False) hb) (fun _ _ h => h)
/-- Things in a row. -/
def Things (w : World) (a : Option Addr) (n : Nat) (T : Nat → Thg) : Prop :=
  n = 0 ∨ ∃ b off, a = some ⟨b, off, none⟩ ∧ ∀ i, i < n → (w.cell? ⟨b, off + i * 5, none⟩ = some (.int .i64 (T i).K) ∧ w.cell? ⟨b, off + i * 5 + 1, none⟩ = some (.int .i64 (T i).N) ∧ w.cell? ⟨b, off + i * 5 + 2, none⟩ = some (.int .i64 (T i).M) ∧
    w.cell? ⟨b, off + i * 5 + 3, none⟩ = some (.slice (T i).pB (T i).B.length (T i).cB) ∧ w.cell? ⟨b, off + i * 5 + 4, none⟩ = some (.slice (T i).pR (T i).lR (T i).cR)) ∧ (T i).Ok w
theorem Things.kept {w w' : World} {a : Option Addr} {n : Nat} {T : Nat → Thg} {F : Nat → Prop} (h : Things w a n T) (hk : Kept F w w') (hF : ∀ k, k < w.heap.size → ¬ F k) : Things w' a n T := by
  rcases h with h | ⟨b, off, rfl, hc⟩
  · exact .inl h
  · refine .inr ⟨b, off, rfl, fun i hi => ?_⟩
    obtain ⟨⟨h0, h1, h2, h3, h4⟩, h5⟩ := hc i hi
    have hb := hF b (block_lt_of_cell h0)
    exact ⟨⟨hk.cell h0 hb, hk.cell h1 hb, hk.cell h2 hb, hk.cell h3 hb, hk.cell h4 hb⟩, h5.kept hk hF⟩
theorem Things.cells {w : World} {a : Option Addr} {n : Nat} {T : Nat → Thg} (h : Things w a n T) (i : Nat) (hi : i < n) : ∃ b off, a = some ⟨b, off, none⟩ ∧ (w.cell? ⟨b, off + i * 5, none⟩ = some (.int .i64 (T i).K) ∧ w.cell? ⟨b, off + i * 5 + 1, none⟩ = some (.int .i64 (T i).N) ∧ w.cell? ⟨b, off + i * 5 + 2, none⟩ = some (.int .i64 (T i).M) ∧
    w.cell? ⟨b, off + i * 5 + 3, none⟩ = some (.slice (T i).pB (T i).B.length (T i).cB) ∧ w.cell? ⟨b, off + i * 5 + 4, none⟩ = some (.slice (T i).pR (T i).lR (T i).cR)) ∧ (T i).Ok w := by
  rcases h with h | ⟨b, off, e, hc⟩
  · omega
  · exact ⟨b, off, e, hc i hi⟩

/-- How much there is to go through. -/
def bulk (T : Nat → Thg) : Nat → Nat
  | 0 => 0
  | k + 1 => bulk T k + ((T k).B.length + (T k).lR)
theorem bulk_mono (T : Nat → Thg) : ∀ {i j : Nat}, i ≤ j → bulk T i ≤ bulk T j := by
  intro i j h
  induction j with
  | zero => have : i = 0 := by omega
            subst this; exact Nat.le_refl _
  | succ j ih =>
    by_cases e : i = j + 1
    · subst e; exact Nat.le_refl _
    · have := ih (by omega)
      show bulk T i ≤ bulk T j + _
      omega

/-- What great tells: a no is sure. -/
def Great (T : Nat → Thg) (n lb : Nat) (w : World) (e : Ending) (w' : World) : Prop := ∃ t : Bool, e = .returned (.bool t) ∧ (t = false → n + lb + bulk T n ≤ 4000) ∧ ∃ m, w' = w.drewN m
set_option maxRecDepth 100000 in
set_option maxHeartbeats 1000000 in
theorem great_any (a : Option Addr) (n cap : Nat) (T : Nat → Thg) (pb : Option Addr) (lb cb : Nat) (w : World) (hT : Things w a n T) (hn : n ≤ 140737488351232) (hlb : lb ≤ 140737488351232) (hbk : ∀ i, i < n → (T i).B.length ≤ 140737488351232 ∧ (T i).lR ≤ 140737488351232) :
    Calls Try.prog 6 #[.slice a n cap, .slice pb lb cb] w (Great T n lb w) := by
  go_enter Try.func6, Try.ntmps6
  go_wp2_with fail
  go_loopg [5, 6] n (fun q s5 s6 wr => ∃ k : Nat, k + q = n ∧ s6 = .int .i64 (k : Nat) ∧ s5 = .int .i64 ((n + lb + bulk T k : Nat) : Int) ∧ n + lb + bulk T k ≤ 9000000000000000000 ∧ ∃ m, wr = w.drewN m)
  case atStart => exact ⟨0, by omega, rfl, by simp [bulk], by simp [bulk]; omega, 0, rfl⟩
  case round =>
    obtain ⟨k, hkq, rfl, rfl, hs, m, rfl⟩ := hrel
    have hk0 : (0 : Int) ≤ (k : Int) := by omega
    cases gk with
    | zero =>
      obtain rfl : k = n := by omega
      clear hT hbk
      generalize hsd : k + lb + bulk T k = s at *
      have HSD := hide hsd
      clear hsd
      have hkz : ¬ ((k : Int) < (k : Int)) := by omega
      go_wp2_with fail
      go_ret
      exact ⟨_, rfl, fun h => by rw [HSD.out]; simp at h; omega, _, rfl⟩
    | succ q =>
      have hkz : (k : Int) < (n : Int) := by omega
      obtain ⟨b, off, rfl, ⟨_, _, _, c3, c4⟩, _⟩ := hT.cells k (by omega)
      have hbk2 := hbk k (by omega)
      have hmono := bulk_mono T (show k + 1 ≤ n by omega)
      have hE : bulk T (k + 1) = bulk T k + ((T k).B.length + (T k).lR) := rfl
      have hE2 : n + lb + bulk T (k + 1) = n + lb + bulk T k + ((T k).B.length + (T k).lR) := by omega
      have HE := hide hE2
      clear hE hE2 hmono hT hbk
      generalize (T k).B.length = lB at *
      generalize (T k).lR = lR at *
      generalize (T k).pB = pB at *
      generalize (T k).pR = pR at *
      generalize (T k).cB = cB at *
      generalize (T k).cR = cR at *
      generalize n + lb + bulk T k = s at *
      by_cases h4 : s ≤ 4000
      · have h4' : (s : Int) ≤ 4000 := by omega
        have e1 : IntKind.i64.wrap ((s : Int) + (lB : Int)) = (s : Int) + (lB : Int) := IntWalk.i64_in _ (by omega)
        have e2 : IntKind.i64.wrap ((s : Int) + (lB : Int) + (lR : Int)) = (s : Int) + (lB : Int) + (lR : Int) := IntWalk.i64_in _ (by omega)
        have HS : Hid ((s : Int) + (lB : Int) + (lR : Int) = ((n + lb + bulk T (k + 1) : Nat) : Int)) := by
          show _ = _
          rw [HE.out]; omega
        have HB : Hid (n + lb + bulk T (k + 1) ≤ 9000000000000000000) := by show _ ≤ _; rw [HE.out]; omega
        go_upto_region 5 with fail
        go_quiet (fail)
        all_goals
          clear e1 e2
          go_wp2_with fail
          go_roundg q
          case measure => omega
          case rel => exact ⟨k + 1, by omega, by go_num, congrArg (Value.int .i64) HS.out, HB.out, _, rfl⟩
      · have h4' : ¬ ((s : Int) ≤ 4000) := by omega
        have h5 : (4000 : Int) < (s : Int) := by omega
        go_wp2_with fail
        go_ret
        exact ⟨_, rfl, (fun h => by cases h), _, rfl⟩
end Go.Proofs.Ytpnphijfdcimlaa
