/-
  Things written out; gets over such; bytes as they are handed on.
-/
import Derived.Test.YtpnphijfdcimlaaGetsW
import Derived.Test.YtpnphijfdcimlaaDoesW
namespace Go.Proofs.Ytpnphijfdcimlaa
open Go.RowKit

/-- A thing of numbers alone. -/
def tn (K N M : Int) : Thg := ⟨K, N, M, [], none, 0, fun _ => 0, 0, none, 0⟩
theorem tn_ok (K N M : Int) (w : World) (hK : (Lit.int .i64 K).wf = true) (hN : (Lit.int .i64 N).wf = true) (hM : (Lit.int .i64 M).wf = true) : (tn K N M).Ok w :=
  ⟨hK, hN, hM, Nat.le_refl _, by show (0 : Nat) ≤ _; omega, fun _ => rfl, BL.mk (by intro b hb; cases hb) (.inl rfl), Nat.le_refl _, by show (0 : Nat) ≤ _; omega, fun _ => rfl, .inl rfl, fun i => by show (Lit.int .i64 0).wf = true; exact wf64 (by omega) (by omega)⟩
/-- Things in a list. -/
def TL (l : List Thg) (i : Nat) : Thg := l.getD i (tn 0 0 0)
def flatT : List Thg → List Value
  | [] => []
  | t :: l => .int .i64 t.K :: .int .i64 t.N :: .int .i64 t.M :: .slice t.pB t.B.length t.cB :: .slice t.pR t.lR t.cR :: flatT l
theorem flatT_get : ∀ (l : List Thg) (i : Nat), i < l.length → (flatT l)[i * 5]? = some (.int .i64 (TL l i).K) ∧ (flatT l)[i * 5 + 1]? = some (.int .i64 (TL l i).N) ∧ (flatT l)[i * 5 + 2]? = some (.int .i64 (TL l i).M) ∧
    (flatT l)[i * 5 + 3]? = some (.slice (TL l i).pB (TL l i).B.length (TL l i).cB) ∧ (flatT l)[i * 5 + 4]? = some (.slice (TL l i).pR (TL l i).lR (TL l i).cR)
  | [], i, h => absurd h (Nat.not_lt_zero _)
  | t :: l, 0, _ => ⟨rfl, rfl, rfl, rfl, rfl⟩
  | t :: l, i + 1, h => by
    have ih := flatT_get l i (by simpa using h)
    have e : (i + 1) * 5 = i * 5 + 5 := by omega
    rw [e]
    exact ih
theorem things_lit (w : World) (l : List Thg) (C : Array Value) (hC : C = (flatT l).toArray) (g : Nat) (hg : g = w.heap.size) (hok : ∀ t ∈ l, t.Ok (w.alloc (.cells C 31))) : Things (w.alloc (.cells C 31)) (some ⟨g, 0, none⟩) l.length (TL l) := by
  subst hC hg
  refine .inr ⟨w.heap.size, 0, rfl, fun i hi => ⟨?_, ?_⟩⟩
  · have h := flatT_get l i hi
    have hc : ∀ j v, (flatT l)[j]? = some v → (w.alloc (.cells (flatT l).toArray 31)).cell? ⟨w.heap.size, j, none⟩ = some v := fun j v hj => by
      rw [World.cell?_alloc_new]
      simpa using hj
    rw [Nat.zero_add]
    exact ⟨hc _ _ h.1, hc _ _ h.2.1, hc _ _ h.2.2.1, hc _ _ h.2.2.2.1, hc _ _ h.2.2.2.2⟩
  · refine hok _ ?_
    unfold TL
    rw [List.getD_eq_getElem?_getD, List.getElem?_eq_getElem hi]
    exact List.getElem_mem hi

/-- A row of bytes that is handed on: some bytes. -/
structure Bs (w : World) (A : Option Addr) (m C : Nat) (L : List Nat) : Prop where
  len : L.length = m
  small : m ≤ 20000
  cap : m ≤ C
  max : C ≤ 9223372036854775807
  nil : A = none → C = 0
  one : C = 0 ∨ ∃ b off, A = some ⟨b, off, none⟩
  at_ : ∀ h o s, A = some ⟨h, o, s⟩ → h < w.heap.size
  bl : BL w A L
theorem Bs.below {w w' : World} {A : Option Addr} {m C : Nat} {L : List Nat} (h : Bs w A m C L) (hb : Below w.heap.size w w') : Bs w' A m C L :=
  ⟨h.len, h.small, h.cap, h.max, h.nil, h.one, fun g o s e => by have := h.at_ g o s e; have := hb.size; omega, h.bl.below hb⟩

/-- A part of such. -/
theorem slice_head (a : Option Addr) (h m cap : Nat) (L : List Nat) (w : World) (hb : Bs w a m cap L) (hk : h ≤ m) :
    ∃ A1 : Option Addr, (∀ wx, (Instr.slice 25 (.slice a m cap) none (some (.int .i64 (h : Int))) none).run Try.prog wx = .ok (.slice A1 h cap) wx) ∧ Bs w A1 h cap (L.take h) := by
  have ht : Try.prog.underlying 25 = some (.slice (Try.prog.elem 25)) := by kernel_rfl
  have hs : ∀ wx, (sizeOf (Try.prog.elem 25)).run Try.prog wx = .ok 1 wx := fun wx => by kernel_rfl
  have hl := hb.len
  have hc := hb.cap
  have ha : ∀ A1, A1 = (if cap = 0 then a else a.map (·.add (0 * 1))) → A1 = a := fun A1 e => by
    rw [e]
    by_cases h0 : cap = 0
    · rw [if_pos h0]
    · rw [if_neg h0]
      rcases hb.one with h1 | ⟨b, off, h1⟩
      · exact absurd h1 h0
      · subst h1; simp [Addr.add]
  refine ⟨if cap = 0 then a else a.map (·.add (0 * 1)), fun wx => ?_, ?_⟩
  · rw [run_slice_h wx _ a m cap ht .i64 (h : Int) (by omega) (by omega), hs]
    simp [Result.andThen, sliced]
  · rw [ha _ rfl]
    exact ⟨by rw [List.length_take]; omega, by have := hb.small; omega, by omega, hb.max, hb.nil, hb.one, hb.at_, hb.bl.take h⟩

/-- Triples that are numbers of 64 bits. -/
def TrWf : List (Int × Int × Int) → Prop
  | [] => True
  | t :: l => (-9223372036854775808 ≤ t.1 ∧ t.1 ≤ 9223372036854775807) ∧ (-9223372036854775808 ≤ t.2.1 ∧ t.2.1 ≤ 9223372036854775807) ∧ (-9223372036854775808 ≤ t.2.2 ∧ t.2.2 ≤ 9223372036854775807) ∧ TrWf l
def tns : List (Int × Int × Int) → List Thg
  | [] => []
  | t :: l => tn t.1 t.2.1 t.2.2 :: tns l
theorem tns_len : ∀ l, (tns l).length = l.length
  | [] => rfl
  | _ :: l => congrArg (· + 1) (tns_len l)
theorem tns_ok (w : World) : ∀ l, TrWf l → ∀ t ∈ tns l, t.Ok w
  | [], _, t, h => by cases h
  | x :: l, hw, t, h => by
    rcases List.mem_cons.1 h with rfl | h
    · exact tn_ok _ _ _ _ (wf64 hw.1.1 hw.1.2) (wf64 hw.2.1.1 hw.2.1.2) (wf64 hw.2.2.1.1 hw.2.2.1.2)
    · exact tns_ok w l hw.2.2.2 t h
theorem gets_lit (A : Option Addr) (m C : Nat) (L : List Nat) (l : List (Int × Int × Int)) (Cs : Array Value) (W : World) (g : Nat) (n : Nat) (hb : Bs W A m C L) (hC : Cs = (flatT (tns l)).toArray) (hg : g = W.heap.size) (hn : n = l.length) (hl : n ≤ 1000) (hok : TrWf l) :
    Calls Try.prog 9 #[.slice A m C, .slice (some ⟨g, 0, none⟩) n n] (W.alloc (.cells Cs 31)) fun e w' => e = .returned (.bool true) ∧ Below W.heap.size W w' := by
  have hB := hb.below (below_alloc W (.cells Cs 31))
  have hT := things_lit W (tns l) Cs hC g hg (tns_ok _ l hok)
  rw [tns_len, ← hn] at hT
  refine (gets_any A C L (some ⟨g, 0, none⟩) n n (TL (tns l)) _ hT (by omega) (by rw [hB.len]; exact hB.small) (by rw [hB.len]; exact hB.cap) hB.max hB.nil hB.one hB.at_ hB.bl m hB.len).mono fun e w' ⟨he, hw⟩ => ⟨he, (below_alloc W _).trans (hw.mono (by simp))⟩
end Go.Proofs.Ytpnphijfdcimlaa
