/-
  The program's reader: what it holds in memory; Read, OK, Left, fail, take.
-/
import Derived.Test.YtppdbinppibjhaaGreatDoorWrRef
namespace Go.Proofs.YtppdbinppibjhaaGreatDoor
open Go.RowKit

/-- A reader of the program at p: what is left; none: it failed. -/
def Rd (w : World) (p : Nat) (F : Nat → Prop) (S : Option (List Nat)) : Prop :=
  F p ∧ match S with
  | none => w.heap[p]? = some (.cells #[.slice none 0 0, .bool false] 174 (0, 0))
  | some L => ∃ A C, w.heap[p]? = some (.cells #[.slice A L.length C, .bool true] 174 (0, 0)) ∧ L.length ≤ C ∧ C ≤ 9223372036854775807 ∧ (A = none → C = 0) ∧ (C = 0 ∨ ∃ b off, A = some ⟨b, off, none⟩) ∧ BL w A L ∧ ∀ g off s, A = some ⟨g, off, s⟩ → F g ∧ g ≠ p
theorem Rd.mono {w : World} {p : Nat} {F G : Nat → Prop} {S : Option (List Nat)} (h : Rd w p F S) (hFG : ∀ k, F k → G k) : Rd w p G S := by
  cases S with
  | none => exact ⟨hFG _ h.1, h.2⟩
  | some L =>
    obtain ⟨hp, A, C, h1, h2, h3, h4, h5, h6, h7⟩ := h
    exact ⟨hFG _ hp, A, C, h1, h2, h3, h4, h5, h6, fun g o s e => ⟨hFG _ (h7 g o s e).1, (h7 g o s e).2⟩⟩
theorem Rd.kept {w w' : World} {p : Nat} {F G : Nat → Prop} {S : Option (List Nat)} (h : Rd w p F S) (hk : Kept G w w') (hd : ∀ k, F k → ¬ G k) : Rd w' p F S := by
  cases S with
  | none => exact ⟨h.1, hk.heap h.2 (hd _ h.1)⟩
  | some L =>
    obtain ⟨hp, A, C, h1, h2, h3, h4, h5, h6, h7⟩ := h
    exact ⟨hp, A, C, hk.heap h1 (hd _ hp), h2, h3, h4, h5, h6.kept hk (fun g o s e => hd _ (h7 g o s e).1), h7⟩
theorem BL.cells {w w' : World} {a : Option Addr} {L : List Nat} (h : BL w a L) (hk : CellsKept w w') : BL w' a L := by
  obtain ⟨hz, h | ⟨b, off, h, hc⟩⟩ := h
  · exact ⟨hz, .inl h⟩
  · exact ⟨hz, .inr ⟨b, off, h, fun i hi => hk.cell (hc i hi)⟩⟩
theorem Rd.cells {w w' : World} {p : Nat} {F : Nat → Prop} {S : Option (List Nat)} (h : Rd w p F S) (hk : CellsKept w w') : Rd w' p F S := by
  cases S with
  | none => exact ⟨h.1, hk _ _ _ _ h.2⟩
  | some L =>
    obtain ⟨hp, A, C, h1, h2, h3, h4, h5, h6, h7⟩ := h
    exact ⟨hp, A, C, hk _ _ _ _ h1, h2, h3, h4, h5, h6.cells hk, h7⟩
/-- By its pointer: nil is one that failed. -/
def RP (w : World) (pv : Value) (F : Nat → Prop) (S : Option (List Nat)) : Prop := (pv = .pointer none ∧ S = none) ∨ ∃ p, pv = .pointer (some ⟨p, 0, none⟩) ∧ Rd w p F S
theorem RP.mono {w : World} {pv : Value} {F G : Nat → Prop} {S : Option (List Nat)} (h : RP w pv F S) (hFG : ∀ k, F k → G k) : RP w pv G S := by
  rcases h with h | ⟨p, h1, h2⟩
  · exact .inl h
  · exact .inr ⟨p, h1, h2.mono hFG⟩
theorem RP.kept {w w' : World} {pv : Value} {F G : Nat → Prop} {S : Option (List Nat)} (h : RP w pv F S) (hk : Kept G w w') (hd : ∀ k, F k → ¬ G k) : RP w' pv F S := by
  rcases h with h | ⟨p, h1, h2⟩
  · exact .inl h
  · exact .inr ⟨p, h1, h2.kept hk hd⟩

theorem ok_any (pv : Value) (F : Nat → Prop) (S : Option (List Nat)) (w : World) (h : RP w pv F S) :
    Calls Tryz.prog 60 #[pv] w fun e w' => e = .returned (.bool S.isSome) ∧ w = w' := by
  rcases h with ⟨rfl, rfl⟩ | ⟨p, rfl, hp, h⟩
  · go_enter Tryz.func60, Tryz.ntmps60
    go_wp2
    go_ret
    exact ⟨rfl, rfl⟩
  · cases S with
    | none =>
      obtain ⟨c0, c1, f0, f1⟩ := cells2 h
      clear h
      go_enter Tryz.func60, Tryz.ntmps60
      go_wp2
      go_ret
      exact ⟨rfl, rfl⟩
    | some L =>
      obtain ⟨A, C, h1, _⟩ := h
      obtain ⟨c0, c1, f0, f1⟩ := cells2 h1
      clear h1
      go_enter Tryz.func60, Tryz.ntmps60
      go_wp2
      go_ret
      exact ⟨rfl, rfl⟩
theorem left_any (pv : Value) (F : Nat → Prop) (S : Option (List Nat)) (w : World) (h : RP w pv F S) :
    Calls Tryz.prog 61 #[pv] w fun e w' => e = .returned (.int .i64 (szO S : Nat)) ∧ w = w' := by
  rcases h with ⟨rfl, rfl⟩ | ⟨p, rfl, hp, h⟩
  · go_enter Tryz.func61, Tryz.ntmps61
    go_wp2
    go_ret
    exact ⟨rfl, rfl⟩
  · cases S with
    | none =>
      obtain ⟨c0, c1, f0, f1⟩ := cells2 h
      clear h
      go_enter Tryz.func61, Tryz.ntmps61
      go_wp2
      go_ret
      exact ⟨rfl, rfl⟩
    | some L =>
      obtain ⟨A, C, h1, _⟩ := h
      obtain ⟨c0, c1, f0, f1⟩ := cells2 h1
      clear h1
      go_enter Tryz.func61, Tryz.ntmps61
      go_wp2
      go_ret
      exact ⟨rfl, rfl⟩
theorem Rd.block {w : World} {p : Nat} {F : Nat → Prop} {S : Option (List Nat)} (h : Rd w p F S) : ∃ a b, w.heap[p]? = some (.cells #[a, b] 174 (0, 0)) := by
  cases S with
  | none => exact ⟨_, _, h.2⟩
  | some L => obtain ⟨hp, A, C, h1, _⟩ := h; exact ⟨_, _, h1⟩
theorem rdFail_any (p : Nat) (F : Nat → Prop) (S : Option (List Nat)) (w : World) (h : Rd w p F S) :
    Calls Tryz.prog 111 #[.pointer (some ⟨p, 0, none⟩)] w fun e w' => e = .returned (.tuple #[]) ∧ Rd w' p F none ∧ Kept (fun k => k = p) w w' := by
  obtain ⟨a, b, h0⟩ := h.block
  have hp := h.1
  obtain ⟨c0, c1, f0, f1⟩ := cells2 h0
  have H := hide h0
  clear h h0
  go_enter Tryz.func111, Tryz.ntmps111
  go_wp2
  go_end0
  refine ⟨rfl, ⟨hp, ?_⟩, ((Kept.refl (fun k => k = p) w).setCell (.inl rfl) _).setCell (.inl rfl) _⟩
  exact heap_setCell_same _ p 1 _ _ _ (heap_setCell_same _ p 0 _ _ _ H.out)

/-- Slices of a slice, at both ends, at whatever address. -/
theorem slices_bl (a : Option Addr) (h cap : Nat) (L : List Nat) (w : World) (hk : h ≤ L.length) (hc : L.length ≤ cap) (ha : cap = 0 ∨ ∃ b off, a = some ⟨b, off, none⟩) (hn : a = none → cap = 0) (hz : BL w a L) :
    ∃ A1 A2 : Option Addr, (∀ wx, (Instr.slice 28 (.slice a L.length cap) none (some (.int .i64 (h : Int))) none).run Tryz.prog wx = .ok (.slice A1 h cap) wx) ∧
      (∀ wx, (Instr.slice 28 (.slice a L.length cap) (some (.int .i64 (h : Int))) none none).run Tryz.prog wx = .ok (.slice A2 (L.length - h) (cap - h)) wx) ∧ BL w A1 (L.take h) ∧ BL w A2 (L.drop h) ∧
      (A1 = none → cap = 0) ∧ (A2 = none → cap - h = 0) ∧ (cap - h = 0 ∨ ∃ b off, A2 = some ⟨b, off, none⟩) ∧ (∀ g off s, A1 = some ⟨g, off, s⟩ → ∃ off s, a = some ⟨g, off, s⟩) ∧ (∀ g off s, A2 = some ⟨g, off, s⟩ → ∃ off s, a = some ⟨g, off, s⟩) := by
  have ht : Tryz.prog.underlying 28 = some (.slice (Tryz.prog.elem 28)) := by kernel_rfl
  have hs : ∀ wx, (sizeOf (Tryz.prog.elem 28)).run Tryz.prog wx = .ok 1 wx := fun wx => by kernel_rfl
  refine ⟨if cap = 0 then a else a.map (·.add (0 * 1)), if cap = h then a else a.map (·.add (h * 1)), fun wx => ?_, fun wx => ?_, ?_⟩
  · rw [run_slice_h wx _ a L.length cap ht .i64 (h : Int) (by omega) (by omega), hs]
    simp [Result.andThen, sliced]
  · rw [run_slice_l wx _ a L.length cap ht .i64 (h : Int) (by omega) (by omega), hs]
    simp [Result.andThen, sliced]
  · rcases ha with h0 | ⟨b, off, rfl⟩
    · have hL0 : L = [] := List.eq_nil_of_length_eq_zero (by omega)
      have hh : h = 0 := by omega
      subst hL0 hh h0
      exact ⟨hz, hz, fun _ => rfl, fun _ => rfl, .inl rfl, fun g off s e => ⟨off, s, e⟩, fun g off s e => ⟨off, s, e⟩⟩
    · have e1 : (if cap = 0 then some (⟨b, off, none⟩ : Addr) else (some ⟨b, off, none⟩ : Option Addr).map (·.add (0 * 1))) = some ⟨b, off, none⟩ := by
        split
        · rfl
        · simp [Addr.add]
      rw [e1]
      refine ⟨hz.take h, ?_, fun e => (by cases e), ?_, ?_, fun g off s e => ⟨off, s, e⟩, ?_⟩
      · by_cases hck : cap = h
        · rw [if_pos hck]
          have hd : L.drop h = [] := List.drop_eq_nil_iff.2 (by omega)
          rw [hd]
          exact BL.mk (by simp) (.inl rfl)
        · rw [if_neg hck]
          have e : (some (⟨b, off, none⟩ : Addr)).map (·.add (h * 1)) = some ⟨b, off + h, none⟩ := by
            simp only [Option.map_some, Nat.mul_one]
            unfold Addr.add
            split
            · rename_i e; rw [e, Nat.add_zero]
            · rfl
          rw [e]
          exact hz.drop h hk
      · intro e
        split at e
        · omega
        · cases e
      · by_cases hck : cap = h
        · exact .inl (by omega)
        · right
          rw [if_neg hck]
          refine ⟨b, off + h, ?_⟩
          simp only [Option.map_some, Nat.mul_one]
          unfold Addr.add
          split
          · rename_i e; rw [e, Nat.add_zero]
          · rfl
      · intro g o s e
        split at e
        · exact ⟨o, s, e⟩
        · simp only [Option.map_some, Option.some.injEq] at e
          have : g = b := by
            unfold Addr.add at e
            split at e <;> (cases e; rfl)
          subst this
          exact ⟨off, none, rfl⟩

set_option maxRecDepth 100000 in
set_option maxHeartbeats 1000000 in
theorem take_some (p : Nat) (F : Nat → Prop) (L : List Nat) (m : Nat) (w : World) (h : Rd w p F (some L)) (hm : m ≤ L.length) :
    Calls Tryz.prog 112 #[.pointer (some ⟨p, 0, none⟩), .int .i64 m] w fun e w' => ∃ A C, e = .returned (.slice A m C) ∧ m ≤ C ∧ C ≤ 9223372036854775807 ∧ (A = none → C = 0) ∧ BL w' A (L.take m) ∧ (∀ g off s, A = some ⟨g, off, s⟩ → F g ∧ g ≠ p) ∧ Rd w' p F (some (L.drop m)) ∧ Kept (fun k => k = p) w w' := by
  obtain ⟨hp, A, C, h1, h2, h3, h4, h5, h6, h7⟩ := h
  obtain ⟨A1, A2, s1, s2, b1, b2, n1, n2, q2, g1, g2⟩ := slices_bl A m C L w hm h2 h5 h4 h6
  obtain ⟨c0, c1, f0, f1⟩ := cells2 h1
  have H1 := hide h1
  have hmi : (m : Int) ≤ (L.length : Int) := by omega
  have hm0 : (0 : Int) ≤ (m : Int) := by omega
  have hK : Kept (fun k => k = p) w (w.setCell ⟨p, 0, none⟩ (.slice A2 (L.length - m) (C - m))) := (Kept.refl (fun k => k = p) w).setCell (.inl rfl) _
  have g1' : ∀ g off s, A1 = some ⟨g, off, s⟩ → F g ∧ g ≠ p := fun g o s e => by obtain ⟨o', s', e'⟩ := g1 g o s e; exact h7 g o' s' e'
  have g2' : ∀ g off s, A2 = some ⟨g, off, s⟩ → F g ∧ g ≠ p := fun g o s e => by obtain ⟨o', s', e'⟩ := g2 g o s e; exact h7 g o' s' e'
  have hR1 : BL (w.setCell ⟨p, 0, none⟩ (.slice A2 (L.length - m) (C - m))) A1 (L.take m) := b1.kept hK (fun g o s e => (g1' g o s e).2)
  have hR2 : Rd (w.setCell ⟨p, 0, none⟩ (.slice A2 (L.length - m) (C - m))) p F (some (L.drop m)) := by
    refine ⟨hp, A2, C - m, ?_, by rw [List.length_drop]; omega, by omega, n2, q2, b2.kept hK (fun g o s e => (g2' g o s e).2), g2'⟩
    rw [List.length_drop]
    exact heap_setCell_same _ p 0 _ _ _ h1
  have HR := hide (And.intro hR1 (And.intro g1' (And.intro hR2 hK)))
  have hCm : m ≤ C := by omega
  clear h1 h4 h5 h6 h7 b1 b2 n2 q2 g1 g2 g1' g2' hR1 hR2 hK
  generalize L.length - m = d at *
  generalize hl : L.length = l at *
  clear hl
  go_enter Tryz.func112, Tryz.ntmps112
  go_wp2
  go_ret
  exact ⟨A1, C, rfl, hCm, h3, n1, HR.out⟩
set_option maxHeartbeats 1000000 in
theorem take_none (p : Nat) (F : Nat → Prop) (L : List Nat) (m : Nat) (w : World) (h : Rd w p F (some L)) (hm : L.length < m) :
    Calls Tryz.prog 112 #[.pointer (some ⟨p, 0, none⟩), .int .i64 m] w fun e w' => e = .returned (.slice none 0 0) ∧ Rd w' p F none ∧ Kept (fun k => k = p) w w' := by
  have hf := rdFail_any p F _ w h
  obtain ⟨hp, A, C, h1, _⟩ := h
  obtain ⟨c0, c1, f0, f1⟩ := cells2 h1
  have hmi : (L.length : Int) < (m : Int) := by omega
  clear h1
  go_enter Tryz.func112, Tryz.ntmps112
  go_wp2_with fail
  refine hf.mono ?_
  rintro e w1 ⟨rfl, hR, hK⟩
  go_wp2_with fail
  go_ret
  exact ⟨rfl, hR, hK⟩

set_option maxRecDepth 100000 in
set_option maxHeartbeats 1000000 in
theorem read_any (a : Option Addr) (len cap : Nat) (L : List Nat) (w : World) (hL : L.length = len) (hl : len ≤ 140737488355328) (hlc : len ≤ cap) (hn : a = none → cap = 0) (h : BL w a L) :
    Calls Tryz.prog 57 #[.slice a len cap] w fun e w' => ∃ p, e = .returned (.pointer (some ⟨p, 0, none⟩)) ∧ Rd w' p (fun k => w.heap.size ≤ k ∧ k < w'.heap.size) (some L) ∧ Below w.heap.size w w' := by
  have hb := h.lt
  have hc := cloneBytes_any a len cap L w hL hl hlc hn h
  clear h hn
  go_enter Tryz.func57, Tryz.ntmps57
  go_wp2_with fail
  refine hc.mono ?_
  rintro e w1 ⟨v, rfl, ho, hB⟩
  obtain ⟨_, A, C, rfl, hAC, hCm, hAn, hA0, hbl, hfr⟩ := owns_bl ho hb
  clear hc ho
  have HX : Hid (Rd (w1.alloc (.cells #[.slice A len C, .bool true] 174)) w1.heap.size (fun k => w.heap.size ≤ k ∧ k < w1.heap.size + 1) (some L)) := by
    refine ⟨⟨hB.size, by omega⟩, A, C, ?_, by omega, hCm, hAn, ?_, hbl.below (below_alloc _ _), fun g o s e => ?_⟩
    · rw [hL]; exact heap_alloc_new _ _
    · rcases hA0 with h | ⟨b, h⟩
      · exact .inl h
      · exact .inr ⟨b, 0, h⟩
    · have := hfr g o s e
      exact ⟨⟨this.2.2.1, by omega⟩, by omega⟩
  have HB := hide hB
  have HL := hide hL
  clear hfr hbl hA0 hAn hb hL hB hl hlc
  go_wp2_with fail
  go_ret
  refine ⟨_, rfl, ?_, HB.out.alloc HB.out.size _⟩
  have hx := HX.out
  rw [← HL.out] at hx
  exact hx.mono (fun k hk => ⟨hk.1, by rw [World.size_alloc]; exact hk.2⟩)
end Go.Proofs.YtppdbinppibjhaaGreatDoor
