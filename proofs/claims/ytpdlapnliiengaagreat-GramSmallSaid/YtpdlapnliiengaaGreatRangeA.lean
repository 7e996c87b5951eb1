/-
  A scope that no jump comes to, inside a fence.
-/
import Derived.Test.YtpdlapnliiengaaGreatFoot
import Derived.Test.YtpdlapnliiengaaGreatAppendS
import Derived.WalkKit
import Derived.WalkMore
import Derived.ControlIn
import Derived.RangeFuncWrites
import Derived.RangeFuncBox
import Derived.OwnWalkIn
namespace Go.Proofs.YtpdlapnliiengaaGreat

section
variable {F : Fence} {n : Nat} {P : Program} {Q : Exit → Act → World → Prop} {b : Frame} {a : Act} {k : List Item} {cs : List Frame} {w : World}
theorem scope_in {c : Code} : step P (lone (b.atR a (.code (.scope c) :: k)) cs w) = .next (lone (b.atR a (.code c :: .inScope c :: k)) cs w) :=
  step_lone_go (by simp [stepG, stepG.exec, Frame.atR])
theorem scope_out {c : Code} : step P (lone (b.atR a (.inScope c :: k)) cs w) = .next (lone (b.atR a k) cs w) :=
  step_lone_go (by simp [stepG, stepG.exec, Frame.atR])
theorem wpIn_scope {c : Code} (h : c.wpIn F n P (Exit.noGoto Q) a w) : (Code.scope c).wpIn F n P Q a w := by
  intro b k cs hro hb hr
  have h0 : (lone (b.atR a (.code (.scope c) :: k)) cs w).fenced P F := fenced_calm hb hr rfl
  obtain ⟨e, a1, w1, hq, harr⟩ := h b (.inScope c :: k) cs hro hb hr
  cases e with
  | normal => exact ⟨.normal, a1, w1, hq, .head h0 scope_in (StepsIn.trans harr (.one (fenced_calm hb hr rfl) scope_out))⟩
  | exit id =>
    have hx : exitTo id (.inScope c :: k) = exitTo id k := by simp [exitTo]
    refine ⟨.exit id, a1, w1, hq, fun k' hk => .head h0 scope_in (harr.1 k' (hx.trans hk)), fun hr' hk => ?_⟩
    obtain ⟨k1, h1, h2⟩ := harr.2 hr' (hx.trans hk)
    exact ⟨k1, h1, .head h0 scope_in h2⟩
  | goto l => exact hq.elim
  | ret => exact ⟨_, a1, w1, hq, .of_steps (.one h0 scope_in) harr⟩
  | panic ch => exact ⟨_, a1, w1, hq, .of_steps (.one h0 scope_in) harr⟩
  | outgrown => exact ⟨_, a1, w1, hq, .of_steps (.one h0 scope_in) harr⟩
end
end Go.Proofs.YtpdlapnliiengaaGreat

/-
  A range over a function whose iterator turns blocks of its own between two rounds, and of whose elements something is known of the world at the round: G says what the iterator may have done since the round before, and what is known of the element; S, Sp the same of the ends.
-/
namespace Go.Proofs.YtpdlapnliiengaaGreat
open Go.RowKit

/-- The iterator's contract. -/
def SeqG {α : Type} (F : Fence) (n : Nat) (P : Program) (g : Nat) (lb : Array Value) (encs : α → Array Value) (G : List α → World → α → World → Prop) (Kp : World → World → Prop)
    (S Sp : List α → World → World → Prop) (w : World) : Prop :=
  ∀ (l : Nat) (J Jx : List α → World → Prop) (W : World), Below w.heap.size w W →
    (∀ pre x A B, J pre A → G pre A x B → YieldAt F (n - 1) P l (encs x) B fun e W' =>
      (e = .returned (.bool true) ∧ J (pre ++ [x]) W' ∧ Kp B W') ∨ (e = .returned (.bool false) ∧ Jx (pre ++ [x]) W')) →
    J [] W →
    CallsIn F n P g (#[.func (.yield l) #[] #[]] ++ lb) W fun e W' => (∃ v, e = .returned v) ∧ ((∃ xs A, J xs A ∧ S xs A W') ∨ (∃ pre A, Jx pre A ∧ Sp pre A W'))

variable {F : Fence} {n : Nat} {P : Program}

/-- The loop's two blocks: the record at D + 1, the rounds' deferred calls at D. -/
def Two2 (D : Nat) (r : Loop) (W : World) : Prop := W.heap[D + 1]? = some (.loop r) ∧ W.heap[D]? = some (.deferred (some []))
theorem Two2.others {D : Nat} {r : Loop} {A B : World} (h : Two2 D r A) (k : KeepsOthers A B) : Two2 D r B := ⟨k.same _ _ h.1 rfl, k.same _ _ h.2 rfl⟩
theorem Two2.lt {D : Nat} {r : Loop} {A : World} (h : Two2 D r A) : D + 1 < A.heap.size := (Array.getElem?_eq_some_iff.1 h.1).1
theorem Two2.put {D : Nat} {r : Loop} {A : World} (h : Two2 D r A) (r' : Loop) : Two2 D r' (A.putObj (D + 1) (.loop r')) :=
  ⟨World.putObj_heap_same h.lt, (World.putObj_heap_other (by omega)).trans h.2⟩

/-- The law. -/
theorem wpIn_rangeFunc_G {α : Type} {g : Operand} {ps : Array Tmp} {assign body : Code} {Q : Exit → Act → World → Prop} {a : Act} {w : World}
    (hro : F.round = none) (h1 : 1 ≤ n) {gf : Nat} {lb : Array Value} (hg : a.eval g = .func (.func gf) #[] lb) (hFg : F.fn gf) (eg : ∀ args w, (callFunc gf args).run P w = .ok (.enter gf args) w)
    {encs : α → Array Value} {G : List α → World → α → World → Prop} {Kp : World → World → Prop} {S Sp : List α → World → World → Prop} {w0 : World} (hseq : SeqG F (n - 1) P gf lb encs G Kp S Sp w0)
    (hGk : ∀ pre x A B, G pre A x B → KeepsOthers A B) (hSk : ∀ xs A B, S xs A B → KeepsOthers A B) (hSpk : ∀ xs A B, Sp xs A B → KeepsOthers A B)
    (hKt : ∀ {A B C : World}, Kp A B → Kp B C → Kp A C) (hKb : ∀ (W : World) (l : Nat) (o o' : Obj), w.heap.size ≤ l → W.heap[l]? = some o → o.isCells = false → Kp W (W.putObj l o')) (hb0 : Below w0.heap.size w0 w) (hps : ∀ x, (encs x).size = ps.size)
    (I : List α → World → Prop) (Ix : Code → List α → World → Prop) (M : List α → α → World → Prop) (E : List α → World → Prop) (Ex : Code → List α → World → Prop)
    (hI : OwnFrom w.heap.size I) (hIx : ∀ c, OwnFrom w.heap.size (Ix c)) (hE : OwnFrom w.heap.size E) (hEx : ∀ c, OwnFrom w.heap.size (Ex c))
    (hmid : ∀ pre x A B, I pre A → G pre A x B → M pre x B) (hend : ∀ xs A B, I xs A → S xs A B → E xs B) (hendx : ∀ c pre A B, Ix c pre A → Sp pre A B → Ex c pre B)
    (h0 : I [] w) (M2 : List α → α → Act → World → Prop) (hM2 : ∀ x a', OwnFrom w.heap.size (fun pre => M2 pre x a'))
    (hassign : ∀ (l : Nat) (pre : List α) (x : α) (W : World) (K : Act → World → Prop), M pre x W → (∀ a' W', KeepsOthers W W' → Kp W W' → M2 pre x a' W' → K a' W') →
      assign.wpIn (F.inRound l) (n - 1 - 1) P (Exit.then K (fun _ _ _ => False)) { tmps := (ps.zip (encs x)).foldl (fun t (p, v) => t.setIfInBounds p v) a.tmps, defers := [] } W)
    (hbody : ∀ (l : Nat) (pre : List α) (x : α) (a' : Act) (W : World), M2 pre x a' W → body.wpIn (F.inRound l) (n - 1 - 1) P (ownPostK Kp I Ix (pre ++ [x]) W) a' W)
    (hdone : ∀ (D : Nat) (xs : List α) (W : World), w.heap.size ≤ D → E xs W → W.heap[D]? = some (.deferred (some [])) → Q .normal { a with defers := { target := .collected D, args := #[] } :: a.defers } W)
    (hstop : ∀ (D : Nat) (c : Code) (pre : List α) (W : World), w.heap.size ≤ D → Ex c pre W → W.heap[D]? = some (.deferred (some [])) → c.wpIn F n P Q { a with defers := { target := .collected D, args := #[] } :: a.defers } W) :
    (Code.rangeFunc g ps assign body).wpIn F n P Q a w := by
  refine wpIn_rangeFunc fun fn hfn => ?_
  rw [hro]
  let rec0 : Loop := { state := .ready, pending := none, fn, tmps := a.tmps, params := ps, assign, body, defers := w.heap.size }
  have hent := run_enterLoop_outer (P := P) (w := w) fn a.tmps ps assign body
  obtain ⟨W1, hW1⟩ : ∃ W1, (w.alloc (.deferred (some []))).alloc (.loop rec0) = W1 := ⟨_, rfl⟩
  have h2 : Two2 w.heap.size rec0 W1 := by
    rw [← hW1]
    refine ⟨?_, (Below.heap_alloc _ _ _ (by simp)).trans (World.alloc_heap_new w _)⟩
    have := World.alloc_heap_new (w.alloc (.deferred (some []))) (.loop rec0)
    rwa [World.size_alloc] at this
  have hI1 : I [] W1 := by rw [← hW1]; exact hI.alloc _ (hI.alloc _ h0)
  have hb1 : Below w0.heap.size w0 W1 := by
    rw [← hW1]
    exact hb0.trans ((((Below.refl _ w).alloc (Nat.le_refl _) _).alloc (by simp) _).mono hb0.size)
  refine ⟨w.heap.size + 1, _, W1, { target := .fn (.func gf) lb, args := #[.func (.yield (w.heap.size + 1)) #[] #[]] }, W1, gf, #[.func (.yield (w.heap.size + 1)) #[] #[]] ++ lb, W1, by rw [← hW1]; exact hent, ?_, ?_, by simp [invoke, go_sem, eg], fun _ => h1, ?_⟩
  · simp only [resolve, hg]
    simp [go_sem]
  · intro f' hf'
    simp [Target.leads] at hf'
    exact hf' ▸ hFg
  have hown : ∀ {K : List α → World → Prop}, OwnFrom w.heap.size K → ∀ xs {W : World} (r : Loop) (o' : Obj), K xs W → W.heap[w.heap.size + 1]? = some (.loop r) → K xs (W.putObj (w.heap.size + 1) o') :=
    fun hK xs W r o' hk hl => hK.putObj o' hk (by omega) hl rfl
  refine (hseq (w.heap.size + 1) (fun pre W => I pre W ∧ Two2 w.heap.size rec0 W) (fun pre W => ∃ c, Ix c pre W ∧ Two2 w.heap.size { rec0 with state := .done, pending := some c } W) W1 hb1 ?_ ⟨hI1, h2⟩).mono ?_
  · rintro pre x A Wb ⟨hi, hl0⟩ hgx
    have hlB := hl0.others (hGk _ _ _ _ hgx)
    refine ⟨fn, _, assign, body, run_yield (r := rec0) hlB.1 (hps x), roundIn_of_wpIn hfn (hassign _ pre x Wb _ (hmid _ _ _ _ hi hgx) ?_)⟩
    intro a' W hka hpa hm2
    have hl := hlB.others hka
    refine ⟨_, run_beginRound hl.1 rfl, ?_⟩
    have hlb := hl.put { rec0 with state := .busy }
    have hkb : Kp W (W.putObj (w.heap.size + 1) (.loop { rec0 with state := .busy })) := hKb _ _ _ _ (by omega) hl.1 rfl
    refine wpIn_mono (hbody _ pre x a' _ (hown (hM2 x a') pre _ _ hm2 hl.1)) ?_
    have fin : ∀ (jump : Option Code) (W3 : World), KeepsOthers (W.putObj (w.heap.size + 1) (.loop { rec0 with state := .busy })) W3 →
        (Instr.endRound (w.heap.size + 1) jump).run P W3 = .ok (.bool jump.isNone) (W3.putObj (w.heap.size + 1) (.loop { rec0 with state := if jump.isNone then .ready else .done, pending := jump })) ∧
        Two2 w.heap.size { rec0 with state := .busy } W3 := fun jump W3 hk3 => ⟨run_endRound (r := { rec0 with state := .busy }) jump (hlb.others hk3).1, hlb.others hk3⟩
    intro e a3 W3 hp
    cases e with
    | normal =>
      obtain ⟨hk3, hkp3, hi3⟩ := hp
      obtain ⟨hr, h3⟩ := fin none W3 hk3
      exact ⟨_, _, hr, .inl ⟨rfl, ⟨hown hI _ _ _ hi3 h3.1, h3.put _⟩, hKt hpa (hKt (hKt hkb hkp3) (hKb _ _ _ _ (by omega) h3.1 rfl))⟩⟩
    | ret =>
      obtain ⟨hk3, hi3⟩ := hp
      obtain ⟨hr, h3⟩ := fin (some .ret) W3 hk3
      exact ⟨_, _, hr, .inr ⟨rfl, .ret, hown (hIx _) _ _ _ hi3 h3.1, h3.put _⟩⟩
    | exit id =>
      obtain ⟨hk3, hi3⟩ := hp
      obtain ⟨hr, h3⟩ := fin (some (.exit id)) W3 hk3
      exact ⟨_, _, hr, .inr ⟨rfl, .exit id, hown (hIx _) _ _ _ hi3 h3.1, h3.put _⟩⟩
    | goto t =>
      obtain ⟨hk3, hi3⟩ := hp
      obtain ⟨hr, h3⟩ := fin (some (.goto t)) W3 hk3
      exact ⟨_, _, hr, .inr ⟨rfl, .goto t, hown (hIx _) _ _ _ hi3 h3.1, h3.put _⟩⟩
    | panic ch => exact hp.elim
    | outgrown => exact hp.elim
  · rintro e W2 ⟨⟨v, rfl⟩, (⟨xs, A, ⟨hi, hl0⟩, hs⟩ | ⟨pre, A, ⟨c, hi, hl0⟩, hs⟩)⟩
    · have hl := hl0.others (hSk _ _ _ hs)
      exact ⟨none, _, run_endLoop (r := rec0) hl.1 (by simp [rec0]), hdone _ xs _ (Nat.le_refl _) (hown hE _ _ _ (hend _ _ _ hi hs) hl.1) (hl.put _).2⟩
    · have hl := hl0.others (hSpk _ _ _ hs)
      exact ⟨some c, _, run_endLoop (r := { rec0 with state := .done, pending := some c }) hl.1 (by simp), hstop _ c pre _ (Nat.le_refl _) (hown (hEx _) _ _ _ (hendx _ _ _ _ hi hs) hl.1) (hl.put _).2⟩
end Go.Proofs.YtpdlapnliiengaaGreat

/-
  A range over a function, with loops of the iterator's own within: what the iterator lays behind the loop's record it may turn; the loop's body may write what lay ahead of the loop. G, S, Sp are told where the heap ended as the iterator began.
-/
namespace Go.Proofs.YtpdlapnliiengaaGreat
open Go.RowKit

/-- What is no cells and lies below N lies as it lay. -/
structure KeepsTo (N : Nat) (W W' : World) : Prop where
  size : W.heap.size ≤ W'.heap.size
  same : ∀ (k : Nat) (o : Obj), k < N → W.heap[k]? = some o → o.isCells = false → W'.heap[k]? = some o
theorem KeepsTo.refl (N : Nat) (W : World) : KeepsTo N W W := ⟨Nat.le_refl _, fun _ _ _ h _ => h⟩
theorem KeepsTo.trans {N : Nat} {A B C : World} (h : KeepsTo N A B) (k : KeepsTo N B C) : KeepsTo N A C :=
  ⟨Nat.le_trans h.size k.size, fun i o hN hi ho => k.same i o hN (h.same i o hN hi ho) ho⟩
theorem KeepsTo.of_others {N : Nat} {A B : World} (h : KeepsOthers A B) : KeepsTo N A B := ⟨h.size, fun k o _ hk ho => h.same k o hk ho⟩
theorem KeepsTo.of_grown {N : Nat} {W W' : World} {row : Option Nat} (hg : W.grownBy W' row) (hrow : ∀ j, row = some j → N ≤ j ∨ ∃ o : Obj, W.heap[j]? = some o ∧ o.isCells = true) : KeepsTo N W W' :=
  ⟨hg.size, fun k o hN hk ho => (hg.block k (Array.getElem?_eq_some_iff.1 hk).1 (fun e => by
    rcases hrow k e.symm with h | ⟨o', h1, h2⟩
    · omega
    · rw [hk] at h1; cases h1; rw [ho] at h2; cases h2)).trans hk⟩
/-- All cells lie as they lay; what is none lies so below N. -/
structure Still (N : Nat) (W W' : World) : Prop where
  os : W'.os = W.os
  tape : W'.tape = W.tape
  output : W'.output = W.output
  size : W.heap.size ≤ W'.heap.size
  cells : ∀ (k : Nat) (c : Array Value) (t : TypeId) (f : Nat × Nat), W.heap[k]? = some (.cells c t f) → W'.heap[k]? = some (.cells c t f)
  others : ∀ (k : Nat) (o : Obj), k < N → W.heap[k]? = some o → o.isCells = false → W'.heap[k]? = some o
theorem Still.refl (N : Nat) (W : World) : Still N W W := ⟨rfl, rfl, rfl, Nat.le_refl _, fun _ _ _ _ h => h, fun _ _ _ h _ => h⟩
theorem Still.trans {N : Nat} {A B C : World} (h : Still N A B) (k : Still N B C) : Still N A C :=
  ⟨k.os.trans h.os, k.tape.trans h.tape, k.output.trans h.output, Nat.le_trans h.size k.size, fun i c t f hi => k.cells i c t f (h.cells i c t f hi), fun i o hN hi ho => k.others i o hN (h.others i o hN hi ho) ho⟩
theorem Still.to {N : Nat} {A B : World} (h : Still N A B) : KeepsTo N A B := ⟨h.size, h.others⟩
theorem Still.grown {N : Nat} {A B C : World} {row : Option Nat} (h : Still N A B) (hg : B.grownBy C row) (hrow : ∀ j, row = some j → N ≤ j ∧ ∃ o : Obj, B.heap[j]? = some o ∧ o.isCells = false) : Still N A C :=
  h.trans ⟨hg.os, hg.tape, hg.output, hg.size,
    fun k c t f hk => (hg.block k (Array.getElem?_eq_some_iff.1 hk).1 (fun e => by obtain ⟨_, o, h1, h2⟩ := hrow k e.symm; rw [hk] at h1; cases h1; cases h2)).trans hk,
    fun k o hN hk _ => (hg.block k (Array.getElem?_eq_some_iff.1 hk).1 (fun e => by obtain ⟨h1, _⟩ := hrow k e.symm; omega)).trans hk⟩
theorem Still.alloc {N : Nat} {A B : World} (h : Still N A B) (o : Obj) : Still N A (B.alloc o) :=
  h.trans ⟨rfl, rfl, rfl, by simp, fun k c t f hk => (Below.heap_alloc _ _ k (Array.getElem?_eq_some_iff.1 hk).1).trans hk, fun k o _ hk _ => (Below.heap_alloc _ _ k (Array.getElem?_eq_some_iff.1 hk).1).trans hk⟩
theorem Still.cell {N : Nat} {A B : World} (h : Still N A B) {p : Addr} {v : Value} (hc : A.cell? p = some v) : B.cell? p = some v := by
  obtain ⟨o, ho, hk⟩ := cells_of_cell hc
  cases o with
  | cells c t f => exact (World.cell?_of_block (w := A) ((h.cells _ _ _ _ ho).trans ho.symm)).trans hc
  | _ => cases hk
theorem still_own {β : Type} {N : Nat} (A : World) : OwnFrom N (fun (_ : β) W => Still N A W) := fun _ _ _ _ hs hg hr => hs.grown hg hr

/-- All cells lie as they lay but those in the blocks O. -/
structure KeptO (O : Nat → Prop) (W W' : World) : Prop where
  size : W.heap.size ≤ W'.heap.size
  cells : ∀ (k : Nat) (c : Array Value) (t : TypeId) (f : Nat × Nat), ¬ O k → W.heap[k]? = some (.cells c t f) → W'.heap[k]? = some (.cells c t f)
theorem KeptO.refl (O : Nat → Prop) (W : World) : KeptO O W W := ⟨Nat.le_refl _, fun _ _ _ _ _ h => h⟩
theorem KeptO.trans {O : Nat → Prop} {A B C : World} (h : KeptO O A B) (k : KeptO O B C) : KeptO O A C := ⟨Nat.le_trans h.size k.size, fun i c t f hi hx => k.cells i c t f hi (h.cells i c t f hi hx)⟩
theorem KeptO.mono {O O' : Nat → Prop} {A B : World} (h : KeptO O A B) (hO : ∀ k, O k → O' k) : KeptO O' A B := ⟨h.size, fun i c t f hi hx => h.cells i c t f (fun e => hi (hO i e)) hx⟩
theorem KeptO.put {O : Nat → Prop} {W : World} {l : Nat} {o : Obj} (o' : Obj) (h : W.heap[l]? = some o) (hc : o.isCells = false) : KeptO O W (W.putObj l o') :=
  ⟨by simp, fun k c t f _ hx => (World.putObj_heap_other (fun e => by subst e; rw [h] at hx; cases hx; cases hc)).trans hx⟩
theorem KeptO.cell {O : Nat → Prop} {A B : World} (h : KeptO O A B) {p : Addr} {v : Value} (hp : ¬ O p.block) (hc : A.cell? p = some v) : B.cell? p = some v := by
  obtain ⟨o, ho, hk⟩ := cells_of_cell hc
  cases o with
  | cells c t f => exact (World.cell?_of_block (w := A) ((h.cells _ _ _ _ hp ho).trans ho.symm)).trans hc
  | _ => cases hk
theorem KeptO.byt {O : Nat → Prop} {A B : World} (h : KeptO O A B) {a : Option Addr} {len : Nat} {z : Nat → Nat} (hz : Byt A a len z) (ha : ∀ g o s, a = some ⟨g, o, s⟩ → 0 < len → g < A.heap.size → ¬ O g) : Byt B a len z := by
  obtain ⟨h1, h2⟩ := hz
  refine ⟨h1, ?_⟩
  rcases h2 with h0 | ⟨b, off, e, hc⟩
  · exact .inl h0
  · exact .inr ⟨b, off, e, fun i hi => h.cell (ha b off none e (by omega) (block_lt_of_cell (hc i hi))) (hc i hi)⟩
theorem KeptO.of_kept {F : Nat → Prop} {A B : World} (h : Kept F A B) : KeptO F A B := ⟨h.size, fun _ _ _ _ hF hx => h.heap hx hF⟩
theorem KeptO.of_still {N : Nat} {A B : World} (h : Still N A B) (O : Nat → Prop) : KeptO O A B := ⟨h.size, fun k c t f _ hx => h.cells k c t f hx⟩
theorem Still.byt {N : Nat} {A B : World} (h : Still N A B) {a : Option Addr} {len : Nat} {z : Nat → Nat} (hz : Byt A a len z) : Byt B a len z := (KeptO.of_still h (fun _ => False)).byt hz (fun _ _ _ _ _ _ h => h)

/-- The iterator's contract: O: the blocks that the caller's rounds may turn; ks: those that the iterator lives on. -/
def SeqN {α : Type} (F : Fence) (n : Nat) (P : Program) (g : Nat) (lb : Array Value) (encs : α → Array Value) (G : Nat → List α → World → α → World → Prop) (ks : Nat → Prop)
    (S Sp : Nat → List α → World → World → Prop) (w : World) : Prop :=
  ∀ (l : Nat) (J : List α × (Nat → Prop) → World → Prop) (Jx : List α → World → Prop) (W : World) (O0 : Nat → Prop), Below w.heap.size w W → l < W.heap.size → (∀ k, O0 k → ¬ ks k ∧ k < W.heap.size) →
    (∀ pre O x A B, J (pre, O) A → G W.heap.size pre A x B → YieldAt F (n - 1) P l (encs x) B fun e W' =>
      (e = .returned (.bool true) ∧ (∃ O', J (pre ++ [x], O') W' ∧ KeptO O B W' ∧ ∀ k, O' k → (O k ∨ B.heap.size ≤ k) ∧ k < W'.heap.size) ∧ KeepsFrom (l + 1) B W') ∨ (e = .returned (.bool false) ∧ Jx (pre ++ [x]) W' ∧ KeepsFrom (l + 1) B W')) →
    J ([], O0) W →
    CallsIn F n P g (#[.func (.yield l) #[] #[]] ++ lb) W fun e W' => (∃ v, e = .returned v) ∧ ((∃ xs O A, J (xs, O) A ∧ S W.heap.size xs A W') ∨ (∃ pre A, Jx pre A ∧ Sp W.heap.size pre A W'))

variable {F : Fence} {n : Nat} {P : Program}

theorem Two2.to {D N : Nat} {r : Loop} {A B : World} (h : Two2 D r A) (k : KeepsTo N A B) (hN : D + 2 ≤ N) : Two2 D r B := ⟨k.same _ _ (by omega) h.1 rfl, k.same _ _ (by omega) h.2 rfl⟩
theorem Two2.from {D B0 : Nat} {r : Loop} {A B : World} (h : Two2 D r A) (k : KeepsFrom B0 A B) (hB : B0 ≤ D) : Two2 D r B := ⟨k.same _ _ (by omega) h.1 rfl, k.same _ _ hB h.2 rfl⟩
theorem keepsFrom_put (W : World) (l : Nat) (o' : Obj) : KeepsFrom (l + 1) W (W.putObj l o') :=
  ⟨by simp, fun k _ hB hk _ => (World.putObj_heap_other (by omega)).trans hk⟩
theorem YieldAt.depth {m : Nat} (m' : Nat) {P : Program} {l : Nat} {args : Array Value} {W : World} {R : Ending → World → Prop} (h : YieldAt Fence.wide m P l args W R) : YieldAt Fence.wide m' P l args W R := by
  obtain ⟨fn, tmps, assign, body, hy, hR⟩ := h
  exact ⟨fn, tmps, assign, body, hy, hR.1, fun c cs _ => hR.2 c cs (fun d h => by cases h)⟩
theorem YieldAt.inRound {m : Nat} {P : Program} {l l' : Nat} {args : Array Value} {W : World} {R : Ending → World → Prop} (h : YieldAt F m P l args W R) : YieldAt (F.inRound l') m P l args W R := h
theorem wide_deep {k : Nat} : Fence.wide.depth.isSome = true → 1 ≤ k := fun h => by cases h

theorem hcell1 {w : World} {p : Nat} {a : Value} {t : TypeId} (h : w.heap[p]? = some (.cells #[a] t (0, 0))) : w.cell? ⟨p, 0, none⟩ = some a ∧ w.frozen? ⟨p, 0, none⟩ = false :=
  ⟨by rw [cell_of_row _ _ _ _ _ _ h]; rfl, frozen_of_row _ _ _ _ _ h⟩
/-- How a round's body may end. -/
def ownPostO {α : Type} (B : Nat) (I : List α × (Nat → Prop) → World → Prop) (Ix : Code → List α → World → Prop) (xs : List α) (O : Nat → Prop) (W : World) : Exit → Act → World → Prop
  | .normal, _, W' => KeepsFrom B W W' ∧ ∃ O', I (xs, O') W' ∧ KeptO O W W' ∧ ∀ k, O' k → (O k ∨ W.heap.size ≤ k) ∧ k < W'.heap.size
  | .ret, _, W' => KeepsFrom B W W' ∧ Ix .ret xs W'
  | .exit id, _, W' => KeepsFrom B W W' ∧ Ix (.exit id) xs W'
  | .goto t, _, W' => KeepsFrom B W W' ∧ Ix (.goto t) xs W'
  | .panic _, _, _ => False
  | .outgrown, _, _ => False

/-- The law. -/
theorem wpIn_rangeFunc_N {α : Type} {g : Operand} {ps : Array Tmp} {assign body : Code} {Q : Exit → Act → World → Prop} {a : Act} {w : World}
    (hro : F.round = none) (h1 : 1 ≤ n) {gf : Nat} {lb : Array Value} (hg : a.eval g = .func (.func gf) #[] lb) (hFg : F.fn gf) (eg : ∀ args w, (callFunc gf args).run P w = .ok (.enter gf args) w)
    {encs : α → Array Value} {G : Nat → List α → World → α → World → Prop} {ks : Nat → Prop} {S Sp : Nat → List α → World → World → Prop} {w0 : World} (hseq : SeqN F (n - 1) P gf lb encs G ks S Sp w0)
    (hGk : ∀ pre x A B, G (w.heap.size + 2) pre A x B → KeepsTo (w.heap.size + 2) A B) (hSk : ∀ xs A B, S (w.heap.size + 2) xs A B → KeepsTo (w.heap.size + 2) A B) (hSpk : ∀ xs A B, Sp (w.heap.size + 2) xs A B → KeepsTo (w.heap.size + 2) A B)
    (hb0 : Below w0.heap.size w0 w) (hps : ∀ x, (encs x).size = ps.size)
    (I : List α × (Nat → Prop) → World → Prop) (Ix : Code → List α → World → Prop) (M : List α × (Nat → Prop) → α → World → Prop) (E : List α → World → Prop) (Ex : Code → List α → World → Prop)
    (hI : OwnFrom w.heap.size I) (hIx : ∀ c, OwnFrom w.heap.size (Ix c)) (hE : OwnFrom w.heap.size E) (hEx : ∀ c, OwnFrom w.heap.size (Ex c))
    (hmid : ∀ pre O x A B, I (pre, O) A → G (w.heap.size + 2) pre A x B → M (pre, O) x B) (hend : ∀ xs O A B, I (xs, O) A → S (w.heap.size + 2) xs A B → E xs B) (hendx : ∀ c pre A B, Ix c pre A → Sp (w.heap.size + 2) pre A B → Ex c pre B)
    (O0 : Nat → Prop) (hO0 : ∀ k, O0 k → ¬ ks k ∧ k < w.heap.size) (h0 : I ([], O0) w) (M2 : List α × (Nat → Prop) → α → Act → World → Prop) (hM2 : ∀ x a', OwnFrom w.heap.size (fun s => M2 s x a'))
    (hassign : ∀ (l : Nat) (pre : List α) (O : Nat → Prop) (x : α) (W : World) (K : Act → World → Prop), M (pre, O) x W → (∀ a' W', KeepsFrom w.heap.size W W' → KeptO (fun _ => False) W W' → M2 (pre, O) x a' W' → K a' W') →
      assign.wpIn (F.inRound l) (n - 1 - 1) P (Exit.then K (fun _ _ _ => False)) { tmps := (ps.zip (encs x)).foldl (fun t (p, v) => t.setIfInBounds p v) a.tmps, defers := [] } W)
    (hbody : ∀ (l : Nat) (pre : List α) (O : Nat → Prop) (x : α) (a' : Act) (W : World), M2 (pre, O) x a' W → body.wpIn (F.inRound l) (n - 1 - 1) P (ownPostO w.heap.size I Ix (pre ++ [x]) O W) a' W)
    (hdone : ∀ (D : Nat) (xs : List α) (W : World), w.heap.size ≤ D → E xs W → W.heap[D]? = some (.deferred (some [])) → Q .normal { a with defers := { target := .collected D, args := #[] } :: a.defers } W)
    (hstop : ∀ (D : Nat) (c : Code) (pre : List α) (W : World), w.heap.size ≤ D → Ex c pre W → W.heap[D]? = some (.deferred (some [])) → c.wpIn F n P Q { a with defers := { target := .collected D, args := #[] } :: a.defers } W) :
    (Code.rangeFunc g ps assign body).wpIn F n P Q a w := by
  refine wpIn_rangeFunc fun fn hfn => ?_
  rw [hro]
  let rec0 : Loop := { state := .ready, pending := none, fn, tmps := a.tmps, params := ps, assign, body, defers := w.heap.size }
  have hent := run_enterLoop_outer (P := P) (w := w) fn a.tmps ps assign body
  obtain ⟨W1, hW1⟩ : ∃ W1, (w.alloc (.deferred (some []))).alloc (.loop rec0) = W1 := ⟨_, rfl⟩
  have h2 : Two2 w.heap.size rec0 W1 := by
    rw [← hW1]
    refine ⟨?_, (Below.heap_alloc _ _ _ (by simp)).trans (World.alloc_heap_new w _)⟩
    have := World.alloc_heap_new (w.alloc (.deferred (some []))) (.loop rec0)
    rwa [World.size_alloc] at this
  have hs1 : W1.heap.size = w.heap.size + 2 := by rw [← hW1]; simp
  have hI1 : I ([], O0) W1 := by rw [← hW1]; exact hI.alloc _ (hI.alloc _ h0)
  have hb1 : Below w0.heap.size w0 W1 := by
    rw [← hW1]
    exact hb0.trans ((((Below.refl _ w).alloc (Nat.le_refl _) _).alloc (by simp) _).mono hb0.size)
  refine ⟨w.heap.size + 1, _, W1, { target := .fn (.func gf) lb, args := #[.func (.yield (w.heap.size + 1)) #[] #[]] }, W1, gf, #[.func (.yield (w.heap.size + 1)) #[] #[]] ++ lb, W1, by rw [← hW1]; exact hent, ?_, ?_, by simp [invoke, go_sem, eg], fun _ => h1, ?_⟩
  · simp only [resolve, hg]
    simp [go_sem]
  · intro f' hf'
    simp [Target.leads] at hf'
    exact hf' ▸ hFg
  have hown : ∀ {β : Type} {K : β → World → Prop}, OwnFrom w.heap.size K → ∀ xs {W : World} (r : Loop) (o' : Obj), K xs W → W.heap[w.heap.size + 1]? = some (.loop r) → K xs (W.putObj (w.heap.size + 1) o') :=
    fun hK xs W r o' hk hl => hK.putObj o' hk (by omega) hl rfl
  refine (hseq (w.heap.size + 1) (fun s W => I s W ∧ Two2 w.heap.size rec0 W) (fun pre W => ∃ c, Ix c pre W ∧ Two2 w.heap.size { rec0 with state := .done, pending := some c } W) W1 O0 hb1 (by omega) (fun k hk => ⟨(hO0 k hk).1, by have := (hO0 k hk).2; omega⟩) ?_ ⟨hI1, h2⟩).mono ?_
  · rw [hs1]
    rintro pre O x A Wb ⟨hi, hl0⟩ hgx
    have hlB := hl0.to (hGk _ _ _ _ hgx) (Nat.le_refl _)
    refine ⟨fn, _, assign, body, run_yield (r := rec0) hlB.1 (hps x), roundIn_of_wpIn hfn (hassign _ pre O x Wb _ (hmid _ _ _ _ _ hi hgx) ?_)⟩
    intro a' W hka hpa hm2
    have hl := hlB.from hka (Nat.le_refl _)
    refine ⟨_, run_beginRound hl.1 rfl, ?_⟩
    have hlb := hl.put { rec0 with state := .busy }
    have hkb : KeptO O W (W.putObj (w.heap.size + 1) (.loop { rec0 with state := .busy })) := KeptO.put _ hl.1 rfl
    refine wpIn_mono (hbody _ pre O x a' _ (hown (hM2 x a') (pre, O) _ _ hm2 hl.1)) ?_
    have fin : ∀ (jump : Option Code) (W3 : World), KeepsFrom w.heap.size (W.putObj (w.heap.size + 1) (.loop { rec0 with state := .busy })) W3 →
        (Instr.endRound (w.heap.size + 1) jump).run P W3 = .ok (.bool jump.isNone) (W3.putObj (w.heap.size + 1) (.loop { rec0 with state := if jump.isNone then .ready else .done, pending := jump })) ∧
        Two2 w.heap.size { rec0 with state := .busy } W3 := fun jump W3 hk3 => ⟨run_endRound (r := { rec0 with state := .busy }) jump (hlb.from hk3 (Nat.le_refl _)).1, hlb.from hk3 (Nat.le_refl _)⟩
    have hkk : ∀ (W3 : World) (o : Obj), KeepsFrom w.heap.size (W.putObj (w.heap.size + 1) (.loop { rec0 with state := .busy })) W3 → KeepsFrom (w.heap.size + 1 + 1) Wb (W3.putObj (w.heap.size + 1) o) := fun W3 o hk3 => by
      have e1 : KeepsFrom (w.heap.size + 1 + 1) Wb W := ⟨hka.size, fun k o hB => hka.same k o (by omega)⟩
      have e2 := keepsFrom_put W (w.heap.size + 1) (.loop { rec0 with state := .busy })
      have e3 : KeepsFrom (w.heap.size + 1 + 1) (W.putObj (w.heap.size + 1) (.loop { rec0 with state := .busy })) W3 := ⟨hk3.size, fun k o hB => hk3.same k o (by omega)⟩
      exact ((e1.trans e2).trans e3).trans (keepsFrom_put W3 _ o)
    intro e a3 W3 hp
    cases e with
    | normal =>
      obtain ⟨hk3, O', hi3, hko3, hOO⟩ := hp
      obtain ⟨hr, h3⟩ := fin none W3 hk3
      refine ⟨_, _, hr, .inl ⟨rfl, ⟨O', ⟨hown hI _ _ _ hi3 h3.1, h3.put _⟩, ((hpa.mono (fun _ h => h.elim)).trans (hkb.trans hko3)).trans (KeptO.put _ h3.1 rfl), fun k hk => ?_⟩, hkk _ _ hk3⟩⟩
      have hs := hpa.size
      obtain ⟨h1, h2⟩ := hOO k hk
      refine ⟨h1.imp (fun h => h) (fun h => ?_), by simpa using h2⟩
      have : W.heap.size ≤ k := by simpa using h
      omega
    | ret =>
      obtain ⟨hk3, hi3⟩ := hp
      obtain ⟨hr, h3⟩ := fin (some .ret) W3 hk3
      exact ⟨_, _, hr, .inr ⟨rfl, ⟨.ret, hown (hIx _) _ _ _ hi3 h3.1, h3.put _⟩, hkk _ _ hk3⟩⟩
    | exit id =>
      obtain ⟨hk3, hi3⟩ := hp
      obtain ⟨hr, h3⟩ := fin (some (.exit id)) W3 hk3
      exact ⟨_, _, hr, .inr ⟨rfl, ⟨.exit id, hown (hIx _) _ _ _ hi3 h3.1, h3.put _⟩, hkk _ _ hk3⟩⟩
    | goto t =>
      obtain ⟨hk3, hi3⟩ := hp
      obtain ⟨hr, h3⟩ := fin (some (.goto t)) W3 hk3
      exact ⟨_, _, hr, .inr ⟨rfl, ⟨.goto t, hown (hIx _) _ _ _ hi3 h3.1, h3.put _⟩, hkk _ _ hk3⟩⟩
    | panic ch => exact hp.elim
    | outgrown => exact hp.elim
  · rw [hs1]
    rintro e W2 ⟨⟨v, rfl⟩, (⟨xs, O, A, ⟨hi, hl0⟩, hs⟩ | ⟨pre, A, ⟨c, hi, hl0⟩, hs⟩)⟩
    · have hl := hl0.to (hSk _ _ _ hs) (Nat.le_refl _)
      exact ⟨none, _, run_endLoop (r := rec0) hl.1 (by simp [rec0]), hdone _ xs _ (Nat.le_refl _) (hown hE _ _ _ (hend _ _ _ _ hi hs) hl.1) (hl.put _).2⟩
    · have hl := hl0.to (hSpk _ _ _ hs) (Nat.le_refl _)
      exact ⟨some c, _, run_endLoop (r := { rec0 with state := .done, pending := some c }) hl.1 (by simp), hstop _ c pre _ (Nat.le_refl _) (hown (hEx _) _ _ _ (hendx _ _ _ _ hi hs) hl.1) (hl.put _).2⟩
end Go.Proofs.YtpdlapnliiengaaGreat

/-
  An append within a fenced walk, its footprint told; a variable in a box that holds a row of the call's own, appended to in a round.
-/
namespace Go.Proofs.YtpdlapnliiengaaGreat
open Go.RowKit

theorem wpListIn_append_foot {F : Fence} {N : Nat} {P : Program} (w : World) {ops : Array Oper} {rest : List Oper} {o : Oper} {a : Act} {Q : Exit → Act → World → Prop} (hgd : o.guard = none) (s x : Operand) (t : TypeId)
    (hop : o.op = .call { callee := .builtin .append, args := #[s, x], argTypes := #[t, t] })
    (e : TypeId) (i : TypeInfo) (z : Value) (bytes : Nat) (ht : P.underlying t = some (.slice e)) (hi : P.info? e = some i) (hz : i.zero = some z)
    (hsize : i.size = 1) (hby : i.bytes = bytes) (hzs : z.cells.size = 1)
    (base : Nat) (v : Value) (n : Nat) (xs : List Value) (hs : a.eval s = v) (hown : w.ownsRow base e 1 v n xs)
    (ao : Option Addr) (m c : Nat) (news : List Value) (hx : a.eval x = .slice ao m c) (hl : news.length = m) (hnone : ao = none → m = 0 ∧ c = 0) (hnews : ∀ ad, ao = some ad → ∀ j u, news[j]? = some u → w.cell? (ad.add j) = some u) (h1 : ∀ u ∈ news, u.oneCell' = true)
    (h63 : n + m ≤ maxLen) (hbytes : (n + m) * bytes ≤ 140737488355328) (hbase : base ≤ w.heap.size)
    (h : ∀ A' C' w', w'.ownsRow base e 1 (.slice A' (n + m) C') (n + m) (xs ++ news) → Grew w w' v (.slice A' (n + m) C') → wpListIn F N P ops Q rest (a.put o.dst (.slice A' (n + m) C')) w') : wpListIn F N P ops Q (o :: rest) a w := by
  obtain ⟨v', w', hr, h2, h3⟩ := run_append_foot (P := P) w t o.type e i z bytes ht hi hz hsize hby hzs base v n xs hown ao m c news hl hnone hnews h1 h63 hbytes hbase
  obtain ⟨A', C', rfl⟩ := owns_slice h2
  refine wpListIn_plain hgd fun K hK' => ?_
  unfold Oper.wpIn
  refine ⟨?_, ?_⟩
  · simp [Oper.about, hop, resolve, Target.leads, Sem.run_pure]
  · rw [Oper.semAt_plain F _ _ (by rw [hop]; intro c hc'; cases hc')]
    simp [execOp, hop, resolve, invoke, builtin, hs, hx, hr, Result.andThen]
    exact hK' _ _ (h A' C' w' h2 h3)

/-- What an append of one to a box's row leaves, behind the store back. -/
theorem grow_post {W w1 : World} {n0 B : Nat} {t e : TypeId} {v v' : Value} {k m : Nat} {xs ys : List Value} {tmp : Obj} (hv : Boxed W B t v) (hte : t ≠ e) (hrow : W.ownsRow n0 e 1 v k xs)
    (hown : w1.ownsRow n0 e 1 v' m ys) (hG : Grew (W.alloc tmp) w1 v v') :
    Boxed w1 B t v ∧ Boxed (w1.setCell ⟨B, 0, none⟩ v') B t v' ∧ (w1.setCell ⟨B, 0, none⟩ v').ownsRow n0 e 1 v' m ys ∧ Kept (fun k => k = B ∨ v.ownBlock = some k) W (w1.setCell ⟨B, 0, none⟩ v') ∧
      ∀ g, v'.ownBlock = some g → (v.ownBlock = some g ∨ W.heap.size ≤ g) ∧ g < (w1.setCell ⟨B, 0, none⟩ v').heap.size := by
  have hnr := hv.not_row hte hrow
  have hka : Kept (fun k => v.ownBlock = some k) W (W.alloc tmp) := (Kept.of_below (F := fun _ => False) (below_alloc W tmp)).mono (fun _ _ h => h.elim)
  have hk1 : Kept (fun k => v.ownBlock = some k) W w1 := hka.trans (hG.kept (fun _ h => h)) (fun _ _ h => h)
  have hb1 : Boxed w1 B t v := hk1.heap hv (fun e => hnr e.symm)
  have hlt1 := hb1.lt
  have hsz : (w1.setCell ⟨B, 0, none⟩ v').heap.size = w1.heap.size := by simp
  refine ⟨hb1, hb1.set v', hown.kept (grownBy_setCell' w1 B v') (.inr (hb1.not_row hte hown).symm), (hk1.mono (fun _ _ h => .inr h)).setCell (.inl (.inl rfl)) v', fun g hg => ⟨?_, by rw [hsz]; exact (owns_cells hown g hg).1⟩⟩
  rcases hG.foot (F := fun k => v.ownBlock = some k) (fun _ h => h) g hg with h | ⟨h, _⟩
  · exact .inl h
  · rw [World.size_alloc] at h
    exact .inr (by omega)
theorem Still.below {N B0 : Nat} {A B : World} (h : Still N A B) (hN : B0 ≤ N) (hA : B0 ≤ A.heap.size) : Below B0 A B :=
  ⟨h.os, h.tape, h.output, h.size, fun k hk => by
    have hl : k < A.heap.size := by omega
    obtain ⟨o, ho⟩ : ∃ o, A.heap[k]? = some o := ⟨_, Array.getElem?_eq_getElem hl⟩
    rw [ho]
    cases o with
    | cells c t f => exact h.cells _ _ _ _ ho
    | _ => exact h.others _ _ (by omega) ho rfl⟩
theorem Boxed.still {N B : Nat} {t : TypeId} {v : Value} {X Y : World} (h : Boxed X B t v) (hs : Still N X Y) : Boxed Y B t v := hs.cells _ _ _ _ h
theorem owns_still {N B n size : Nat} {v : Value} {xs : List Value} {e : TypeId} {X Y : World} (h : X.ownsRow B e size v n xs) (hs : Still N X Y) : Y.ownsRow B e size v n xs := by
  obtain ⟨h0, ⟨hv, h1⟩ | ⟨g, cap, cur, hv, h1, h2, h3⟩⟩ := h
  · exact ⟨h0, .inl ⟨hv, h1⟩⟩
  · exact ⟨h0, .inr ⟨g, cap, cur, hv, h1, hs.cells _ _ _ _ h2, h3⟩⟩
end Go.Proofs.YtpdlapnliiengaaGreat
