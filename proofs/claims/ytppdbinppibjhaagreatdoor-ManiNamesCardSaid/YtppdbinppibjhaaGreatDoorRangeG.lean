/-
  A range over a function whose iterator turns blocks of its own between two rounds, and of whose elements something is known of the world at the round: G says what the iterator may have done since the round before, and what is known of the element; S, Sp the same of the ends.
-/
import Derived.Test.YtppdbinppibjhaaGreatDoorFoot
import Derived.Test.YtppdbinppibjhaaGreatDoorMarks
namespace Go.Proofs.YtppdbinppibjhaaGreatDoor
open Go.RowKit

/-- The iterator's contract. -/
def SeqG {α : Type} (F : Fence) (n : Nat) (P : Program) (g : Nat) (lb : Array Value) (encs : α → Array Value) (G : List α → World → α → World → Prop) (Kp : World → World → Prop)
    (S Sp : List α → World → World → Prop) (w : World) : Prop :=
  ∀ (l : Nat) (J Jx : List α → World → Prop) (W : World), Below w.heap.size w W →
    (∀ pre x A B, J pre A → G pre A x B → YieldAt F (n - 1) P l (encs x) B fun e W' =>
      (e = .returned (.bool true) ∧ J (pre ++ [x]) W' ∧ Kp B W') ∨ (e = .returned (.bool false) ∧ Jx (pre ++ [x]) W')) →
    J [] W →
    CallsIn F n P g (#[.func (.yield l) #[] #[]] ++ lb) W fun e W' => (∃ v, e = .returned v) ∧ ((∃ xs A, J xs A ∧ S xs A W') ∨ (∃ pre A, Jx pre A ∧ Sp pre A W'))

variable {F : Fence} {n : Nat} {P : Program}

/-- The loop's two blocks: the record at D + 1, the rounds' deferred calls at D. -/
def Two2 (D : Nat) (r : Loop) (W : World) : Prop := W.heap[D + 1]? = some (.loop r) ∧ W.heap[D]? = some (.deferred (some []))
theorem Two2.others {D : Nat} {r : Loop} {A B : World} (h : Two2 D r A) (k : KeepsOthers A B) : Two2 D r B := ⟨k.same _ _ h.1 rfl, k.same _ _ h.2 rfl⟩
theorem Two2.lt {D : Nat} {r : Loop} {A : World} (h : Two2 D r A) : D + 1 < A.heap.size := (Array.getElem?_eq_some_iff.1 h.1).1
theorem Two2.put {D : Nat} {r : Loop} {A : World} (h : Two2 D r A) (r' : Loop) : Two2 D r' (A.putObj (D + 1) (.loop r')) :=
  ⟨World.putObj_heap_same h.lt, (World.putObj_heap_other (by omega)).trans h.2⟩

/-- The law. -/
theorem wpIn_rangeFunc_G {α : Type} {g : Operand} {ps : Array Tmp} {assign body : Code} {Q : Exit → Act → World → Prop} {a : Act} {w : World}
    (hro : F.round = none) (h1 : 1 ≤ n) {gf : Nat} {lb : Array Value} (hg : a.eval g = .func (.func gf) #[] lb) (hFg : F.fn gf) (eg : ∀ args w, (callFunc gf args).run P w = .ok (.enter gf args) w)
    {encs : α → Array Value} {G : List α → World → α → World → Prop} {Kp : World → World → Prop} {S Sp : List α → World → World → Prop} {w0 : World} (hseq : SeqG F (n - 1) P gf lb encs G Kp S Sp w0)
    (hGk : ∀ pre x A B, G pre A x B → KeepsOthers A B) (hSk : ∀ xs A B, S xs A B → KeepsOthers A B) (hSpk : ∀ xs A B, Sp xs A B → KeepsOthers A B)
    (hKt : ∀ {A B C : World}, Kp A B → Kp B C → Kp A C) (hKb : ∀ (W : World) (l : Nat) (o o' : Obj), w.heap.size ≤ l → W.heap[l]? = some o → o.isCells = false → Kp W (W.putObj l o')) (hb0 : Below w0.heap.size w0 w) (hps : ∀ x, (encs x).size = ps.size)
    (I : List α → World → Prop) (Ix : Code → List α → World → Prop) (M : List α → α → World → Prop) (E : List α → World → Prop) (Ex : Code → List α → World → Prop)
    (hI : OwnFrom w.heap.size I) (hIx : ∀ c, OwnFrom w.heap.size (Ix c)) (hE : OwnFrom w.heap.size E) (hEx : ∀ c, OwnFrom w.heap.size (Ex c))
    (hmid : ∀ pre x A B, I pre A → G pre A x B → M pre x B) (hend : ∀ xs A B, I xs A → S xs A B → E xs B) (hendx : ∀ c pre A B, Ix c pre A → Sp pre A B → Ex c pre B)
    (h0 : I [] w) (M2 : List α → α → Act → World → Prop) (hM2 : ∀ x a', OwnFrom w.heap.size (fun pre => M2 pre x a'))
    (hassign : ∀ (l : Nat) (pre : List α) (x : α) (W : World) (K : Act → World → Prop), M pre x W → (∀ a' W', KeepsOthers W W' → Kp W W' → M2 pre x a' W' → K a' W') →
      assign.wpIn (F.inRound l) (n - 1 - 1) P (Exit.then K (fun _ _ _ => False)) { tmps := (ps.zip (encs x)).foldl (fun t (p, v) => t.setIfInBounds p v) a.tmps, defers := [] } W)
    (hbody : ∀ (l : Nat) (pre : List α) (x : α) (a' : Act) (W : World), M2 pre x a' W → body.wpIn (F.inRound l) (n - 1 - 1) P (ownPostK Kp I Ix (pre ++ [x]) W) a' W)
    (hdone : ∀ (D : Nat) (xs : List α) (W : World), w.heap.size ≤ D → E xs W → W.heap[D]? = some (.deferred (some [])) → Q .normal { a with defers := { target := .collected D, args := #[] } :: a.defers } W)
    (hstop : ∀ (D : Nat) (c : Code) (pre : List α) (W : World), w.heap.size ≤ D → Ex c pre W → W.heap[D]? = some (.deferred (some [])) → c.wpIn F n P Q { a with defers := { target := .collected D, args := #[] } :: a.defers } W) :
    (Code.rangeFunc g ps assign body).wpIn F n P Q a w := by
  refine wpIn_rangeFunc fun fn hfn => ?_
  rw [hro]
  let rec0 : Loop := { state := .ready, pending := none, fn, tmps := a.tmps, params := ps, assign, body, defers := w.heap.size }
  have hent := run_enterLoop_outer (P := P) (w := w) fn a.tmps ps assign body
  obtain ⟨W1, hW1⟩ : ∃ W1, (w.alloc (.deferred (some []))).alloc (.loop rec0) = W1 := ⟨_, rfl⟩
  have h2 : Two2 w.heap.size rec0 W1 := by
    rw [← hW1]
    refine ⟨?_, (Below.heap_alloc _ _ _ (by simp)).trans (World.alloc_heap_new w _)⟩
    have := World.alloc_heap_new (w.alloc (.deferred (some []))) (.loop rec0)
    rwa [World.size_alloc] at this
  have hI1 : I [] W1 := by rw [← hW1]; exact hI.alloc _ (hI.alloc _ h0)
  have hb1 : Below w0.heap.size w0 W1 := by
    rw [← hW1]
    exact hb0.trans ((((Below.refl _ w).alloc (Nat.le_refl _) _).alloc (by simp) _).mono hb0.size)
  refine ⟨w.heap.size + 1, _, W1, { target := .fn (.func gf) lb, args := #[.func (.yield (w.heap.size + 1)) #[] #[]] }, W1, gf, #[.func (.yield (w.heap.size + 1)) #[] #[]] ++ lb, W1, by rw [← hW1]; exact hent, ?_, ?_, by simp [invoke, go_sem, eg], fun _ => h1, ?_⟩
  · simp only [resolve, hg]
    simp [go_sem]
  · intro f' hf'
    simp [Target.leads] at hf'
    exact hf' ▸ hFg
  have hown : ∀ {K : List α → World → Prop}, OwnFrom w.heap.size K → ∀ xs {W : World} (r : Loop) (o' : Obj), K xs W → W.heap[w.heap.size + 1]? = some (.loop r) → K xs (W.putObj (w.heap.size + 1) o') :=
    fun hK xs W r o' hk hl => hK.putObj o' hk (by omega) hl rfl
  refine (hseq (w.heap.size + 1) (fun pre W => I pre W ∧ Two2 w.heap.size rec0 W) (fun pre W => ∃ c, Ix c pre W ∧ Two2 w.heap.size { rec0 with state := .done, pending := some c } W) W1 hb1 ?_ ⟨hI1, h2⟩).mono ?_
  · rintro pre x A Wb ⟨hi, hl0⟩ hgx
    have hlB := hl0.others (hGk _ _ _ _ hgx)
    refine ⟨fn, _, assign, body, run_yield (r := rec0) hlB.1 (hps x), roundIn_of_wpIn hfn (hassign _ pre x Wb _ (hmid _ _ _ _ hi hgx) ?_)⟩
    intro a' W hka hpa hm2
    have hl := hlB.others hka
    refine ⟨_, run_beginRound hl.1 rfl, ?_⟩
    have hlb := hl.put { rec0 with state := .busy }
    have hkb : Kp W (W.putObj (w.heap.size + 1) (.loop { rec0 with state := .busy })) := hKb _ _ _ _ (by omega) hl.1 rfl
    refine wpIn_mono (hbody _ pre x a' _ (hown (hM2 x a') pre _ _ hm2 hl.1)) ?_
    have fin : ∀ (jump : Option Code) (W3 : World), KeepsOthers (W.putObj (w.heap.size + 1) (.loop { rec0 with state := .busy })) W3 →
        (Instr.endRound (w.heap.size + 1) jump).run P W3 = .ok (.bool jump.isNone) (W3.putObj (w.heap.size + 1) (.loop { rec0 with state := if jump.isNone then .ready else .done, pending := jump })) ∧
        Two2 w.heap.size { rec0 with state := .busy } W3 := fun jump W3 hk3 => ⟨run_endRound (r := { rec0 with state := .busy }) jump (hlb.others hk3).1, hlb.others hk3⟩
    intro e a3 W3 hp
    cases e with
    | normal =>
      obtain ⟨hk3, hkp3, hi3⟩ := hp
      obtain ⟨hr, h3⟩ := fin none W3 hk3
      exact ⟨_, _, hr, .inl ⟨rfl, ⟨hown hI _ _ _ hi3 h3.1, h3.put _⟩, hKt hpa (hKt (hKt hkb hkp3) (hKb _ _ _ _ (by omega) h3.1 rfl))⟩⟩
    | ret =>
      obtain ⟨hk3, hi3⟩ := hp
      obtain ⟨hr, h3⟩ := fin (some .ret) W3 hk3
      exact ⟨_, _, hr, .inr ⟨rfl, .ret, hown (hIx _) _ _ _ hi3 h3.1, h3.put _⟩⟩
    | exit id =>
      obtain ⟨hk3, hi3⟩ := hp
      obtain ⟨hr, h3⟩ := fin (some (.exit id)) W3 hk3
      exact ⟨_, _, hr, .inr ⟨rfl, .exit id, hown (hIx _) _ _ _ hi3 h3.1, h3.put _⟩⟩
    | goto t =>
      obtain ⟨hk3, hi3⟩ := hp
      obtain ⟨hr, h3⟩ := fin (some (.goto t)) W3 hk3
      exact ⟨_, _, hr, .inr ⟨rfl, .goto t, hown (hIx _) _ _ _ hi3 h3.1, h3.put _⟩⟩
    | panic ch => exact hp.elim
    | outgrown => exact hp.elim
  · rintro e W2 ⟨⟨v, rfl⟩, (⟨xs, A, ⟨hi, hl0⟩, hs⟩ | ⟨pre, A, ⟨c, hi, hl0⟩, hs⟩)⟩
    · have hl := hl0.others (hSk _ _ _ hs)
      exact ⟨none, _, run_endLoop (r := rec0) hl.1 (by simp [rec0]), hdone _ xs _ (Nat.le_refl _) (hown hE _ _ _ (hend _ _ _ hi hs) hl.1) (hl.put _).2⟩
    · have hl := hl0.others (hSpk _ _ _ hs)
      exact ⟨some c, _, run_endLoop (r := { rec0 with state := .done, pending := some c }) hl.1 (by simp), hstop _ c pre _ (Nat.le_refl _) (hown (hEx _) _ _ _ (hendx _ _ _ _ hi hs) hl.1) (hl.put _).2⟩
end Go.Proofs.YtppdbinppibjhaaGreatDoor
