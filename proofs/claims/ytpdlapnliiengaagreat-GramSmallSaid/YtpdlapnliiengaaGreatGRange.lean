/-
  A range over a function that lives on a map: the loop's rounds leave the map as it lies.
-/
import Derived.Test.YtpdlapnliiengaaGreatRangeA
namespace Go.Proofs.YtpdlapnliiengaaGreat
open Go.RowKit

/-- The iterator's contract, where the caller's rounds leave Lv: O: the blocks that the caller's rounds may turn; ks: those that the iterator lives on. -/
def SeqL {α : Type} (F : Fence) (n : Nat) (P : Program) (g : Nat) (lb : Array Value) (encs : α → Array Value) (G : Nat → List α → World → α → World → Prop) (ks : Nat → Prop)
    (S Sp : Nat → List α → World → World → Prop) (Lv : World → Prop) (w : World) : Prop :=
  ∀ (l : Nat) (J : List α × (Nat → Prop) → World → Prop) (Jx : List α → World → Prop) (W : World) (O0 : Nat → Prop), Below w.heap.size w W → l < W.heap.size → (∀ k, O0 k → ¬ ks k ∧ k < W.heap.size) → (∀ s A, J s A → Lv A) →
    (∀ pre O x A B, J (pre, O) A → G W.heap.size pre A x B → YieldAt F (n - 1) P l (encs x) B fun e W' =>
      (e = .returned (.bool true) ∧ (∃ O', J (pre ++ [x], O') W' ∧ KeptO O B W' ∧ ∀ k, O' k → (O k ∨ B.heap.size ≤ k) ∧ k < W'.heap.size) ∧ KeepsFrom (l + 1) B W') ∨ (e = .returned (.bool false) ∧ Jx (pre ++ [x]) W' ∧ KeepsFrom (l + 1) B W')) →
    J ([], O0) W →
    CallsIn F n P g (#[.func (.yield l) #[] #[]] ++ lb) W fun e W' => (∃ v, e = .returned v) ∧ ((∃ xs O A, J (xs, O) A ∧ S W.heap.size xs A W') ∨ (∃ pre A, Jx pre A ∧ Sp W.heap.size pre A W'))

variable {F : Fence} {n : Nat} {P : Program}

/-- The law. -/
theorem wpIn_rangeFunc_L {α : Type} {g : Operand} {ps : Array Tmp} {assign body : Code} {Q : Exit → Act → World → Prop} {a : Act} {w : World}
    (hro : F.round = none) (h1 : 1 ≤ n) {gf : Nat} {lb : Array Value} (hg : a.eval g = .func (.func gf) #[] lb) (hFg : F.fn gf) (eg : ∀ args w, (callFunc gf args).run P w = .ok (.enter gf args) w)
    {encs : α → Array Value} {G : Nat → List α → World → α → World → Prop} {ks : Nat → Prop} {S Sp : Nat → List α → World → World → Prop} {w0 : World} {Lv : World → Prop} (hseq : SeqL F (n - 1) P gf lb encs G ks S Sp Lv w0)
    (hGk : ∀ pre x A B, G (w.heap.size + 2) pre A x B → KeepsTo (w.heap.size + 2) A B) (hSk : ∀ xs A B, S (w.heap.size + 2) xs A B → KeepsTo (w.heap.size + 2) A B) (hSpk : ∀ xs A B, Sp (w.heap.size + 2) xs A B → KeepsTo (w.heap.size + 2) A B)
    (hb0 : Below w0.heap.size w0 w) (hps : ∀ x, (encs x).size = ps.size)
    (I : List α × (Nat → Prop) → World → Prop) (Ix : Code → List α → World → Prop) (M : List α × (Nat → Prop) → α → World → Prop) (E : List α → World → Prop) (Ex : Code → List α → World → Prop)
    (hIL : ∀ s W, I s W → Lv W) (hI : OwnFrom w.heap.size I) (hIx : ∀ c, OwnFrom w.heap.size (Ix c)) (hE : OwnFrom w.heap.size E) (hEx : ∀ c, OwnFrom w.heap.size (Ex c))
    (hmid : ∀ pre O x A B, I (pre, O) A → G (w.heap.size + 2) pre A x B → M (pre, O) x B) (hend : ∀ xs O A B, I (xs, O) A → S (w.heap.size + 2) xs A B → E xs B) (hendx : ∀ c pre A B, Ix c pre A → Sp (w.heap.size + 2) pre A B → Ex c pre B)
    (O0 : Nat → Prop) (hO0 : ∀ k, O0 k → ¬ ks k ∧ k < w.heap.size) (h0 : I ([], O0) w) (M2 : List α × (Nat → Prop) → α → Act → World → Prop) (hM2 : ∀ x a', OwnFrom w.heap.size (fun s => M2 s x a'))
    (hassign : ∀ (l : Nat) (pre : List α) (O : Nat → Prop) (x : α) (W : World) (K : Act → World → Prop), M (pre, O) x W → (∀ a' W', KeepsFrom w.heap.size W W' → KeptO (fun _ => False) W W' → M2 (pre, O) x a' W' → K a' W') →
      assign.wpIn (F.inRound l) (n - 1 - 1) P (Exit.then K (fun _ _ _ => False)) { tmps := (ps.zip (encs x)).foldl (fun t (p, v) => t.setIfInBounds p v) a.tmps, defers := [] } W)
    (hbody : ∀ (l : Nat) (pre : List α) (O : Nat → Prop) (x : α) (a' : Act) (W : World), M2 (pre, O) x a' W → body.wpIn (F.inRound l) (n - 1 - 1) P (ownPostO w.heap.size I Ix (pre ++ [x]) O W) a' W)
    (hdone : ∀ (D : Nat) (xs : List α) (W : World), w.heap.size ≤ D → E xs W → W.heap[D]? = some (.deferred (some [])) → Q .normal { a with defers := { target := .collected D, args := #[] } :: a.defers } W)
    (hstop : ∀ (D : Nat) (c : Code) (pre : List α) (W : World), w.heap.size ≤ D → Ex c pre W → W.heap[D]? = some (.deferred (some [])) → c.wpIn F n P Q { a with defers := { target := .collected D, args := #[] } :: a.defers } W) :
    (Code.rangeFunc g ps assign body).wpIn F n P Q a w := by
  refine wpIn_rangeFunc fun fn hfn => ?_
  rw [hro]
  let rec0 : Loop := { state := .ready, pending := none, fn, tmps := a.tmps, params := ps, assign, body, defers := w.heap.size }
  have hent := run_enterLoop_outer (P := P) (w := w) fn a.tmps ps assign body
  obtain ⟨W1, hW1⟩ : ∃ W1, (w.alloc (.deferred (some []))).alloc (.loop rec0) = W1 := ⟨_, rfl⟩
  have h2 : Two2 w.heap.size rec0 W1 := by
    rw [← hW1]
    refine ⟨?_, (Below.heap_alloc _ _ _ (by simp)).trans (World.alloc_heap_new w _)⟩
    have := World.alloc_heap_new (w.alloc (.deferred (some []))) (.loop rec0)
    rwa [World.size_alloc] at this
  have hs1 : W1.heap.size = w.heap.size + 2 := by rw [← hW1]; simp
  have hI1 : I ([], O0) W1 := by rw [← hW1]; exact hI.alloc _ (hI.alloc _ h0)
  have hb1 : Below w0.heap.size w0 W1 := by
    rw [← hW1]
    exact hb0.trans ((((Below.refl _ w).alloc (Nat.le_refl _) _).alloc (by simp) _).mono hb0.size)
  refine ⟨w.heap.size + 1, _, W1, { target := .fn (.func gf) lb, args := #[.func (.yield (w.heap.size + 1)) #[] #[]] }, W1, gf, #[.func (.yield (w.heap.size + 1)) #[] #[]] ++ lb, W1, by rw [← hW1]; exact hent, ?_, ?_, by simp [invoke, go_sem, eg], fun _ => h1, ?_⟩
  · simp only [resolve, hg]
    simp [go_sem]
  · intro f' hf'
    simp [Target.leads] at hf'
    exact hf' ▸ hFg
  have hown : ∀ {β : Type} {K : β → World → Prop}, OwnFrom w.heap.size K → ∀ xs {W : World} (r : Loop) (o' : Obj), K xs W → W.heap[w.heap.size + 1]? = some (.loop r) → K xs (W.putObj (w.heap.size + 1) o') :=
    fun hK xs W r o' hk hl => hK.putObj o' hk (by omega) hl rfl
  refine (hseq (w.heap.size + 1) (fun s W => I s W ∧ Two2 w.heap.size rec0 W) (fun pre W => ∃ c, Ix c pre W ∧ Two2 w.heap.size { rec0 with state := .done, pending := some c } W) W1 O0 hb1 (by omega) (fun k hk => ⟨(hO0 k hk).1, by have := (hO0 k hk).2; omega⟩) (fun s A h => hIL s A h.1) ?_ ⟨hI1, h2⟩).mono ?_
  · rw [hs1]
    rintro pre O x A Wb ⟨hi, hl0⟩ hgx
    have hlB := hl0.to (hGk _ _ _ _ hgx) (Nat.le_refl _)
    refine ⟨fn, _, assign, body, run_yield (r := rec0) hlB.1 (hps x), roundIn_of_wpIn hfn (hassign _ pre O x Wb _ (hmid _ _ _ _ _ hi hgx) ?_)⟩
    intro a' W hka hpa hm2
    have hl := hlB.from hka (Nat.le_refl _)
    refine ⟨_, run_beginRound hl.1 rfl, ?_⟩
    have hlb := hl.put { rec0 with state := .busy }
    have hkb : KeptO O W (W.putObj (w.heap.size + 1) (.loop { rec0 with state := .busy })) := KeptO.put _ hl.1 rfl
    refine wpIn_mono (hbody _ pre O x a' _ (hown (hM2 x a') (pre, O) _ _ hm2 hl.1)) ?_
    have fin : ∀ (jump : Option Code) (W3 : World), KeepsFrom w.heap.size (W.putObj (w.heap.size + 1) (.loop { rec0 with state := .busy })) W3 →
        (Instr.endRound (w.heap.size + 1) jump).run P W3 = .ok (.bool jump.isNone) (W3.putObj (w.heap.size + 1) (.loop { rec0 with state := if jump.isNone then .ready else .done, pending := jump })) ∧
        Two2 w.heap.size { rec0 with state := .busy } W3 := fun jump W3 hk3 => ⟨run_endRound (r := { rec0 with state := .busy }) jump (hlb.from hk3 (Nat.le_refl _)).1, hlb.from hk3 (Nat.le_refl _)⟩
    have hkk : ∀ (W3 : World) (o : Obj), KeepsFrom w.heap.size (W.putObj (w.heap.size + 1) (.loop { rec0 with state := .busy })) W3 → KeepsFrom (w.heap.size + 1 + 1) Wb (W3.putObj (w.heap.size + 1) o) := fun W3 o hk3 => by
      have e1 : KeepsFrom (w.heap.size + 1 + 1) Wb W := ⟨hka.size, fun k o hB => hka.same k o (by omega)⟩
      have e2 := keepsFrom_put W (w.heap.size + 1) (.loop { rec0 with state := .busy })
      have e3 : KeepsFrom (w.heap.size + 1 + 1) (W.putObj (w.heap.size + 1) (.loop { rec0 with state := .busy })) W3 := ⟨hk3.size, fun k o hB => hk3.same k o (by omega)⟩
      exact ((e1.trans e2).trans e3).trans (keepsFrom_put W3 _ o)
    intro e a3 W3 hp
    cases e with
    | normal =>
      obtain ⟨hk3, O', hi3, hko3, hOO⟩ := hp
      obtain ⟨hr, h3⟩ := fin none W3 hk3
      refine ⟨_, _, hr, .inl ⟨rfl, ⟨O', ⟨hown hI _ _ _ hi3 h3.1, h3.put _⟩, ((hpa.mono (fun _ h => h.elim)).trans (hkb.trans hko3)).trans (KeptO.put _ h3.1 rfl), fun k hk => ?_⟩, hkk _ _ hk3⟩⟩
      have hs := hpa.size
      obtain ⟨h1, h2⟩ := hOO k hk
      refine ⟨h1.imp (fun h => h) (fun h => ?_), by simpa using h2⟩
      have : W.heap.size ≤ k := by simpa using h
      omega
    | ret =>
      obtain ⟨hk3, hi3⟩ := hp
      obtain ⟨hr, h3⟩ := fin (some .ret) W3 hk3
      exact ⟨_, _, hr, .inr ⟨rfl, ⟨.ret, hown (hIx _) _ _ _ hi3 h3.1, h3.put _⟩, hkk _ _ hk3⟩⟩
    | exit id =>
      obtain ⟨hk3, hi3⟩ := hp
      obtain ⟨hr, h3⟩ := fin (some (.exit id)) W3 hk3
      exact ⟨_, _, hr, .inr ⟨rfl, ⟨.exit id, hown (hIx _) _ _ _ hi3 h3.1, h3.put _⟩, hkk _ _ hk3⟩⟩
    | goto t =>
      obtain ⟨hk3, hi3⟩ := hp
      obtain ⟨hr, h3⟩ := fin (some (.goto t)) W3 hk3
      exact ⟨_, _, hr, .inr ⟨rfl, ⟨.goto t, hown (hIx _) _ _ _ hi3 h3.1, h3.put _⟩, hkk _ _ hk3⟩⟩
    | panic ch => exact hp.elim
    | outgrown => exact hp.elim
  · rw [hs1]
    rintro e W2 ⟨⟨v, rfl⟩, (⟨xs, O, A, ⟨hi, hl0⟩, hs⟩ | ⟨pre, A, ⟨c, hi, hl0⟩, hs⟩)⟩
    · have hl := hl0.to (hSk _ _ _ hs) (Nat.le_refl _)
      exact ⟨none, _, run_endLoop (r := rec0) hl.1 (by simp [rec0]), hdone _ xs _ (Nat.le_refl _) (hown hE _ _ _ (hend _ _ _ _ hi hs) hl.1) (hl.put _).2⟩
    · have hl := hl0.to (hSpk _ _ _ hs) (Nat.le_refl _)
      exact ⟨some c, _, run_endLoop (r := { rec0 with state := .done, pending := some c }) hl.1 (by simp), hstop _ c pre _ (Nat.le_refl _) (hown (hEx _) _ _ _ (hendx _ _ _ _ hi hs) hl.1) (hl.put _).2⟩
end Go.Proofs.YtpdlapnliiengaaGreat
