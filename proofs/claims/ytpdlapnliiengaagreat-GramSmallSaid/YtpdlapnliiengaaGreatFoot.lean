/-
  Worlds of which only some blocks may have turned: footprints of objects that are changed by their methods.
-/
import Derived.Test.YtpdlapnliiengaaGreatKit
namespace Go.Proofs.YtpdlapnliiengaaGreat
open Go.RowKit

theorem wf64 {n : Int} (h1 : -9223372036854775808 ≤ n) (h2 : n ≤ 9223372036854775807) : (Lit.int .i64 n).wf = true := by
  simp [Lit.wf, IntKind.min, IntKind.max, IntKind.signed, IntKind.bits]; omega
theorem hide {p : Prop} (h : p) : Hid p := h

/-- Of the blocks that were there only those of F may have turned; what is no cells lies as it lay. -/
structure Kept (F : Nat → Prop) (w w' : World) : Prop where
  os : w'.os = w.os
  tape : w'.tape = w.tape
  output : w'.output = w.output
  size : w.heap.size ≤ w'.heap.size
  block : ∀ k, k < w.heap.size → ¬ F k → w'.heap[k]? = w.heap[k]?
  others : ∀ (k : Nat) (o : Obj), w.heap[k]? = some o → o.isCells = false → w'.heap[k]? = some o

/-- All cells lie as they lay. -/
def CellsKept (w w' : World) : Prop := ∀ (k : Nat) (c : Array Value) (t : TypeId) (f : Nat × Nat), w.heap[k]? = some (.cells c t f) → w'.heap[k]? = some (.cells c t f)
theorem CellsKept.of_grown {w w' : World} {row : Option Nat} (hg : w.grownBy w' row) (hr : ∀ r, row = some r → ∃ o : Obj, w.heap[r]? = some o ∧ o.isCells = false) : CellsKept w w' := fun k c t f h => by
  refine (hg.block k (Array.getElem?_eq_some_iff.1 h).1 (fun e => ?_)).trans h
  obtain ⟨o, ho, hc⟩ := hr k e.symm
  rw [h] at ho
  cases ho; cases hc
theorem CellsKept.cell {w w' : World} {a : Addr} {v : Value} (hk : CellsKept w w') (h : w.cell? a = some v) : w'.cell? a = some v := by
  obtain ⟨o, ho, hc⟩ := cells_of_cell h
  cases o with
  | cells c t f => exact (World.cell?_of_block (w := w) ((hk _ _ _ _ ho).trans ho.symm)).trans h
  | _ => cases hc
theorem CellsKept.own {w w' : World} {B n : Nat} {v : Value} {xs : List Value} {e : TypeId} {size : Nat} (h : w.ownsRow B e size v n xs) (hk : CellsKept w w') : w'.ownsRow B e size v n xs := by
  obtain ⟨hl, ⟨hv, h0⟩ | ⟨g, cap, cur, hv, hB, hg, hr⟩⟩ := h
  · exact ⟨hl, .inl ⟨hv, h0⟩⟩
  · exact ⟨hl, .inr ⟨g, cap, cur, hv, hB, hk _ _ _ _ hg, hr⟩⟩

/-- F, and the blocks that came in between two worlds. -/
def Fnew (F : Nat → Prop) (w w' : World) (k : Nat) : Prop := F k ∨ (w.heap.size ≤ k ∧ k < w'.heap.size)

section
variable {F G : Nat → Prop} {a w w' w'' : World}
theorem Kept.refl (F : Nat → Prop) (w : World) : Kept F w w := ⟨rfl, rfl, rfl, Nat.le_refl _, fun _ _ _ => rfl, fun _ _ h _ => h⟩
theorem Kept.mono (h : Kept F w w') (hFG : ∀ k, k < w.heap.size → F k → G k) : Kept G w w' := ⟨h.os, h.tape, h.output, h.size, fun k hk hn => h.block k hk (fun hf => hn (hFG k hk hf)), h.others⟩
theorem Kept.trans (h : Kept F w w') (h' : Kept G w' w'') (hG : ∀ k, k < w.heap.size → G k → F k) : Kept F w w'' :=
  ⟨h'.os.trans h.os, h'.tape.trans h.tape, h'.output.trans h.output, Nat.le_trans h.size h'.size,
    fun k hk hn => (h'.block k (Nat.lt_of_lt_of_le hk h.size) (fun hg => hn (hG k hk hg))).trans (h.block k hk hn), fun k o ho hc => h'.others k o (h.others k o ho hc) hc⟩
theorem Kept.step (h : Kept F w w') (h' : Kept (Fnew F w w') w' w'') : Kept F w w'' :=
  h.trans h' (fun k hk hg => hg.elim id (fun ⟨h1, _⟩ => absurd h1 (by omega)))
theorem Kept.drew (h : Kept F w w') : Kept F w w'.drew := ⟨h.os, h.tape, h.output, h.size, h.block, h.others⟩
theorem Kept.drewN (h : Kept F w w') (n : Nat) : Kept F w (w'.drewN n) := ⟨h.os, h.tape, h.output, h.size, h.block, h.others⟩
theorem Kept.of_below (h : Below w.heap.size w w') : Kept F w w' :=
  ⟨h.os, h.tape, h.output, h.size, fun k hk _ => h.block k hk, fun k _ ho _ => (h.block k (Array.getElem?_eq_some_iff.1 ho).1).trans ho⟩
theorem Kept.alloc (h : Kept F w w') (o : Obj) : Kept F w (w'.alloc o) := h.trans (Kept.of_below (F := F) ((Below.refl _ _).alloc (Nat.le_refl _) o)) (fun _ _ h => h)
theorem Kept.setCell (h : Kept F w w') {p : Addr} (hp : F p.block ∨ w.heap.size ≤ p.block) (u : Value) : Kept F w (w'.setCell p u) :=
  h.trans (G := fun k => k = p.block) ⟨rfl, rfl, rfl, by simp [World.setCell], fun k _ hn => Below.heap_setCell _ _ _ _ hn, (KeepsOthers.setCell w' p u).same⟩
    (fun k hk e => by
      rcases hp with hp | hp
      · rw [e]; exact hp
      · omega)
theorem Kept.grown {row : Option Nat} (h : Kept F w w') (hg : w'.grownBy w'' row) (hr : ∀ r, row = some r → (F r ∧ ∀ o : Obj, w'.heap[r]? = some o → o.isCells = true) ∨ w.heap.size ≤ r) : Kept F w w'' :=
  ⟨hg.os.trans h.os, hg.tape.trans h.tape, hg.output.trans h.output, Nat.le_trans h.size hg.size, fun k hk hn => (hg.block k (Nat.lt_of_lt_of_le hk h.size) (fun e => by
      rcases hr k e.symm with hf | hl
      · exact hn hf.1
      · omega)).trans (h.block k hk hn), fun k o ho hc => by
      have hk : k < w.heap.size := (Array.getElem?_eq_some_iff.1 ho).1
      have ho' := h.others k o ho hc
      refine (hg.block k (Nat.lt_of_lt_of_le hk h.size) (fun e => ?_)).trans ho'
      rcases hr k e.symm with hf | hl
      · have := hf.2 o ho'
        rw [hc] at this; cases this
      · omega⟩
theorem Kept.below {B : Nat} (h : Kept F w w') (hF : ∀ k, F k → B ≤ k) (hB : B ≤ w.heap.size) : Below B w w' :=
  ⟨h.os, h.tape, h.output, h.size, fun k hk => h.block k (by omega) (fun hf => by have := hF k hf; omega)⟩
theorem Kept.cell (h : Kept F w w') {p : Addr} {v : Value} (hc : w.cell? p = some v) (hp : ¬ F p.block) : w'.cell? p = some v :=
  (World.cell?_of_block (w := w) (h.block p.block (block_lt_of_cell hc) hp)).trans hc
theorem Kept.frozen (h : Kept F w w') {p : Addr} (hlt : p.block < w.heap.size) (hp : ¬ F p.block) : w'.frozen? p = w.frozen? p := World.frozen?_of_block (w := w) (h.block p.block hlt hp)
theorem Kept.unfrozen (h : Kept F w w') {p : Addr} {v : Value} (hc : w.cell? p = some v) (hp : ¬ F p.block) (hf : w.frozen? p = false) : w'.frozen? p = false := (h.frozen (block_lt_of_cell hc) hp).trans hf
theorem Kept.heap (h : Kept F w w') {k : Nat} {o : Obj} (ho : w.heap[k]? = some o) (hp : ¬ F k) : w'.heap[k]? = some o :=
  (h.block k (Array.getElem?_eq_some_iff.1 ho).1 hp).trans ho
theorem Kept.keepsOthers (h : Kept F w w') : KeepsOthers w w' := ⟨h.size, h.others⟩
theorem Fnew.sub (hs : w'.heap.size ≤ w''.heap.size) (hs0 : w.heap.size ≤ w'.heap.size) {k : Nat} (h : Fnew (Fnew F w w') w' w'' k) : Fnew F w w'' k := by
  rcases h with (h | h) | h
  · exact .inl h
  · exact .inr ⟨h.1, by omega⟩
  · exact .inr ⟨by omega, h.2⟩
theorem Fnew.lt (hF : ∀ k, F k → k < w.heap.size) (hs : w.heap.size ≤ w'.heap.size) {k : Nat} (h : Fnew F w w' k) : k < w'.heap.size := by
  rcases h with h | h
  · have := hF k h; omega
  · exact h.2

/-- A slice's bytes are kept where its block is. -/
theorem Byt.kept {b : Option Addr} {len : Nat} {z : Nat → Nat} (h : Byt w b len z) (hk : Kept F w w') (hb : ∀ g off s, b = some ⟨g, off, s⟩ → ¬ F g) : Byt w' b len z := by
  obtain ⟨hz, h | ⟨g, off, rfl, hc⟩⟩ := h
  · exact ⟨hz, .inl h⟩
  · exact ⟨hz, .inr ⟨g, off, rfl, fun i hi => hk.cell (hc i hi) (hb g off none rfl)⟩⟩
end

/-- The cells of bytes. -/
def lc (L : List Nat) : List Value := L.map fun b => .int .u8 (b : Nat)
theorem lc_length (L : List Nat) : (lc L).length = L.length := by simp [lc]
theorem lc_append (L M : List Nat) : lc (L ++ M) = lc L ++ lc M := by simp [lc]
theorem lc_one (L : List Nat) : ∀ u ∈ lc L, u.oneCell' = true := by
  intro u hu
  simp only [lc, List.mem_map] at hu
  obtain ⟨b, _, rfl⟩ := hu
  rfl
theorem lc_get (L : List Nat) (i : Nat) (h : i < L.length) : (lc L)[i]? = some (.int .u8 (L.getD i 0 : Nat)) := by
  simp [lc, h]
theorem cellsOf_lc (L : List Nat) : cellsOf (fun i => L.getD i 0) L.length = lc L := by
  apply List.ext_getElem?
  intro i
  by_cases h : i < L.length
  · rw [cellsOf_get _ _ _ h, lc_get _ _ h]
  · rw [List.getElem?_eq_none (by rw [cellsOf_length]; omega), List.getElem?_eq_none (by rw [lc_length]; omega)]
/-- A slice holds the bytes L. -/
def BL (w : World) (a : Option Addr) (L : List Nat) : Prop := Byt w a L.length (fun i => L.getD i 0)
theorem BL.lt {w : World} {a : Option Addr} {L : List Nat} (h : BL w a L) : ∀ b ∈ L, b < 256 := by
  intro b hb
  obtain ⟨i, hi, rfl⟩ := List.getElem_of_mem hb
  have := h.1 i
  simpa [List.getD_eq_getElem?_getD, hi] using this
theorem BL.mk {w : World} {a : Option Addr} {L : List Nat} (hL : ∀ b ∈ L, b < 256) (h : L.length = 0 ∨ ∃ b off, a = some ⟨b, off, none⟩ ∧ ∀ i, i < L.length → w.cell? ⟨b, off + i, none⟩ = some (.int .u8 (L.getD i 0 : Nat))) : BL w a L :=
  ⟨fun i => by
    by_cases hi : i < L.length
    · have := hL (L[i]) (List.getElem_mem hi)
      simpa [List.getD_eq_getElem?_getD, hi] using this
    · show L.getD i 0 < 256
      rw [List.getD_eq_getElem?_getD, List.getElem?_eq_none (by omega)]; simp, h⟩
/-- The bytes of an index's function, as a list. -/
def tx (z : Nat → Nat) (n : Nat) : List Nat := (List.range n).map z
theorem tx_length (z : Nat → Nat) (n : Nat) : (tx z n).length = n := by simp [tx]
theorem tx_get (z : Nat → Nat) (n i : Nat) (h : i < n) : (tx z n).getD i 0 = z i := by simp [tx, List.getD_eq_getElem?_getD, h]
theorem Byt.bl {w : World} {a : Option Addr} {n : Nat} {z : Nat → Nat} (h : Byt w a n z) : BL w a (tx z n) := by
  refine BL.mk (fun b hb => ?_) ?_
  · simp only [tx, List.mem_map] at hb
    obtain ⟨i, _, rfl⟩ := hb
    exact h.1 i
  · rw [tx_length]
    rcases h.2 with h0 | ⟨b, off, h1, h2⟩
    · exact .inl h0
    · exact .inr ⟨b, off, h1, fun i hi => by rw [tx_get _ _ _ hi]; exact h2 i hi⟩
theorem BL.cell {w : World} {a : Option Addr} {L : List Nat} (h : BL w a L) (hn : 0 < L.length) : ∃ b off, a = some ⟨b, off, none⟩ ∧ ∀ i, i < L.length → w.cell? ⟨b, off + i, none⟩ = some (.int .u8 (L.getD i 0 : Nat)) := by
  rcases h.2 with h0 | h1
  · omega
  · exact h1
theorem BL.news {w : World} {a : Option Addr} {L : List Nat} (h : BL w a L) : ∀ ad, a = some ad → ∀ j u, (lc L)[j]? = some u → w.cell? (ad.add j) = some u := by
  intro ad had
  rcases h.2 with h0 | ⟨b, off, h1, hc⟩
  · intro j u hj
    have := List.eq_nil_of_length_eq_zero h0
    subst this
    simp [lc] at hj
  · rw [h1] at had
    cases had
    rw [← cellsOf_lc]
    exact cellsOf_news hc
theorem BL.below {w w' : World} {a : Option Addr} {L : List Nat} (h : BL w a L) (hb : Below w.heap.size w w') : BL w' a L := Byt.below h hb
theorem BL.kept {F : Nat → Prop} {w w' : World} {a : Option Addr} {L : List Nat} (h : BL w a L) (hk : Kept F w w') (hb : ∀ g off s, a = some ⟨g, off, s⟩ → ¬ F g) : BL w' a L := Byt.kept h hk hb
theorem BL.drop {w : World} {b off : Nat} {L : List Nat} (h : BL w (some ⟨b, off, none⟩) L) (k : Nat) (hk : k ≤ L.length) : BL w (some ⟨b, off + k, none⟩) (L.drop k) := by
  refine BL.mk (fun x hx => h.lt x (List.mem_of_mem_drop hx)) ?_
  rcases Nat.eq_zero_or_pos (L.drop k).length with h0 | h0
  · exact .inl h0
  · rw [List.length_drop] at h0
    obtain ⟨b', off', e, hc⟩ := h.cell (by omega)
    cases e
    refine .inr ⟨b, off + k, rfl, fun i hi => ?_⟩
    rw [List.length_drop] at hi
    rw [Nat.add_assoc, hc (k + i) (by omega)]
    simp [List.getD_eq_getElem?_getD, List.getElem?_drop]
theorem BL.take {w : World} {a : Option Addr} {L : List Nat} (h : BL w a L) (k : Nat) : BL w a (L.take k) := by
  refine BL.mk (fun x hx => h.lt x (List.mem_of_mem_take hx)) ?_
  rcases Nat.eq_zero_or_pos (L.take k).length with h0 | h0
  · exact .inl h0
  · have hl := List.length_take_le' k L
    have hl2 := List.length_take_le k L
    obtain ⟨b, off, e, hc⟩ := h.cell (by omega)
    refine .inr ⟨b, off, e, fun i hi => ?_⟩
    rw [hc i (by omega)]
    simp [List.getD_eq_getElem?_getD, show i < k from by omega]
/-- What is owned is such a slice. -/
theorem owns_bl {w : World} {B n : Nat} {v : Value} {L : List Nat} (h : w.ownsRow B 5 1 v n (lc L)) (hL : ∀ b ∈ L, b < 256) :
    n = L.length ∧ ∃ a cap, v = .slice a n cap ∧ n ≤ cap ∧ cap ≤ 9223372036854775807 ∧ (a = none → cap = 0) ∧ (cap = 0 ∨ ∃ b, a = some ⟨b, 0, none⟩) ∧ BL w a L ∧ (∀ g off s, a = some ⟨g, off, s⟩ → v.ownBlock = some g ∧ off = 0 ∧ B ≤ g ∧ g < w.heap.size) := by
  have hn : n = L.length := by have := h.1; rw [lc_length] at this; omega
  refine ⟨hn, ?_⟩
  obtain ⟨_, ⟨hv, h0⟩ | ⟨g, cap, cur, hv, hB, hg, hnc, hcm, hcs, hx⟩⟩ := h
  · subst h0
    refine ⟨none, 0, hv, by omega, by omega, (fun _ => rfl), .inl rfl, BL.mk hL (.inl hn.symm), (fun g off s e => by cases e)⟩
  · unfold maxLen at hcm
    refine ⟨_, cap, hv, hnc, hcm, (fun e => by cases e), .inr ⟨_, rfl⟩, BL.mk hL (.inr ⟨g, 0, rfl, fun i hi => ?_⟩), (fun g' off s e => by cases e; subst hv; exact ⟨rfl, rfl, hB, block_lt hg⟩)⟩
    rw [Nat.zero_add, cell_of_row _ _ _ _ _ _ hg]
    have h1 := lc_get L i hi
    rw [← hx, List.getElem?_take_of_lt (by omega)] at h1
    simpa using h1
theorem owns_kept {F : Nat → Prop} {w w' : World} {B n : Nat} {v : Value} {xs : List Value} {e : TypeId} (h : w.ownsRow B e 1 v n xs) (hk : Kept F w w') (hb : ∀ g, v.ownBlock = some g → ¬ F g) : w'.ownsRow B e 1 v n xs := by
  obtain ⟨hl, ⟨hv, h0⟩ | ⟨g, cap, cur, hv, hB, hg, hr⟩⟩ := h
  · exact ⟨hl, .inl ⟨hv, h0⟩⟩
  · exact ⟨hl, .inr ⟨g, cap, cur, hv, hB, hk.heap hg (hb g (by subst hv; rfl)), hr⟩⟩
theorem owns_cells {w : World} {B n : Nat} {v : Value} {xs : List Value} {e : TypeId} {size : Nat} (h : w.ownsRow B e size v n xs) : ∀ r, v.ownBlock = some r → r < w.heap.size ∧ B ≤ r ∧ ∃ cur, w.heap[r]? = some (.cells cur e (0, 0)) := by
  intro r hr
  obtain ⟨hl, ⟨hv, h0⟩ | ⟨g, cap, cur, hv, hB, hg, hx⟩⟩ := h
  · subst hv; cases hr
  · subst hv; cases hr; exact ⟨block_lt hg, hB, cur, hg⟩
end Go.Proofs.YtpdlapnliiengaaGreat
