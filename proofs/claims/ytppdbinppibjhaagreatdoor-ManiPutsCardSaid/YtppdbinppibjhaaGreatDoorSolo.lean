/-
  A writer of the program that the call has for itself: numbers, fixed ones, texts, rising rows, one behind the other.
-/
import Derived.Test.YtppdbinppibjhaaGreatDoorWrRef
import Derived.Lib.ConvBytes
set_option linter.unusedVariables false
set_option linter.unusedSimpArgs false
namespace Go.Proofs.YtppdbinppibjhaaGreatDoor
open Go.RowKit
def Solo (B : Nat) (X : Nat → Prop) (pv : Value) (S : Option (List Nat)) (w : World) : Prop := ∃ G, WP w pv G S ∧ (∀ x, G x → B ≤ x ∧ x < w.heap.size ∧ ¬ X x) ∧ B ≤ w.heap.size ∧ ∀ x, X x → x < w.heap.size
def soloF (B : Nat) (X : Nat → Prop) (x : Nat) : Prop := B ≤ x ∧ ¬ X x
section
variable {B : Nat} {X : Nat → Prop} {pv : Value} {S : Option (List Nat)} {w w' : World}
theorem Solo.size (h : Solo B X pv S w) : B ≤ w.heap.size := by obtain ⟨_, _, _, h, _⟩ := h; exact h
theorem Solo.below (h : Solo B X pv S w) (hb : Below w.heap.size w w') : Solo B X pv S w' := by
 obtain ⟨G, h1, h2, h3, h4⟩ := h
 have hs := hb.size
 exact ⟨G, h1.kept (Kept.of_below (F := fun _ => False) hb) (fun _ _ h => h), fun x hx => by have := h2 x hx; exact ⟨this.1, by omega, this.2.2⟩, by omega, fun x hx => by have := h4 x hx; omega⟩
theorem Solo.fence (h : Solo B X pv S w) (hb : Below w.heap.size w w') : Solo B (fun x => w.heap.size ≤ x ∧ x < w'.heap.size) pv S w' := by
 obtain ⟨G, h1, h2, h3, h4⟩ := h
 have hs := hb.size
 exact ⟨G, h1.kept (Kept.of_below (F := fun _ => False) hb) (fun _ _ h => h), fun x hx => by have := h2 x hx; exact ⟨this.1, by omega, by omega⟩, by omega, fun x hx => hx.2⟩
theorem Solo.free {Y : Nat → Prop} (h : Solo B X pv S w) (hY : ∀ x, Y x → X x) : Solo B Y pv S w := by
 obtain ⟨G, h1, h2, h3, h4⟩ := h
 exact ⟨G, h1, fun x hx => ⟨(h2 x hx).1, (h2 x hx).2.1, fun h => (h2 x hx).2.2 (hY x h)⟩, h3, fun x hx => h4 x (hY x hx)⟩
theorem Solo.by (h : Solo B X pv S w) : byO S := by obtain ⟨_, h, _⟩ := h; exact h.by
theorem Solo.step {G : Nat → Prop} {S2 : Option (List Nat)} (h4 : ∀ x, G x → B ≤ x ∧ x < w.heap.size ∧ ¬ X x) (hB : B ≤ w.heap.size) (hX : ∀ x, X x → x < w.heap.size) (hw : WP w' pv (Fnew G w w') S2) (hk : Kept G w w') : Solo B X pv S2 w' ∧ Kept (soloF B X) w w' := by
 have hs := hk.size
 refine ⟨⟨_, hw, fun x hx => ?_, by omega, fun x hx => by have := hX x hx; omega⟩, hk.mono (fun k _ hg => ⟨(h4 k hg).1, (h4 k hg).2.2⟩)⟩
 rcases hx with hx | hx
 ·have := h4 x hx; exact ⟨this.1, by omega, this.2.2⟩
 ·exact ⟨by omega, by omega, fun h => by have := hX x h; omega⟩
theorem solo_nums (a : Option Addr) (len cap : Nat) (f : Nat → Int) {w1 : World} (h : Solo B X pv S w) (hb : Below w.heap.size w w1) (had : ∀ g off s, a = some ⟨g, off, s⟩ → 0 < len → g < B ∨ w.heap.size ≤ g) (hlen : len ≤ 9223372036854775807) (hsz : szO S + 6 * len ≤ 140737488355328) (hf : Ints w1 a len f) :
  Calls Tryz.prog 41 #[pv, .slice a len cap] w1 fun e w' => e = .returned (.tuple #[]) ∧ Solo B X pv (putNums S f len) w' ∧ Kept (soloF B X) w w' := by
 have hs := hb.size
 obtain ⟨G0, g1, g2, g3, g4⟩ := h
 have hab : Kept (fun _ => False) w w1 := Kept.of_below hb
 refine (number_wp pv G0 S a len cap f w1 (g1.kept hab (fun _ _ h => h)) (fun k hk => by have := g2 k hk; omega) (fun g off s e h0 hg => by have := had g off s e h0; have := g2 g hg; omega) hlen hsz hf).mono fun e w' ⟨he, hw, hk⟩ => ?_
 have hk2 : Kept G0 w w' := (hab.mono (fun _ _ h => h.elim)).trans hk (fun _ _ h => h)
 refine ⟨he, Solo.step g2 g3 g4 (hw.mono (fun k hk => ?_)) hk2⟩
 rcases hk with hk | hk
 ·exact .inl hk
 ·exact .inr ⟨by omega, hk.2⟩
theorem solo_fix (n : Nat) (h : Solo B X pv S w) (hn : n < 4294967296) (hsz : szO S + 4 ≤ 140737488355328) :
  Calls Tryz.prog 42 #[pv, .int .u32 n] w fun e w' => e = .returned (.tuple #[]) ∧ Solo B X pv (putRaw S (fixB n)) w' ∧ Kept (soloF B X) w w' := by
 obtain ⟨G, h1, h2, h3, h4⟩ := h
 exact (fixed_wp pv G S n w hn h1 (fun k hk => (h2 k hk).2.1) hsz).mono fun e w' ⟨he, hw, hk⟩ => ⟨he, Solo.step h2 h3 h4 hw hk⟩
theorem solo_rise (a : Option Addr) (n cap : Nat) (f : Nat → Int) (h : Solo B X pv S w) (had : ∀ g off s, a = some ⟨g, off, s⟩ → 0 < n → g < B ∨ X g) (hn : n ≤ 9223372036854775807) (hsz : szO S + 6 + 6 * n ≤ 140737488355328) (hf : ∀ i, (Lit.int .i64 (f i)).wf = true) (hb : Ints w a n f) :
  Calls Tryz.prog 43 #[pv, .slice a n cap] w fun e w' => e = .returned (.tuple #[]) ∧ Solo B X pv (putRising S f n) w' ∧ Kept (soloF B X) w w' := by
 obtain ⟨G, h1, h2, h3, h4⟩ := h
 exact (rising_wp pv G S a n cap f w h1 (fun k hk => (h2 k hk).2.1) (fun g off s e h0 hg => by have hh := had g off s e h0; have h5 := h2 g hg; rcases hh with hh | hh; omega; exact h5.2.2 hh) hn hsz hf hb).mono fun e w' ⟨he, hw, hk⟩ => ⟨he, Solo.step h2 h3 h4 hw hk⟩
theorem solo_bytes (h : Solo B X pv S w) (hsz : szO S ≤ 140737488355328) :
  Calls Tryz.prog 44 #[pv] w fun e w' => ∃ v, e = .returned v ∧ w'.ownsRow w.heap.size 5 1 v (szO S) (lc (hasO S)) ∧ Below w.heap.size w w' := by
 obtain ⟨G, h1, h2, h3⟩ := h
 exact bytes_wp pv G S w h1 hsz
theorem Solo.fresh (w : World) (p : Nat) (hp : p = w.heap.size) : Solo w.heap.size (fun _ => False) (.pointer (some ⟨p, 0, none⟩)) (some []) (w.alloc (.cells #[.pointer none, .int .i64 0, .bool false] 72)) :=
 ⟨fun k => k = p, by subst hp; exact .inr ⟨_, rfl, rfl, by simp, .inl ⟨rfl, heap_alloc_new _ _⟩⟩, fun x hx => by refine ⟨by omega, by simp; omega, fun h => h⟩, by simp, fun x h => h.elim⟩
theorem soloF_below (h : Kept (soloF B X) w w') (hB : B ≤ w.heap.size) : Below B w w' := h.below (fun _ hk => hk.1) hB
end
theorem putNum_some (xs : List Nat) (n : Int) (h0 : 0 ≤ n) (h1 : n ≤ maxNum) : putNum (some xs) n = some (xs ++ encN n.toNat) := if_pos ⟨h0, h1⟩
end Go.Proofs.YtppdbinppibjhaaGreatDoor
