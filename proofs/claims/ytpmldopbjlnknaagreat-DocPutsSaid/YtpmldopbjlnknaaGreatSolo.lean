/-
  A writer of the program that the call has for itself: numbers, fixed ones, texts, rising rows, one behind the other.
-/
import Derived.Test.YtpmldopbjlnknaaGreatWrRef
import Derived.Lib.ConvBytes
set_option linter.unusedVariables false
set_option linter.unusedSimpArgs false
namespace Go.Proofs.YtpmldopbjlnknaaGreat
open Go.RowKit
def Solo (B : Nat) (X : Nat → Prop) (pv : Value) (S : Option (List Nat)) (w : World) : Prop := ∃ G, WP w pv G S ∧ (∀ x, G x → B ≤ x ∧ x < w.heap.size ∧ ¬ X x) ∧ B ≤ w.heap.size ∧ ∀ x, X x → x < w.heap.size
def soloF (B : Nat) (X : Nat → Prop) (x : Nat) : Prop := B ≤ x ∧ ¬ X x
section
variable {B : Nat} {X : Nat → Prop} {pv : Value} {S : Option (List Nat)} {w w' : World}
theorem Solo.size (h : Solo B X pv S w) : B ≤ w.heap.size := by obtain ⟨_, _, _, h, _⟩ := h; exact h
theorem Solo.below (h : Solo B X pv S w) (hb : Below w.heap.size w w') : Solo B X pv S w' := by
 obtain ⟨G, h1, h2, h3, h4⟩ := h
 have hs := hb.size
 exact ⟨G, h1.kept (Kept.of_below (F := fun _ => False) hb) (fun _ _ h => h), fun x hx => by have := h2 x hx; exact ⟨this.1, by omega, this.2.2⟩, by omega, fun x hx => by have := h4 x hx; omega⟩
theorem Solo.fence (h : Solo B X pv S w) (hb : Below w.heap.size w w') : Solo B (fun x => w.heap.size ≤ x ∧ x < w'.heap.size) pv S w' := by
 obtain ⟨G, h1, h2, h3, h4⟩ := h
 have hs := hb.size
 exact ⟨G, h1.kept (Kept.of_below (F := fun _ => False) hb) (fun _ _ h => h), fun x hx => by have := h2 x hx; exact ⟨this.1, by omega, by omega⟩, by omega, fun x hx => hx.2⟩
theorem Solo.free {Y : Nat → Prop} (h : Solo B X pv S w) (hY : ∀ x, Y x → X x) : Solo B Y pv S w := by
 obtain ⟨G, h1, h2, h3, h4⟩ := h
 exact ⟨G, h1, fun x hx => ⟨(h2 x hx).1, (h2 x hx).2.1, fun h => (h2 x hx).2.2 (hY x h)⟩, h3, fun x hx => h4 x (hY x hx)⟩
theorem Solo.by (h : Solo B X pv S w) : byO S := by obtain ⟨_, h, _⟩ := h; exact h.by
theorem Solo.step {G : Nat → Prop} {S2 : Option (List Nat)} (h4 : ∀ x, G x → B ≤ x ∧ x < w.heap.size ∧ ¬ X x) (hB : B ≤ w.heap.size) (hX : ∀ x, X x → x < w.heap.size) (hw : WP w' pv (Fnew G w w') S2) (hk : Kept G w w') : Solo B X pv S2 w' ∧ Kept (soloF B X) w w' := by
 have hs := hk.size
 refine ⟨⟨_, hw, fun x hx => ?_, by omega, fun x hx => by have := hX x hx; omega⟩, hk.mono (fun k _ hg => ⟨(h4 k hg).1, (h4 k hg).2.2⟩)⟩
 rcases hx with hx | hx
 ·have := h4 x hx; exact ⟨this.1, by omega, this.2.2⟩
 ·exact ⟨by omega, by omega, fun h => by have := hX x h; omega⟩
theorem solo_num (x : Int) (h : Solo B X pv S w) (hsz : szO S + 6 ≤ 140737488355328) (g : Nat) (hg : g = w.heap.size) :
  Calls Tryz.prog 24 #[pv, .slice (some ⟨g, 0, none⟩) 1 1] (w.alloc (.cells #[.int .i64 x] 3)) fun e w' => e = .returned (.tuple #[]) ∧ Solo B X pv (putNum S x) w' ∧ Kept (soloF B X) w w' := by
 obtain ⟨G, h1, h2, h3, h4⟩ := h
 refine (number_one pv G S x w h1 (fun k hk => (h2 k hk).2.1) hsz g hg).mono fun e w' ⟨he, hw, hk⟩ => ⟨he, Solo.step h2 h3 h4 hw hk⟩
theorem solo_fix (n : Nat) (h : Solo B X pv S w) (hn : n < 4294967296) (hsz : szO S + 4 ≤ 140737488355328) :
  Calls Tryz.prog 26 #[pv, .int .u32 n] w fun e w' => e = .returned (.tuple #[]) ∧ Solo B X pv (putRaw S (fixB n)) w' ∧ Kept (soloF B X) w w' := by
 obtain ⟨G, h1, h2, h3, h4⟩ := h
 exact (fixed_wp pv G S n w hn h1 (fun k hk => (h2 k hk).2.1) hsz).mono fun e w' ⟨he, hw, hk⟩ => ⟨he, Solo.step h2 h3 h4 hw hk⟩
theorem solo_text (a : Option Addr) (cap q : Nat) (L : List Nat) {w1 : World} (h : Solo B X pv S w) (hb : Below w.heap.size w w1) (had : ∀ g off s, a = some ⟨g, off, s⟩ → 0 < L.length → (g < B ∨ w.heap.size ≤ g) ∧ g < w1.heap.size) (hq : q = w1.heap.size) (hcap : L.length ≤ cap) (hcm : cap ≤ 9223372036854775807) (hn : a = none → cap = 0) (hsz : szO S + 6 + L.length ≤ 140737488355328) (hL : BL w1 a L) :
  Calls Tryz.prog 25 #[pv, .slice (some ⟨q, 0, none⟩) 1 1] (w1.alloc (.cells #[.slice a L.length cap] 26)) fun e w' => e = .returned (.tuple #[]) ∧ Solo B X pv (putText S L) w' ∧ Kept (soloF B X) w w' := by
 subst hq
 obtain ⟨G, h1, h2, h3, h4⟩ := h
 have hs := hb.size
 have hab : Kept (fun _ => False) w (w1.alloc (.cells #[.slice a L.length cap] 26)) := (Kept.of_below hb).trans (Kept.of_below (F := fun _ => False) (below_alloc w1 _)) (fun _ _ h => h)
 have hs1 : (w1.alloc (.cells #[.slice a L.length cap] 26)).heap.size = w1.heap.size + 1 := by simp
 refine (text_wp pv G S (some ⟨w1.heap.size, 0, none⟩) 1 1 (fun _ => a) (fun _ => L.length) (fun _ => cap) (fun _ => L) _ (h1.kept hab (fun _ _ h => h)) (fun k hk => by have := h2 k hk; omega) (fun g' off s e _ hg' => by cases e; have := h2 _ hg'; omega)
  (fun j hj g' off s e h0 => by have hh := had g' off s e h0; exact ⟨fun hg => by have := h2 _ hg; omega, by omega⟩) (by omega) (by simp [sumL]; omega)
  (.inr ⟨w1.heap.size, 0, rfl, fun j hj => ⟨by
   have : j = 0 := by omega
   subst this
   rw [Nat.zero_add]
   exact (cell_new_l w1 _ _).1, hcap, hcm, hn, rfl, hL.below (below_alloc w1 _)⟩⟩)).mono fun e w' ⟨he, hw, hk⟩ => ?_
 have hkk : Kept G w w' := (hab.mono (fun _ _ h => h.elim)).trans hk (fun _ _ h => h)
 refine ⟨he, Solo.step h2 h3 h4 (hw.mono (fun k hk => ?_)) hkk⟩
 rcases hk with hk | hk
 ·exact .inl hk
 ·exact .inr ⟨by omega, hk.2⟩
theorem solo_bytes (h : Solo B X pv S w) (hsz : szO S ≤ 140737488355328) :
  Calls Tryz.prog 27 #[pv] w fun e w' => ∃ v, e = .returned v ∧ w'.ownsRow w.heap.size 5 1 v (szO S) (lc (hasO S)) ∧ Below w.heap.size w w' := by
 obtain ⟨G, h1, h2, h3⟩ := h
 exact bytes_wp pv G S w h1 hsz
theorem Solo.fresh (w : World) (p : Nat) (hp : p = w.heap.size) : Solo w.heap.size (fun _ => False) (.pointer (some ⟨p, 0, none⟩)) (some []) (w.alloc (.cells #[.pointer none, .int .i64 0, .bool false] 52)) :=
 ⟨fun k => k = p, by subst hp; exact .inr ⟨_, rfl, rfl, by simp, .inl ⟨rfl, heap_alloc_new _ _⟩⟩, fun x hx => by refine ⟨by omega, by simp; omega, fun h => h⟩, by simp, fun x h => h.elim⟩
theorem soloF_below (h : Kept (soloF B X) w w') (hB : B ≤ w.heap.size) : Below B w w' := h.below (fun _ hk => hk.1) hB
end
theorem putNum_some (xs : List Nat) (n : Int) (h0 : 0 ≤ n) (h1 : n ≤ maxNum) : putNum (some xs) n = some (xs ++ encN n.toNat) := if_pos ⟨h0, h1⟩
theorem putText_some (xs b : List Nat) (h : b.length ≤ maxNum) : putText (some xs) b = some (xs ++ (encN b.length ++ b)) := by
 unfold putText
 rw [putNum_some xs _ (by omega) (by omega)]
 simp [putRaw]
theorem text_bytes (w : World) (s : List UInt8) : ∃ w1 cap, (convert 9 26 (.string ⟨s.toArray⟩)).run Tryz.prog w = .ok (.slice (some ⟨w.heap.size, 0, none⟩) s.length cap) w1 ∧ Below w.heap.size w w1 ∧ w1.heap.size = w.heap.size + 1 ∧ BL w1 (some ⟨w.heap.size, 0, none⟩) (s.map UInt8.toNat) ∧ s.length ≤ cap ∧ (s.length ≤ 1000000 → cap ≤ 9223372036854775807) := by
 have hss : (⟨s.toArray⟩ : ByteArray).size = s.length := by simp [ByteArray.size]
 have hcv := Lib.run_convert_string_bytes (P := Tryz.prog) w 9 26 5 ⟨s.toArray⟩ Tryz.underlying9 Tryz.underlying26 Tryz.underlying5
 have hsz := Lib.bytesWorld_size w 5 ⟨s.toArray⟩
 have hcell := Lib.bytesWorld_cell w 5 ⟨s.toArray⟩
 rw [hss] at hcv hcell
 refine ⟨_, _, hcv, ⟨rfl, rfl, rfl, by omega, Lib.bytesWorld_at_old w 5 ⟨s.toArray⟩⟩, hsz, ?_, ?_, ?_⟩
 ·refine BL.mk (fun b hb => ?_) (.inr ⟨_, _, rfl, fun i hi => ?_⟩)
  ·obtain ⟨c, _, rfl⟩ := List.mem_map.1 hb
   exact c.toNat_lt
  ·rw [List.length_map] at hi
   rw [Nat.zero_add, hcell i hi]
   simp [List.getD_eq_getElem?_getD, hi]
 ·exact grownCap_ge _ _ _ _
 ·intro h
  exact grownCap_le_maxLen _ _ _ _ (by unfold maxLen; omega)
end Go.Proofs.YtpmldopbjlnknaaGreat
