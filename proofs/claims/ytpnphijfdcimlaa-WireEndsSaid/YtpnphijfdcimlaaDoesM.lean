/-
  The program's writer and the reference's beside each other.
-/
import Derived.Test.YtpnphijfdcimlaaBackM
import Derived.Test.YtpnphijfdcimlaaApartB
import Derived.Test.YtpnphijfdcimlaaLent
namespace Go.Proofs.Ytpnphijfdcimlaa
open Go.RowKit

/-- All things put. -/
def putAllT (T : Nat → Thg) : Nat → Option (List Nat)
  | 0 => some []
  | k + 1 => putThg (putAllT T k) (T k)
theorem putAllT_sz (T : Nat → Thg) : ∀ k, szO (putAllT T k) ≤ 6 * k + 6 * bulk T k
  | 0 => by simp [putAllT, szO]
  | k + 1 => by
    have h1 := putAllT_sz T k
    have h2 := putThg_sz (putAllT T k) (T k)
    have e : bulk T (k + 1) = bulk T k + ((T k).B.length + (T k).lR) := rfl
    have e2 : putAllT T (k + 1) = putThg (putAllT T k) (T k) := rfl
    rw [e2, e]
    omega

/-- Two writers, in blocks of their own. -/
def Duo (B : Nat) (pv : Value) (p : Nat) (S S' : Option (List Nat)) (N : Nat) (w : World) : Prop :=
  ∃ G H : Nat → Prop, WP w pv G S ∧ RW w p H S' N ∧ (∀ x, G x → ¬ H x) ∧ (∀ x, G x → B ≤ x ∧ x < w.heap.size) ∧ (∀ x, H x → B ≤ x ∧ x < w.heap.size)
section
variable {B p N M : Nat} {pv : Value} {S S' S2 : Option (List Nat)} {w w' : World}
/-- What turns neither leaves both. -/
theorem Duo.kept {F : Nat → Prop} (h : Duo B pv p S S' N w) (hk : Kept F w w') (hF : ∀ x, F x → x < B ∨ w.heap.size ≤ x) : Duo B pv p S S' N w' := by
  obtain ⟨G, H, h1, h2, h3, h4, h5⟩ := h
  have hs := hk.size
  exact ⟨G, H, h1.kept hk (fun x hx hf => by have := h4 x hx; have := hF x hf; omega), h2.kept hk (fun x hx hf => by have := h5 x hx; have := hF x hf; omega), h3, fun x hx => by have := h4 x hx; omega, fun x hx => by have := h5 x hx; omega⟩
theorem Duo.below (h : Duo B pv p S S' N w) (hb : Below w.heap.size w w') : Duo B pv p S S' N w' := h.kept (Kept.of_below (F := fun _ => False) hb) (fun _ h => h.elim)
/-- The program's writer has gone on. -/
theorem Duo.pstep {G H : Nat → Prop} (h2 : RW w p H S' N) (h3 : ∀ x, G x → ¬ H x) (h4 : ∀ x, G x → B ≤ x ∧ x < w.heap.size) (h5 : ∀ x, H x → B ≤ x ∧ x < w.heap.size) (hB : B ≤ w.heap.size) (hw : WP w' pv (Fnew G w w') S2) (hk : Kept G w w') : Duo B pv p S2 S' N w' := by
  have hs := hk.size
  refine ⟨Fnew G w w', H, hw, h2.kept hk (fun x hx hg => h3 x hg hx), fun x hx hh => ?_, fun x hx => ?_, fun x hx => by have := h5 x hx; omega⟩
  · rcases hx with hx | hx
    · exact h3 x hx hh
    · have := h5 x hh; omega
  · rcases hx with hx | hx
    · have := h4 x hx; omega
    · omega
/-- The reference's writer has gone on. -/
theorem Duo.rstep {G H : Nat → Prop} (h1 : WP w pv G S) (h3 : ∀ x, G x → ¬ H x) (h4 : ∀ x, G x → B ≤ x ∧ x < w.heap.size) (h5 : ∀ x, H x → B ≤ x ∧ x < w.heap.size) (hB : B ≤ w.heap.size) (hw : RW w' p (Fnew H w w') S2 M) (hk : Kept H w w') (hMN : M ≤ N) : Duo B pv p S S2 N w' := by
  have hs := hk.size
  refine ⟨G, Fnew H w w', h1.kept hk (fun x hx hg => h3 x hx hg), hw.mono (fun _ h => h) hMN, fun x hx hh => ?_, fun x hx => by have := h4 x hx; omega, fun x hx => ?_⟩
  · rcases hh with hh | hh
    · exact h3 x hx hh
    · have := h4 x hx; omega
  · rcases hx with hx | hx
    · have := h5 x hx; omega
    · omega
theorem Duo.size (h : Duo B pv p S S' N w) : B ≤ w.heap.size := by
  obtain ⟨G, H, h1, h2, h3, h4, h5⟩ := h
  have := h5 p h2.1
  omega
end
theorem Blk.kept {F : Nat → Prop} {w w' : World} {g len : Nat} {z : Nat → Nat} (h : Blk w g len z) (hk : Kept F w w') (hg : ¬ F g) : Blk w' g len z := by
  obtain ⟨hz, cur, h1, h2⟩ := h
  exact ⟨hz, cur, hk.heap h1 hg, h2⟩
/-- A lent text reads as the text. -/
theorem lent_bl {w : World} {g : Nat} {L : List Nat} (hL : ∀ b ∈ L, b < 256) (h : Blk w g (L.length + 12) (lent (fun i => L.getD i 0) L.length)) : BL w (some ⟨g, 0, none⟩) L := by
  refine BL.mk hL (.inr ⟨g, 0, rfl, fun i hi => ?_⟩)
  rw [Nat.zero_add, h.cell (by omega)]
  unfold lent
  rw [if_pos hi]

/-- What the one gets the other gets: the four kinds. -/
theorem duo_num (B : Nat) (pv : Value) (p : Nat) (S S' : Option (List Nat)) (N : Nat) (x : Int) (w : World) (h : Duo B pv p S S' N w) (hsz : szO S + 6 ≤ 140737488355328) (g : Nat) (hg : g = w.heap.size) :
    Calls Try.prog 10 #[pv, .slice (some ⟨g, 0, none⟩) 1 1] (w.alloc (.cells #[.int .i64 x] 3)) fun e w' => e = .returned (.tuple #[]) ∧ Duo B pv p (putNum S x) S' N w' ∧ Below B w w' := by
  have hB := h.size
  obtain ⟨G, H, h1, h2, h3, h4, h5⟩ := h
  exact (number_one pv G S x w h1 (fun k hk => (h4 k hk).2) hsz g hg).mono fun e w' ⟨he, hw, hk⟩ => ⟨he, Duo.pstep h2 h3 h4 h5 hB hw hk, hk.below (fun k hk => (h4 k hk).1) hB⟩
theorem duo_refnum (B : Nat) (pv : Value) (p : Nat) (S S' : Option (List Nat)) (N : Nat) (x : Int) (w : World) (h : Duo B pv p S S' N w) (hx : (Lit.int .i64 x).wf = true) (hN : N + 6 ≤ 140737488355328) :
    Calls Try.prog 28 #[.pointer (some ⟨p, 0, none⟩), .int .i64 x] w fun e w' => e = .returned (.tuple #[]) ∧ Duo B pv p S (putNum S' x) (N + 6) w' ∧ Below B w w' := by
  have hB := h.size
  obtain ⟨G, H, h1, h2, h3, h4, h5⟩ := h
  exact (refNumber_any p H S' N x w h2 (fun k hk => (h5 k hk).2) hx hN).mono fun e w' ⟨he, hw, hk⟩ => ⟨he, Duo.rstep h1 h3 h4 h5 hB hw hk (Nat.le_refl _), hk.below (fun k hk => (h5 k hk).1) hB⟩
theorem duo_fix (B : Nat) (pv : Value) (p : Nat) (S S' : Option (List Nat)) (N : Nat) (n : Nat) (w : World) (h : Duo B pv p S S' N w) (hn : n < 4294967296) (hsz : szO S + 4 ≤ 140737488355328) :
    Calls Try.prog 11 #[pv, .int .u32 n] w fun e w' => e = .returned (.tuple #[]) ∧ Duo B pv p (putRaw S (fixB n)) S' N w' ∧ Below B w w' := by
  have hB := h.size
  obtain ⟨G, H, h1, h2, h3, h4, h5⟩ := h
  exact (fixed_wp pv G S n w hn h1 (fun k hk => (h4 k hk).2) hsz).mono fun e w' ⟨he, hw, hk⟩ => ⟨he, Duo.pstep h2 h3 h4 h5 hB hw hk, hk.below (fun k hk => (h4 k hk).1) hB⟩
theorem duo_reffix (B : Nat) (pv : Value) (p : Nat) (S S' : Option (List Nat)) (N : Nat) (n : Nat) (w : World) (h : Duo B pv p S S' N w) (hn : n < 4294967296) (hN : N + 6 ≤ 140737488355328) :
    Calls Try.prog 29 #[.pointer (some ⟨p, 0, none⟩), .int .u32 n] w fun e w' => e = .returned (.tuple #[]) ∧ Duo B pv p S (putRaw S' (fixB n)) (N + 4) w' ∧ Below B w w' := by
  have hB := h.size
  obtain ⟨G, H, h1, h2, h3, h4, h5⟩ := h
  exact (refFixed_any p H S' N n w h2 (fun k hk => (h5 k hk).2) hn hN).mono fun e w' ⟨he, hw, hk⟩ => ⟨he, Duo.rstep h1 h3 h4 h5 hB hw hk (Nat.le_refl _), hk.below (fun k hk => (h5 k hk).1) hB⟩
theorem duo_rise (B : Nat) (pv : Value) (p : Nat) (S S' : Option (List Nat)) (N : Nat) (a : Option Addr) (n cap : Nat) (f : Nat → Int) (w : World) (h : Duo B pv p S S' N w) (had : ∀ g off s, a = some ⟨g, off, s⟩ → 0 < n → g < B) (hn : n ≤ 9223372036854775807) (hsz : szO S + 6 + 6 * n ≤ 140737488355328) (hf : ∀ i, (Lit.int .i64 (f i)).wf = true) (hb : Ints w a n f) :
    Calls Try.prog 13 #[pv, .slice a n cap] w fun e w' => e = .returned (.tuple #[]) ∧ Duo B pv p (putRising S f n) S' N w' ∧ Below B w w' := by
  have hB := h.size
  obtain ⟨G, H, h1, h2, h3, h4, h5⟩ := h
  exact (rising_wp pv G S a n cap f w h1 (fun k hk => (h4 k hk).2) (fun g off s e h0 hg => by have := had g off s e h0; have := h4 g hg; omega) hn hsz hf hb).mono fun e w' ⟨he, hw, hk⟩ => ⟨he, Duo.pstep h2 h3 h4 h5 hB hw hk, hk.below (fun k hk => (h4 k hk).1) hB⟩
theorem duo_refrise (B : Nat) (pv : Value) (p : Nat) (S S' : Option (List Nat)) (N : Nat) (a : Option Addr) (n cap : Nat) (f : Nat → Int) (w : World) (h : Duo B pv p S S' N w) (had : ∀ g off s, a = some ⟨g, off, s⟩ → 0 < n → g < B) (hN : N + 6 + 6 * n ≤ 140737488355328) (hf : ∀ i, (Lit.int .i64 (f i)).wf = true) (hb : Ints w a n f) :
    Calls Try.prog 33 #[.pointer (some ⟨p, 0, none⟩), .slice a n cap] w fun e w' => e = .returned (.tuple #[]) ∧ Duo B pv p S (putRising S' f n) (N + 6 + 6 * n) w' ∧ Below B w w' := by
  have hB := h.size
  obtain ⟨G, H, h1, h2, h3, h4, h5⟩ := h
  exact (refRising_any p H S' N a n cap f w h2 (fun k hk => (h5 k hk).2) (fun g off s e h0 hg => by have := had g off s e h0; have := h5 g hg; omega) hf hN hb).mono fun e w' ⟨he, hw, hk⟩ => ⟨he, Duo.rstep h1 h3 h4 h5 hB hw hk (Nat.le_refl _), hk.below (fun k hk => (h5 k hk).1) hB⟩
/-- Two writers, and a block g that is neither's. -/
def DuoX (B : Nat) (pv : Value) (p : Nat) (S S' : Option (List Nat)) (N g : Nat) (w : World) : Prop :=
  g < w.heap.size ∧ ∃ G H : Nat → Prop, WP w pv G S ∧ RW w p H S' N ∧ (∀ x, G x → ¬ H x) ∧ (∀ x, G x → B ≤ x ∧ x < w.heap.size ∧ x ≠ g) ∧ (∀ x, H x → B ≤ x ∧ x < w.heap.size ∧ x ≠ g)
theorem DuoX.of {B p N g : Nat} {pv : Value} {S S' : Option (List Nat)} {w w' : World} (h : Duo B pv p S S' N w) (hb : Below w.heap.size w w') (hg : w.heap.size ≤ g) (hg' : g < w'.heap.size) : DuoX B pv p S S' N g w' := by
  obtain ⟨G, H, h1, h2, h3, h4, h5⟩ := h
  have hs := hb.size
  have hk : Kept (fun _ => False) w w' := Kept.of_below hb
  exact ⟨hg', G, H, h1.kept hk (fun _ _ h => h), h2.kept hk (fun _ _ h => h), h3, fun x hx => by have := h4 x hx; omega, fun x hx => by have := h5 x hx; omega⟩
theorem DuoX.duo {B p N g : Nat} {pv : Value} {S S' : Option (List Nat)} {w : World} (h : DuoX B pv p S S' N g w) : Duo B pv p S S' N w := by
  obtain ⟨_, G, H, h1, h2, h3, h4, h5⟩ := h
  exact ⟨G, H, h1, h2, h3, fun x hx => by have := h4 x hx; omega, fun x hx => by have := h5 x hx; omega⟩
theorem duo_text (B : Nat) (pv : Value) (p : Nat) (S S' : Option (List Nat)) (N g cap q : Nat) (L : List Nat) (w : World) (h : DuoX B pv p S S' N g w) (hq : q = w.heap.size) (hcap : L.length ≤ cap) (hcm : cap ≤ 9223372036854775807) (hsz : szO S + 6 + L.length ≤ 140737488355328) (hb : BL w (some ⟨g, 0, none⟩) L) :
    Calls Try.prog 12 #[pv, .slice (some ⟨q, 0, none⟩) 1 1] (w.alloc (.cells #[.slice (some ⟨g, 0, none⟩) L.length cap] 25)) fun e w' => e = .returned (.tuple #[]) ∧ DuoX B pv p (putText S L) S' N g w' ∧ (∀ len z, Blk w g len z → Blk w' g len z) ∧ Below B w w' := by
  subst hq
  have hB := h.duo.size
  obtain ⟨hg, G, H, h1, h2, h3, h4, h5⟩ := h
  have hab : Kept (fun _ => False) w (w.alloc (.cells #[.slice (some ⟨g, 0, none⟩) L.length cap] 25)) := Kept.of_below (below_alloc w _)
  have hs1 : (w.alloc (.cells #[.slice (some ⟨g, 0, none⟩) L.length cap] 25)).heap.size = w.heap.size + 1 := by simp
  refine (text_wp pv G S (some ⟨w.heap.size, 0, none⟩) 1 1 (fun _ => some ⟨g, 0, none⟩) (fun _ => L.length) (fun _ => cap) (fun _ => L) _ (h1.kept hab (fun _ _ h => h)) (fun k hk => by have := h4 k hk; omega) (fun g' off s e _ hg' => by cases e; have := h4 _ hg'; omega)
    (fun j hj g' off s e _ => by cases e; exact ⟨fun hh => (h4 g hh).2.2 rfl, by omega⟩) (by omega) (by simp [sumL]; omega)
    (.inr ⟨w.heap.size, 0, rfl, fun j hj => ⟨by
      have : j = 0 := by omega
      subst this
      rw [Nat.zero_add]
      exact (cell_new_l w _ _).1, hcap, hcm, (fun e => by cases e), rfl, hb.kept hab (fun _ _ _ _ h => h)⟩⟩)).mono fun e w' ⟨he, hw, hk⟩ => ?_
  have hs2 := hk.size
  have hkk : Kept G w w' := (hab.mono (fun _ _ h => h.elim)).trans hk (fun _ _ h => h)
  refine ⟨he, ⟨by omega, Fnew G (w.alloc (.cells #[.slice (some ⟨g, 0, none⟩) L.length cap] 25)) w', H, hw, h2.kept hkk (fun x hx hg => h3 x hg hx), fun x hx hh => ?_, fun x hx => ?_, fun x hx => by have := h5 x hx; omega⟩, fun len z hz => hz.kept hkk (fun hh => (h4 g hh).2.2 rfl), hkk.below (fun k hk => (h4 k hk).1) hB⟩
  · rcases hx with hx | hx
    · exact h3 x hx hh
    · have := h5 x hh; omega
  · rcases hx with hx | hx
    · have := h4 x hx; omega
    · omega
theorem duo_reftext (B : Nat) (pv : Value) (p : Nat) (S S' : Option (List Nat)) (N g : Nat) (a : Option Addr) (cap : Nat) (L : List Nat) (w : World) (h : DuoX B pv p S S' N g w) (had : ∀ g off s, a = some ⟨g, off, s⟩ → 0 < L.length → g < B) (hlc : L.length ≤ cap) (hn : a = none → cap = 0) (hN : N + 6 + L.length ≤ 140737488355328) (hb : BL w a L) :
    Calls Try.prog 31 #[.pointer (some ⟨p, 0, none⟩), .slice a L.length cap] w fun e w' => e = .returned (.tuple #[]) ∧ DuoX B pv p S (putText S' L) (N + 6 + L.length) g w' ∧ (∀ len z, Blk w g len z → Blk w' g len z) ∧ Below B w w' := by
  have hB := h.duo.size
  obtain ⟨hg, G, H, h1, h2, h3, h4, h5⟩ := h
  refine (refText_any p H S' N a L.length cap L w h2 (fun k hk => (h5 k hk).2.1) rfl hlc hn (fun g off s e h0 => by have := had g off s e h0; exact ⟨fun hh => by have := h5 g hh; omega, by omega⟩) hN hb).mono fun e w' ⟨he, hw, hk⟩ => ?_
  have hs2 := hk.size
  refine ⟨he, ⟨by omega, G, Fnew H w w', h1.kept hk (fun x hx hg => h3 x hx hg), hw, fun x hx hh => ?_, fun x hx => by have := h4 x hx; omega, fun x hx => ?_⟩, fun len z hz => hz.kept hk (fun hh => (h5 g hh).2.2 rfl), hk.below (fun k hk => (h5 k hk).1) hB⟩
  · rcases hh with hh | hh
    · exact h3 x hx hh
    · have := h4 x hx; omega
  · rcases hx with hx | hx
    · have := h5 x hx; omega
    · omega
/-- What the two have. -/
theorem duo_bytes (B : Nat) (pv : Value) (p : Nat) (S S' : Option (List Nat)) (N : Nat) (w : World) (h : Duo B pv p S S' N w) (hsz : szO S ≤ 140737488355328) :
    Calls Try.prog 14 #[pv] w fun e w' => ∃ v, e = .returned v ∧ w'.ownsRow w.heap.size 5 1 v (szO S) (lc (hasO S)) ∧ Below w.heap.size w w' ∧ Duo B pv p S S' N w' ∧ byO S := by
  have h' := h
  obtain ⟨G, H, h1, h2, h3, h4, h5⟩ := h
  exact (bytes_wp pv G S w h1 hsz).mono fun e w' ⟨v, he, ho, hb⟩ => ⟨v, he, ho, hb, h'.below hb, h1.by⟩
theorem duo_refbytes (B : Nat) (pv : Value) (p : Nat) (S S' : Option (List Nat)) (N : Nat) (w : World) (h : Duo B pv p S S' N w) (hN : N ≤ 140737488355328) :
    Calls Try.prog 34 #[.pointer (some ⟨p, 0, none⟩)] w fun e w' => ∃ v, e = .returned v ∧ w'.ownsRow w.heap.size 5 1 v (szO S') (lc (hasO S')) ∧ Below w.heap.size w w' ∧ Duo B pv p S S' N w' := by
  have h' := h
  obtain ⟨G, H, h1, h2, h3, h4, h5⟩ := h
  exact (refBytes_any p H S' N w h2 hN).mono fun e w' ⟨v, he, ho, hb⟩ => ⟨v, he, ho, hb, h'.below hb⟩
theorem hasO_by (S : Option (List Nat)) (h : byO S) : ∀ b ∈ hasO S, b < 256 := by
  cases S with
  | none => intro b hb; cases hb
  | some xs => exact h
/-- The two, just made. -/
theorem Duo.fresh (w : World) (p q : Nat) (hp : p = w.heap.size) (hq : q = w.heap.size + 1) : Duo w.heap.size (.pointer (some ⟨p, 0, none⟩)) q (some []) (some []) 0 ((w.alloc (.cells #[.pointer none, .int .i64 0, .bool false] 47)).alloc (.cells #[.slice none 0 0, .bool false] 57)) := by
  subst hp hq
  have h1 := Wr.fresh w w.heap.size rfl
  refine ⟨fun k => k = w.heap.size, fun k => k = w.heap.size + 1, h1.kept (Kept.of_below (F := fun _ => False) (below_alloc _ _)) (fun _ _ h => h), ⟨rfl, none, 0, [], ?_, World.ownsRow_nil _ _ _ _, by simp, (fun g hg => by cases hg), by simp, fun xs e => by cases e; rfl⟩, fun x hx h => by omega, fun x hx => by simp; omega, fun x hx => by simp; omega⟩
  have h2 := heap_alloc_new (w.alloc (.cells #[.pointer none, .int .i64 0, .bool false] 47)) (.cells #[.slice none 0 0, .bool false] 57)
  rw [World.size_alloc] at h2
  exact h2
end Go.Proofs.Ytpnphijfdcimlaa
