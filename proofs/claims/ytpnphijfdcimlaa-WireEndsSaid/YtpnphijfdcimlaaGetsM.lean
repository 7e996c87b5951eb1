/-
  The program's reader and the reference's, side by side over the same bytes: what the one gets the other gets.
-/
import Derived.Test.YtpnphijfdcimlaaBackM
import Derived.Test.YtpnphijfdcimlaaLent
import Derived.Test.YtpnphijfdcimlaaDoesM
namespace Go.Proofs.Ytpnphijfdcimlaa
open Go.RowKit

theorem owns_intsB {w : World} {B n : Nat} {v : Value} {L : List Int} (h : w.ownsRow B 3 1 v n (li L)) : n = L.length ∧ ∃ a cap, v = .slice a n cap ∧ Ints w a n (fun i => L.getD i 0) ∧ n ≤ 9223372036854775807 ∧ ∀ g o s, a = some ⟨g, o, s⟩ → B ≤ g := by
  obtain ⟨hn, a, cap, hv, hc1, hc2, hi⟩ := owns_ints h
  refine ⟨hn, a, cap, hv, hi, by omega, fun g o s e => ?_⟩
  obtain ⟨_, ⟨hv2, h0⟩ | ⟨g', cap', cur, hv2, hB, hg, hx⟩⟩ := h
  · rw [hv] at hv2; cases hv2; cases e
  · rw [hv] at hv2; cases hv2; cases e; exact hB

theorem getText_lt (most : Int) (S : Option (List Nat)) (h : byO S) : ∀ x ∈ (getText most S).1, x < 256 := by
  cases S with
  | none => intro x hx; simp [getText, getNum] at hx
  | some L =>
    have hL : ∀ b ∈ L, b < 256 := h
    rw [getText_of]
    cases hp : pN 6 0 L with
    | none => rw [getNum_none_eq hp]; intro x hx; simp [textOf] at hx
    | some vk =>
      obtain ⟨v, k⟩ := vk
      rw [getNum_some_eq hp]
      split
      · intro x hx
        simp only [textOf] at hx
        split at hx
        · simp at hx
        · exact hL x (List.mem_of_mem_drop (List.mem_of_mem_take hx))
      · intro x hx; simp [textOf] at hx

/-- Both readers, over the bytes L at A (the reference's), lent at g (the program's): what each has left. -/
def Two (B : Nat) (pv : Value) (p : Nat) (A : Option Addr) (C : Nat) (L : List Nat) (g : Nat) (S T : Option (List Nat)) (w : World) : Prop :=
  ∃ G : Nat → Prop, RP w pv G S ∧ RR w p A C L T ∧ Blk w g (L.length + 12) (lent (fun i => L.getD i 0) L.length) ∧ (∀ k, G k → B ≤ k ∧ k < w.heap.size ∧ k ≠ p ∧ k ≠ g) ∧
    B ≤ p ∧ p < w.heap.size ∧ B ≤ g ∧ g ≠ p ∧ (∀ h o s, A = some ⟨h, o, s⟩ → 0 < L.length → h < B) ∧ B ≤ w.heap.size
theorem Two.p {B p C g : Nat} {pv : Value} {A : Option Addr} {L : List Nat} {S S' T : Option (List Nat)} {w w' : World} {G : Nat → Prop} (h1 : RP w pv G S) (h2 : RR w p A C L T) (h3 : Blk w g (L.length + 12) (lent (fun i => L.getD i 0) L.length))
    (h4 : ∀ k, G k → B ≤ k ∧ k < w.heap.size ∧ k ≠ p ∧ k ≠ g) (h5 : B ≤ p) (h6 : p < w.heap.size) (h7 : B ≤ g) (h8 : g ≠ p) (h9 : ∀ h o s, A = some ⟨h, o, s⟩ → 0 < L.length → h < B) (h10 : B ≤ w.heap.size)
    (hw : RP w' pv G S') (hk : Kept (own1 pv) w w') : Two B pv p A C L g S' T w' ∧ Below B w w' := by
  have ho : ∀ k, own1 pv k → B ≤ k ∧ k ≠ p ∧ k ≠ g := fun k hk => by have := h4 k (h1.own k hk); exact ⟨this.1, this.2.2.1, this.2.2.2⟩
  refine ⟨⟨G, hw, h2.kept2 hk (fun h => (ho p h).2.1 rfl) (fun g' o s e h0 h => ?_), h3.kept hk (fun h => (ho g h).2.2 rfl), fun k hk' => ?_, h5, by have := hk.size; omega, h7, h8, h9, by have := hk.size; omega⟩, hk.below (fun k hk => (ho k hk).1) h10⟩
  · have := h9 g' o s e h0; have := (ho g' h).1; omega
  · have h' := h4 k hk'; have := hk.size; exact ⟨h'.1, by omega, h'.2.2.1, h'.2.2.2⟩
theorem Two.r {B p C g : Nat} {pv : Value} {A : Option Addr} {L : List Nat} {S T T' : Option (List Nat)} {w w' : World} (h : Two B pv p A C L g S T w) (hw : RR w' p A C L T') (hk : Kept (fun k => k = p) w w') : Two B pv p A C L g S T' w' ∧ Below B w w' := by
  obtain ⟨G, h1, h2, h3, h4, h5, h6, h7, h8, h9, h10⟩ := h
  have hs := hk.size
  refine ⟨⟨G, h1.kept hk (fun k hG e => (h4 k hG).2.2.1 e), hw, h3.kept hk h8, fun k hG => ?_, h5, by omega, h7, h8, h9, by omega⟩, hk.below (fun k hk => by subst hk; exact h5) h10⟩
  have := h4 k hG; exact ⟨this.1, by omega, this.2.2.1, this.2.2.2⟩
theorem Two.below {B p C g : Nat} {pv : Value} {A : Option Addr} {L : List Nat} {S T : Option (List Nat)} {w w' : World} (h : Two B pv p A C L g S T w) (hb : Below w.heap.size w w') : Two B pv p A C L g S T w' := by
  obtain ⟨G, h1, h2, h3, h4, h5, h6, h7, h8, h9, h10⟩ := h
  have hk : Kept (fun _ => False) w w' := Kept.of_below hb
  have hs := hb.size
  refine ⟨G, h1.kept hk (fun _ _ h => h), h2.kept2 hk (fun h => h) (fun _ _ _ _ _ h => h), h3.kept hk (fun h => h), fun k hG => ?_, h5, by omega, h7, h8, h9, by omega⟩
  have := h4 k hG; exact ⟨this.1, by omega, this.2.2.1, this.2.2.2⟩
theorem RR.sz {w : World} {p C : Nat} {A : Option Addr} {L : List Nat} {S : Option (List Nat)} (h : RR w p A C L S) : szO S ≤ L.length := by
  obtain ⟨a, h1, _, _, _, _, _, _, _, h9⟩ := h
  cases S with
  | none => simp [szO]
  | some M => rw [h9 M rfl]; simp [szO]
theorem RR.by {w : World} {p C : Nat} {A : Option Addr} {L : List Nat} {S : Option (List Nat)} (h : RR w p A C L S) : byO S := by
  obtain ⟨a, h1, _, _, hb, _, _, _, _, h9⟩ := h
  cases S with
  | none => trivial
  | some M => rw [h9 M rfl]; exact fun b hb' => hb.lt b (List.mem_of_mem_drop hb')
theorem Two.flag {B p C g : Nat} {pv : Value} {A : Option Addr} {L : List Nat} {S T : Option (List Nat)} {w : World} (h : Two B pv p A C L g S T w) : w.cell? ⟨p, 2, none⟩ = some (.bool T.isNone) ∧ w.frozen? ⟨p, 2, none⟩ = false := by
  obtain ⟨G, h1, h2, _⟩ := h; exact h2.flag
theorem Two.plt {B p C g : Nat} {pv : Value} {A : Option Addr} {L : List Nat} {S T : Option (List Nat)} {w : World} (h : Two B pv p A C L g S T w) : p < w.heap.size := by
  obtain ⟨G, h1, h2, h3, h4, h5, h6, _⟩ := h; exact h6
theorem Two.drewN {B p C g : Nat} {pv : Value} {A : Option Addr} {L : List Nat} {S T : Option (List Nat)} {w : World} (h : Two B pv p A C L g S T w) (m : Nat) : Two B pv p A C L g S T (w.drewN m) := h.below (below_drewN (Below.refl _ _) m)
theorem Two.blk {B p C g : Nat} {pv : Value} {A : Option Addr} {L : List Nat} {S T : Option (List Nat)} {w : World} (h : Two B pv p A C L g S T w) : Blk w g (L.length + 12) (lent (fun i => L.getD i 0) L.length) := by
  obtain ⟨G, h1, h2, h3, _⟩ := h; exact h3

/-- What an owned row of bytes is to who reads it alone. -/
def GotB (w0 : World) (X : List Nat) (v : Value) (w : World) : Prop := ∃ a c, v = .slice a X.length c ∧ BL w a X ∧ X.length ≤ 9223372036854775807 ∧ ∀ g o s, a = some ⟨g, o, s⟩ → w0.heap.size ≤ g
def GotI (w0 : World) (X : List Int) (v : Value) (w : World) : Prop := ∃ a c, v = .slice a X.length c ∧ Ints w a X.length (fun i => X.getD i 0) ∧ X.length ≤ 9223372036854775807 ∧ ∀ g o s, a = some ⟨g, o, s⟩ → w0.heap.size ≤ g

variable (B : Nat) (pv : Value) (p : Nat) (A : Option Addr) (C : Nat) (L : List Nat) (g : Nat) (S T : Option (List Nat)) (most many : Int) (w : World)
theorem two_num (h : Two B pv p A C L g S S w) (hm : (Lit.int .i64 most).wf = true) (hL : L.length ≤ 900000) :
    Calls Try.prog 15 #[pv, .int .i64 most] w fun e w' => e = .returned (.int .i64 ((getNum most S).1 : Nat)) ∧ Two B pv p A C L g (getNum most S).2 S w' ∧ Below B w w' := by
  obtain ⟨G, h1, h2, h3, h4, h5, h6, h7, h8, h9, h10⟩ := h
  have hz := h2.sz
  exact (rdNumber_any pv G S most w h1 (fun k hk => (h4 k hk).2.1) hm (by omega)).mono fun e w' ⟨he, hw, hk⟩ => ⟨he, Two.p h1 h2 h3 h4 h5 h6 h7 h8 h9 h10 hw hk⟩
theorem two_refnum (h : Two B pv p A C L g S T w) (hm : (Lit.int .i64 most).wf = true) :
    Calls Try.prog 36 #[.pointer (some ⟨p, 0, none⟩), .int .i64 most] w fun e w' => e = .returned (.int .i64 ((getNum most T).1 : Nat)) ∧ Two B pv p A C L g S (getNum most T).2 w' ∧ Below B w w' := by
  have h0 := h
  obtain ⟨G, h1, h2, _⟩ := h0
  exact (refNum_any p A C L T most w h2 hm).mono fun e w' ⟨he, hw, hk⟩ => ⟨he, h.r hw hk⟩
theorem two_fix (h : Two B pv p A C L g S S w) :
    Calls Try.prog 16 #[pv] w fun e w' => e = .returned (.int .u32 ((getFix S).1 : Nat)) ∧ Two B pv p A C L g (getFix S).2 S w' ∧ Below B w w' := by
  obtain ⟨G, h1, h2, h3, h4, h5, h6, h7, h8, h9, h10⟩ := h
  exact (rdFixed_any pv G S w h1).mono fun e w' ⟨he, hw, hk⟩ => ⟨he, Two.p h1 h2 h3 h4 h5 h6 h7 h8 h9 h10 hw hk⟩
theorem two_reffix (h : Two B pv p A C L g S T w) :
    Calls Try.prog 37 #[.pointer (some ⟨p, 0, none⟩)] w fun e w' => e = .returned (.int .u32 ((getFix T).1 : Nat)) ∧ Two B pv p A C L g S (getFix T).2 w' ∧ Below B w w' := by
  have h0 := h
  obtain ⟨G, h1, h2, _⟩ := h0
  exact (refFix_any p A C L T w h2).mono fun e w' ⟨he, hw, hk⟩ => ⟨he, h.r hw hk⟩
theorem two_text (h : Two B pv p A C L g S S w) (hm : (Lit.int .i64 most).wf = true) (hL : L.length ≤ 900000) :
    Calls Try.prog 17 #[pv, .int .i64 most] w fun e w' => ∃ v, e = .returned v ∧ GotB w (getText most S).1 v w' ∧ Two B pv p A C L g (getText most S).2 S w' ∧ Below B w w' := by
  obtain ⟨G, h1, h2, h3, h4, h5, h6, h7, h8, h9, h10⟩ := h
  have hz := h2.sz
  refine (rdText_any pv G S most w h1 (fun k hk => (h4 k hk).2.1) hm (by omega)).mono fun e w' ⟨v, he, ho, hw, hk⟩ => ⟨v, he, ?_, Two.p h1 h2 h3 h4 h5 h6 h7 h8 h9 h10 hw hk⟩
  obtain ⟨_, a, c, hv, hc1, hc2, _, _, hbl, hf⟩ := owns_bl ho (getText_lt most S h2.by)
  exact ⟨a, c, hv, hbl, by omega, fun g o s e => (hf g o s e).2.2.1⟩
theorem two_reftext (h : Two B pv p A C L g S T w) (hm : (Lit.int .i64 most).wf = true) (hL : L.length ≤ 900000) :
    Calls Try.prog 38 #[.pointer (some ⟨p, 0, none⟩), .int .i64 most] w fun e w' => ∃ v, e = .returned v ∧ GotB w (getText most T).1 v w' ∧ Kept (fun k => k = p) w w' ∧ Two B pv p A C L g S (getText most T).2 w' ∧ Below B w w' := by
  have h0 := h
  obtain ⟨G, h1, h2, _⟩ := h0
  refine (rrText_any p A C L T most w h2 hm (by omega)).mono fun e w' ⟨v, he, ho, hw, hk⟩ => ⟨v, he, ?_, hk, h.r hw hk⟩
  obtain ⟨_, a, c, hv, hc1, hc2, _, _, hbl, hf⟩ := owns_bl ho (getText_lt most T h2.by)
  exact ⟨a, c, hv, hbl, by omega, fun g o s e => (hf g o s e).2.2.1⟩
theorem two_rise (h : Two B pv p A C L g S S w) (hm : (Lit.int .i64 many).wf = true) (hm2 : (Lit.int .i64 most).wf = true) (hL : L.length ≤ 900000) :
    Calls Try.prog 18 #[pv, .int .i64 many, .int .i64 most] w fun e w' => ∃ v, e = .returned v ∧ GotI w (getRising many most S).1 v w' ∧ Two B pv p A C L g (getRising many most S).2 S w' ∧ Below B w w' := by
  obtain ⟨G, h1, h2, h3, h4, h5, h6, h7, h8, h9, h10⟩ := h
  have hz := h2.sz
  refine (rdRising_any pv G S many most w h1 (fun k hk => (h4 k hk).2.1) hm hm2 (by omega)).mono fun e w' ⟨v, he, ho, hw, hk⟩ => ⟨v, he, ?_, Two.p h1 h2 h3 h4 h5 h6 h7 h8 h9 h10 hw hk⟩
  obtain ⟨_, a, c, hv, hbl, hc1, hf⟩ := owns_intsB ho
  exact ⟨a, c, hv, hbl, hc1, hf⟩
theorem two_refrise (h : Two B pv p A C L g S T w) (hm : (Lit.int .i64 many).wf = true) (hm2 : (Lit.int .i64 most).wf = true) (hL : L.length ≤ 900000) :
    Calls Try.prog 39 #[.pointer (some ⟨p, 0, none⟩), .int .i64 many, .int .i64 most] w fun e w' => ∃ v, e = .returned v ∧ GotI w (getRising many most T).1 v w' ∧ Kept (fun k => k = p) w w' ∧ Two B pv p A C L g S (getRising many most T).2 w' ∧ Below B w w' := by
  have h0 := h
  obtain ⟨G, h1, h2, _⟩ := h0
  refine (rrRising_any p A C L T many most w h2 hm hm2 hL).mono fun e w' ⟨v, he, ho, hw, hk⟩ => ⟨v, he, ?_, hk, h.r hw hk⟩
  obtain ⟨_, a, c, hv, hbl, hc1, hf⟩ := owns_intsB ho
  exact ⟨a, c, hv, hbl, hc1, hf⟩
theorem two_left (h : Two B pv p A C L g S T w) : Calls Try.prog 19 #[pv] w fun e w' => e = .returned (.int .i64 (szO S : Nat)) ∧ w = w' := by
  obtain ⟨G, h1, _⟩ := h; exact left_any pv G S w h1
theorem two_refleft (h : Two B pv p A C L g S T w) : Calls Try.prog 40 #[.pointer (some ⟨p, 0, none⟩)] w fun e w' => e = .returned (.int .i64 (szO T : Nat)) ∧ ∃ m, w' = w.drewN m := by
  obtain ⟨G, h1, h2, _⟩ := h; exact refLeft_any p A C L T w h2
theorem two_ok (h : Two B pv p A C L g S T w) : Calls Try.prog 20 #[pv] w fun e w' => e = .returned (.bool S.isSome) ∧ w = w' := by
  obtain ⟨G, h1, _⟩ := h; exact ok_any pv G S w h1
end Go.Proofs.Ytpnphijfdcimlaa
