/-
  A thing is put, and asked whether it can be.
-/
import Derived.Test.YtpnphijfdcimlaaThings
namespace Go.Proofs.Ytpnphijfdcimlaa
open Go.RowKit

/-- A number as a fixed one. -/
def u32N (x : Int) : Nat := (x % 4294967296).toNat
theorem u32N_lt (x : Int) : u32N x < 4294967296 := by unfold u32N; omega
theorem u32N_int (x : Int) : ((u32N x : Nat) : Int) = x % 4294967296 := by unfold u32N; omega
/-- A thing put. -/
def putThg (S : Option (List Nat)) (T : Thg) : Option (List Nat) :=
  if pickN T.K 4 = 0 then putNum S T.N else if pickN T.K 4 = 1 then putRaw S (fixB (u32N T.N)) else if pickN T.K 4 = 2 then putText S T.B else putRising S T.R T.lR
theorem pick4 (x : Int) (w : World) (hx : (Lit.int .i64 x).wf = true) (κ : Nat) (hκ : pickN x 4 = κ) (c : Int) (hc : (κ : Int) = c) :
    Calls Try.prog 24 #[.int .i64 x, .int .i64 4] w fun e w' => e = .returned (.int .i64 c) ∧ w = w' := by
  have h := pick_any x 4 w hx (by omega) (by omega)
  rw [hκ, hc] at h
  exact h
theorem wp_from {w W0 w' : World} {pv : Value} {F : Nat → Prop} {S : Option (List Nat)} (hab : Kept (fun _ => False) w W0) (h1 : WP w' pv (Fnew F W0 w') S) (h2 : Kept F W0 w') : WP w' pv (Fnew F w w') S ∧ Kept F w w' :=
  ⟨h1.mono (fun k hk => hk.elim .inl (fun h => .inr ⟨by have := hab.size; omega, h.2⟩)), (hab.mono (fun _ _ h => h.elim)).trans h2 (fun _ _ h => h)⟩
theorem putThg_sz (S : Option (List Nat)) (T : Thg) : szO (putThg S T) ≤ szO S + (6 + T.B.length + 6 * T.lR) := by
  unfold putThg
  have h1 := putNum_sz S T.N
  have h2 := putRaw_sz S (fixB (u32N T.N))
  have h3 := putText_sz S T.B
  have h4 := putRising_sz S T.R T.lR
  have h5 : (fixB (u32N T.N)).length = 4 := rfl
  split
  · omega
  · split
    · omega
    · split <;> omega
theorem putThg_by (S : Option (List Nat)) (T : Thg) (h : byO S) (hb : ∀ x ∈ T.B, x < 256) : byO (putThg S T) := by
  unfold putThg
  split
  · exact putNum_by _ _ h
  · split
    · exact putRaw_by _ _ h (fixB_lt _)
    · split
      · exact putText_by _ _ h hb
      · exact putRising_by _ _ _ h

/-- The box of a thing that came by value. -/
theorem boxT_cells (T : Thg) (w : World) (g : Nat) (hg : g = w.heap.size) : (w.alloc (.cells T.vals 31)).cell? ⟨g, 0, none⟩ = some (.int .i64 T.K) ∧ (w.alloc (.cells T.vals 31)).cell? ⟨g, 1, none⟩ = some (.int .i64 T.N) ∧ (w.alloc (.cells T.vals 31)).cell? ⟨g, 3, none⟩ = some (.slice T.pB T.B.length T.cB) ∧
    (w.alloc (.cells T.vals 31)).cell? ⟨g, 4, none⟩ = some (.slice T.pR T.lR T.cR) := by
  subst hg
  refine ⟨?_, ?_, ?_, ?_⟩ <;> (rw [cell_of_row _ _ _ _ _ _ (heap_alloc_new _ _)]; rfl)

set_option maxRecDepth 100000 in
set_option maxHeartbeats 1000000 in
theorem puts_wp (pv : Value) (F : Nat → Prop) (S : Option (List Nat)) (T : Thg) (w : World) (h : WP w pv F S) (hF : ∀ k, F k → k < w.heap.size) (hT : T.Ok w)
    (hB : ∀ g off s, T.pB = some ⟨g, off, s⟩ → 0 < T.B.length → ¬ F g) (hR : ∀ g off s, T.pR = some ⟨g, off, s⟩ → 0 < T.lR → ¬ F g) (hsz : szO S + 12 + T.B.length + 6 * T.lR ≤ 140737488355328) :
    Calls Try.prog 22 #[pv, .agg T.vals] w fun e w' => e = .returned (.tuple #[]) ∧ WP w' pv (Fnew F w w') (putThg S T) ∧ Kept F w w' := by
  have hpk : pickN T.K 4 = 0 ∨ pickN T.K 4 = 1 ∨ pickN T.K 4 = 2 ∨ pickN T.K 4 = 3 := by have := pickN_lt T.K 4 (by omega); omega
  obtain ⟨pa, hpv⟩ := h.form
  have hcel := boxT_cells T w w.heap.size rfl
  obtain ⟨W0, hW0⟩ : ∃ W0, w.alloc (.cells T.vals 31) = W0 := ⟨_, rfl⟩
  rw [hW0] at hcel
  have hs0 : W0.heap.size = w.heap.size + 1 := by rw [← hW0]; simp
  have hab : Kept (fun _ => False) w W0 := by rw [← hW0]; exact Kept.of_below (below_alloc w _)
  have h0 := h.kept hab (fun _ _ h => h)
  have hF0 : ∀ k, F k → k < W0.heap.size := fun k hk => by have := hF k hk; omega
  have hT0 := hT.kept hab (fun _ _ h => h)
  obtain ⟨c0, c1, c3, c4⟩ := hcel
  have HS := hide hs0
  have HT := hide hT
  clear h hs0 hT
  rcases hpk with hk | hk | hk | hk
  · have hpick := fun W => pick4 T.K W HT.out.K 0 hk 0 rfl
    have HP : Hid (putThg S T = putNum S T.N) := by show _ = _; unfold putThg; rw [if_pos hk]
    have hnum := number_one pv F S T.N W0 h0 hF0 (by omega) _ rfl
    subst hpv
    clear hk
    generalize T.K = K at *
    generalize T.N = N at *
    go_enter Try.func22, Try.ntmps22
    go_wp2_with fail
    refine (hpick _).mono ?_
    rintro e w1 ⟨rfl, rfl⟩
    go_wp2_with fail
    refine hnum.mono ?_
    rintro e w1 ⟨rfl, h1, h2⟩
    go_wp2_with fail
    go_end0
    rw [HP.out]
    exact ⟨rfl, wp_from hab h1 h2⟩
  · have hpick := fun W => pick4 T.K W HT.out.K 1 hk 1 rfl
    have HP : Hid (putThg S T = putRaw S (fixB (u32N T.N))) := by show _ = _; unfold putThg; rw [if_neg (by omega), if_pos hk]
    have hfix := fixed_wp pv F S (u32N T.N) W0 (u32N_lt _) h0 hF0 (by omega)
    rw [u32N_int] at hfix
    subst hpv
    clear hk
    go_enter Try.func22, Try.ntmps22
    go_wp2_with fail
    refine (hpick _).mono ?_
    rintro e w1 ⟨rfl, rfl⟩
    go_wp2_with fail
    refine hfix.mono ?_
    rintro e w1 ⟨rfl, h1, h2⟩
    go_wp2_with fail
    go_end0
    rw [HP.out]
    exact ⟨rfl, wp_from hab h1 h2⟩
  · have hpick := fun W => pick4 T.K W HT.out.K 2 hk 2 rfl
    have HP : Hid (putThg S T = putText S T.B) := by show _ = _; unfold putThg; rw [if_neg (by omega), if_neg (by omega), if_pos hk]
    obtain ⟨W1, hW1⟩ : ∃ W1, W0.alloc (.cells #[.slice T.pB T.B.length T.cB] 25) = W1 := ⟨_, rfl⟩
    have hs1 : W1.heap.size = w.heap.size + 1 + 1 := by rw [← hW1]; simp [HS.out]
    have hab1 : Kept (fun _ => False) W0 W1 := by rw [← hW1]; exact Kept.of_below (below_alloc W0 _)
    have hT1 := hT0.kept hab1 (fun _ _ h => h)
    have htxt := text_wp pv F S (some ⟨w.heap.size + 1, 0, none⟩) 1 1 (fun _ => T.pB) (fun _ => T.B.length) (fun _ => T.cB) (fun _ => T.B) W1 (h0.kept hab1 (fun _ _ h => h)) (fun k hk => by have := hF k hk; omega) (fun g off s e _ hg => by cases e; have := hF _ hg; omega)
      (fun j hj g off s e h0 => ⟨hB g off s e h0, hT1.atB g off s e h0⟩) (by omega) (by simp [sumL]; omega)
      (.inr ⟨w.heap.size + 1, 0, rfl, fun j hj => ⟨by
        have : j = 0 := by omega
        subst this
        rw [← hW1, Nat.zero_add, ← HS.out]
        exact (cell_new_l W0 _ _).1, hT1.lB, hT1.mB, hT1.nB, rfl, hT1.bB⟩⟩)
    have HQ : Hid (putTexts S (fun _ => T.B) 1 = putText S T.B) := rfl
    subst hpv
    clear hk hT0 hT1
    go_enter Try.func22, Try.ntmps22
    go_wp2_with fail
    refine (hpick _).mono ?_
    rintro e w1 ⟨rfl, rfl⟩
    go_wp2_with fail
    rw [HS.out]
    refine htxt.mono ?_
    rintro e w1 ⟨rfl, h1, h2⟩
    go_wp2_with fail
    go_end0
    rw [HP.out]
    rw [HQ.out] at h1
    exact ⟨rfl, wp_from (hab.trans hab1 (fun _ _ h => h)) h1 h2⟩
  · have hpick := fun W => pick4 T.K W HT.out.K 3 hk 3 rfl
    have HP : Hid (putThg S T = putRising S T.R T.lR) := by show _ = _; unfold putThg; rw [if_neg (by omega), if_neg (by omega), if_neg (by omega)]
    have hris := rising_wp pv F S T.pR T.lR T.cR T.R W0 h0 hF0 hR (by omega) (by omega) hT0.wR hT0.bR
    subst hpv
    clear hk hT0
    go_enter Try.func22, Try.ntmps22
    go_wp2_with fail
    refine (hpick _).mono ?_
    rintro e w1 ⟨rfl, rfl⟩
    go_wp2_with fail
    refine hris.mono ?_
    rintro e w1 ⟨rfl, h1, h2⟩
    go_wp2_with fail
    go_end0
    rw [HP.out]
    exact ⟨rfl, wp_from hab h1 h2⟩

/-- Whether a thing can be put. -/
def Right (T : Thg) : Prop := 0 ≤ T.N ∧ T.N ≤ 1099511627776 ∧ rises T.R T.lR
def RightP (T : Thg) (w : World) (e : Ending) (w' : World) : Prop := ∃ t : Bool, e = .returned (.bool t) ∧ (t = true → Right T) ∧ Below w.heap.size w w'
set_option maxRecDepth 100000 in
set_option maxHeartbeats 1000000 in
theorem right_any (T : Thg) (w : World) (hT : T.Ok w) : Calls Try.prog 21 #[.agg T.vals] w (RightP T w) := by
  have hcel := boxT_cells T w w.heap.size rfl
  obtain ⟨W0, hW0⟩ : ∃ W0, w.alloc (.cells T.vals 31) = W0 := ⟨_, rfl⟩
  rw [hW0] at hcel
  have hbl : Below w.heap.size w W0 := by rw [← hW0]; exact below_alloc w _
  have hT0 := hT.below hbl
  obtain ⟨_, c1, _, c4⟩ := hcel
  have hwN := bounds_i64 hT0.N
  go_enter Try.func21, Try.ntmps21
  go_wp2_with fail
  go_loopg [3, 4] T.lR (fun q s3 s4 wr => ∃ k : Nat, k + q = T.lR ∧ s4 = .int .i64 (k : Nat) ∧ s3 = .int .i64 (ahead T.R k) ∧ rises T.R k ∧ ∃ m, wr = W0.drewN m)
  case atStart => exact ⟨0, by omega, rfl, rfl, fun k hk => by omega, 0, rfl⟩
  case round =>
    obtain ⟨k, hkq, rfl, rfl, hr, m, rfl⟩ := hrel
    have hk0 : (0 : Int) ≤ (k : Int) := by omega
    have hlR := hT0.lR
    have hmR := hT0.mR
    cases gk with
    | zero =>
      have hkz : ¬ ((k : Int) < (T.lR : Int)) := by omega
      have HR : Hid (rises T.R T.lR) := by
        obtain rfl : k = T.lR := by omega
        exact hr
      clear hr hT hT0
      have HN : Hid ((0 ≤ T.N ∧ T.N ≤ 1099511627776) → Right T) := fun h => ⟨h.1, h.2, HR.out⟩
      generalize T.N = N at *
      go_wp2_with fail
      all_goals
        go_ret
        refine ⟨_, rfl, fun h => HN.out ?_, below_drewN hbl _⟩
        simp at h
        try omega
    | succ q =>
      have hkz : (k : Int) < (T.lR : Int) := by omega
      obtain ⟨b, off, hpR, hc⟩ := hT0.bR.cell (by omega)
      have hck := hc k (by omega)
      have HW := hide (hT0.wR k)
      have HE : Hid (ahead T.R (k + 1) = T.R k) := rfl
      have HI : Hid ((¬ T.R k ≤ ahead T.R k ∧ ¬ 1099511627776 < T.R k) → rises T.R (k + 1)) := fun h j hj => by
        by_cases e : j = k
        · subst e
          unfold maxNum
          exact ⟨by omega, by omega⟩
        · exact hr j (by omega)
      rw [hpR] at c4
      clear hr hc hT hT0 hpR hwN c1
      generalize T.lR = lR at *
      generalize T.cR = cR at *
      generalize T.R k = x at *
      generalize ahead T.R k = y at *
      by_cases h1 : x ≤ y
      · have HB := hide hbl
        clear hbl
        go_wp2_with fail
        go_ret
        exact ⟨_, rfl, (fun h => by cases h), below_drewN HB.out _⟩
      · by_cases h2 : (1099511627776 : Int) < x
        · go_wp2_with fail
          go_ret
          exact ⟨_, rfl, (fun h => by cases h), below_drewN hbl _⟩
        · have HX := hide (HI.out ⟨h1, h2⟩)
          go_wp2_with fail
          go_roundg q
          case measure => omega
          case rel => exact ⟨k + 1, by omega, by go_num, by rw [HE.out], HX.out, _, rfl⟩
end Go.Proofs.Ytpnphijfdcimlaa
