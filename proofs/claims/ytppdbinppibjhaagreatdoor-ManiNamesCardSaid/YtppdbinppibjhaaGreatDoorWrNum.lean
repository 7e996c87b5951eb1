/-
  The program's writer puts numbers.
-/
import Derived.Test.YtppdbinppibjhaaGreatDoorWrIter
import Derived.Test.YtppdbinppibjhaaGreatDoorMarks
namespace Go.Proofs.YtppdbinppibjhaaGreatDoor
open Go.RowKit Go.Shelf

attribute [local go_sem] Oper.semAt_some

/-- A writer by its pointer: nil is one that failed. -/
def WP (w : World) (pv : Value) (F : Nat → Prop) (S : Option (List Nat)) : Prop := (pv = .pointer none ∧ S = none) ∨ ∃ p, pv = .pointer (some ⟨p, 0, none⟩) ∧ Wr w p F S
theorem WP.mono {w : World} {pv : Value} {F G : Nat → Prop} {S : Option (List Nat)} (h : WP w pv F S) (hFG : ∀ k, F k → G k) : WP w pv G S := by
  rcases h with h | ⟨p, h1, h2⟩
  · exact .inl h
  · exact .inr ⟨p, h1, h2.mono hFG⟩
theorem WP.kept {w w' : World} {pv : Value} {F G : Nat → Prop} {S : Option (List Nat)} (h : WP w pv F S) (hk : Kept G w w') (hd : ∀ k, F k → ¬ G k) : WP w' pv F S := by
  rcases h with h | ⟨p, h1, h2⟩
  · exact .inl h
  · exact .inr ⟨p, h1, h2.kept hk hd⟩
theorem WP.cells {w w' : World} {pv : Value} {F : Nat → Prop} {S : Option (List Nat)} (h : WP w pv F S) (hk : CellsKept w w') : WP w' pv F S := by
  rcases h with h | ⟨p, h1, h2⟩
  · exact .inl h
  · exact .inr ⟨p, h1, h2.cells hk⟩
theorem WP.by {w : World} {pv : Value} {F : Nat → Prop} {S : Option (List Nat)} (h : WP w pv F S) : byO S := by
  rcases h with ⟨_, rfl⟩ | ⟨p, h1, h2⟩
  · trivial
  · exact h2.by
theorem WP.form {w : World} {pv : Value} {F : Nat → Prop} {S : Option (List Nat)} (h : WP w pv F S) : ∃ a, pv = .pointer a := by
  rcases h with ⟨h, _⟩ | ⟨p, h1, h2⟩
  · exact ⟨_, h⟩
  · exact ⟨_, h1⟩

theorem put_wp (pv : Value) (F : Nat → Prop) (S : Option (List Nat)) (a : Option Addr) (len cap : Nat) (L : List Nat) (w : World) (h : WP w pv F S) (hF : ∀ k, F k → k < w.heap.size) (hL : L.length = len) (hn : a = none → cap = 0) (hlc : len ≤ cap) (had : ∀ g off s, a = some ⟨g, off, s⟩ → 0 < len → ¬ F g)
    (hsz : szO S + len ≤ 140737488355328) (hb : BL w a L) :
    Calls Tryz.prog 78 #[pv, .slice a len cap] w fun e w' => e = .returned (.tuple #[]) ∧ WP w' pv (Fnew F w w') (putRaw S L) ∧ Kept F w w' := by
  rcases h with ⟨rfl, rfl⟩ | ⟨p, rfl, h⟩
  · exact (put_nil w _).mono fun e w' ⟨he, hw⟩ => by subst hw; exact ⟨he, .inl ⟨rfl, rfl⟩, Kept.refl _ _⟩
  · exact (put_any p F S a len cap L w h hF hL hn hlc had hsz hb).mono fun e w' ⟨he, h1, h2⟩ => ⟨he, .inr ⟨p, rfl, h1⟩, h2⟩
theorem fail_wp (pv : Value) (F : Nat → Prop) (S : Option (List Nat)) (w : World) (h : WP w pv F S) :
    Calls Tryz.prog 76 #[pv] w fun e w' => e = .returned (.tuple #[]) ∧ WP w' pv F none ∧ Kept F w w' := by
  rcases h with ⟨rfl, rfl⟩ | ⟨p, rfl, h⟩
  · exact (fail_nil w).mono fun e w' ⟨he, hw⟩ => by subst hw; exact ⟨he, .inl ⟨rfl, rfl⟩, Kept.refl _ _⟩
  · exact (fail_any p F S w h).mono fun e w' ⟨he, h1, h2⟩ => ⟨he, .inr ⟨p, rfl, h1⟩, h2⟩
/-- What a writer has. -/
def hasO : Option (List Nat) → List Nat
  | none => []
  | some xs => xs
theorem hasO_len (S : Option (List Nat)) : (hasO S).length = szO S := by cases S <;> rfl
theorem bytes_wp (pv : Value) (F : Nat → Prop) (S : Option (List Nat)) (w : World) (h : WP w pv F S) (hsz : szO S ≤ 140737488355328) :
    Calls Tryz.prog 44 #[pv] w fun e w' => ∃ v, e = .returned v ∧ w'.ownsRow w.heap.size 5 1 v (szO S) (lc (hasO S)) ∧ Below w.heap.size w w' := by
  rcases h with ⟨rfl, rfl⟩ | ⟨p, rfl, h⟩
  · exact (bytes_nil w).mono fun e w' ⟨he, hw⟩ => by subst hw; exact ⟨_, he, World.ownsRow_nil _ _ _ _, Below.refl _ _⟩
  · cases S with
    | none => exact (bytes_empty p w (cells3 h.2).1).mono fun e w' ⟨he, hw⟩ => by subst hw; exact ⟨_, he, World.ownsRow_nil _ _ _ _, Below.refl _ _⟩
    | some xs => exact bytes_any p F xs w h hsz

theorem putNum_ok (S : Option (List Nat)) (n : Int) (h0 : 0 ≤ n) (h1 : n ≤ maxNum) : putNum S n = putRaw S (encN n.toNat) := by
  cases S with
  | none => rfl
  | some xs => simp only [putNum, putRaw]; rw [if_pos ⟨h0, h1⟩]
theorem putNum_bad (S : Option (List Nat)) (n : Int) (h : n < 0 ∨ (maxNum : Int) < n) : putNum S n = none := by
  cases S with
  | none => rfl
  | some xs => simp only [putNum]; rw [if_neg (by omega)]
theorem putNums_none (S : Option (List Nat)) (f : Nat → Int) (k : Nat) (h : putNums S f k = none) : ∀ n, k ≤ n → putNums S f n = none := by
  intro n hn
  induction n with
  | zero => have : k = 0 := by omega
            subst this; exact h
  | succ n ih =>
    by_cases e : k = n + 1
    · subst e; exact h
    · show putNum (putNums S f n) (f n) = none
      rw [ih (by omega)]; rfl
theorem putRaw_snoc (S : Option (List Nat)) (a b : List Nat) : putRaw (putRaw S a) b = putRaw S (a ++ b) := by
  cases S <;> simp [putRaw]
theorem putRaw_nil (S : Option (List Nat)) : putRaw S [] = S := by
  cases S <;> simp [putRaw]

/-- What holds between two numbers. -/
def NumSt (w0 : World) (Bw : Nat) (pv : Value) (F : Nat → Prop) (S : Option (List Nat)) (ds : List Deferred) (w : World) : Prop :=
  w.cell? ⟨Bw, 0, none⟩ = some pv ∧ (∃ G, WP w pv G S ∧ ∀ k, G k → F k ∨ (Bw < k ∧ k < w.heap.size)) ∧ Kept F w0 w ∧ Marks w0.heap.size ds w

set_option maxRecDepth 100000 in
set_option maxHeartbeats 4000000 in
theorem number_in (n : Nat) (hn4 : 4 ≤ n) (pv : Value) (F : Nat → Prop) (S : Option (List Nat)) (a : Option Addr) (len cap : Nat) (f : Nat → Int) (w : World) (h : WP w pv F S) (hF : ∀ k, F k → k < w.heap.size) (had : ∀ g off s, a = some ⟨g, off, s⟩ → 0 < len → ¬ F g)
    (hlen : len ≤ 9223372036854775807) (hsz : szO S + 6 * len ≤ 140737488355328) (hb : Ints w a len f) :
    CallsIn Fence.wide n Tryz.prog 41 #[pv, .slice a len cap] w fun e w' => e = .returned (.tuple #[]) ∧ WP w' pv (Fnew F w w') (putNums S f len) ∧ Kept F w w' := by
  obtain ⟨pa, hpv⟩ := h.form
  refine callsIn_of_wp_marks Tryz.func41 rfl trivial ?_ rfl
  simp only [Tryz.ntmps41, List.size_toArray, List.length_cons, List.length_nil, Nat.reduceAdd, Nat.reduceSub, Array.replicate_succ, Array.replicate_zero, List.push_toArray, List.append_toArray, List.nil_append, List.cons_append]
  gi_wp2
  refine wpIn_loop (fun A W => ∃ (k : Nat) (ds : List Deferred) (u5 u6 u10 u11 u12 u13 u14 u15 u16 u17 u18 u19 u20 u21 u22 u23 u24 u25 u26 u27 u28 : Value),
      A = { tmps := #[pv, .slice a len cap, .pointer (some ⟨w.heap.size, 0, none⟩), undef, undef, u5, u6, .slice a len cap, .int .i64 len, .int .i64 k, u10, u11, u12, u13, u14, u15, u16, u17, u18, u19, u20, u21, u22, u23, u24, u25, u26, u27, u28], defers := ds } ∧
      k ≤ len ∧ NumSt w w.heap.size pv F (putNums S f k) ds W) (fun A _ => len - (intOf (A.tmps.getD 9 undef)).toNat) ?_ ?_
  · refine ⟨0, [], _, _, _, _, _, _, _, _, _, _, _, _, _, _, _, _, _, _, _, _, _, rfl, Nat.zero_le _, ?_⟩
    refine ⟨by subst hpv; exact (cell_new_l w _ _).1, ⟨F, ?_, fun k hk => .inl hk⟩, (Kept.refl F w).alloc _, trivial⟩
    exact h.kept (Kept.of_below (F := fun _ => False) (below_alloc w _)) (fun _ _ h => h)
  · rintro A W ⟨k, ds, u5, u6, u10, u11, u12, u13, u14, u15, u16, u17, u18, u19, u20, u21, u22, u23, u24, u25, u26, u27, u28, rfl, hk, hst⟩
    obtain ⟨hbox, ⟨G, hW, hG⟩, hK, hM⟩ := hst
    have hGl : ∀ j, G j → j < W.heap.size := fun j hj => by
      rcases hG j hj with h1 | h1
      · have := hF j h1; have := hK.size; omega
      · exact h1.2
    by_cases hlt : k < len
    · obtain ⟨g, off, rfl, hc⟩ := hb.cell (by omega)
      have hcell := hK.cell (hc k hlt) (had g off none rfl (by omega))
      have HS : Hid (putNums S f (k + 1) = putNum (putNums S f k) (f k)) := rfl
      have hsk := putNums_sz S f k
      clear hc
      have hend : putNum (putNums S f k) (f k) = none → ∀ (W1 : World) (G1 : Nat → Prop) (tmps : Array Value), (∀ j, G1 j → G j) → WP W1 pv G1 none → Kept G W W1 →
          LeavesInM Fence.wide n Tryz.prog Tryz.f41 tmps (fun e w' => e = .returned (.tuple #[]) ∧ WP w' pv (Fnew F w w') (putNums S f len) ∧ Kept F w w') ds .returning W1 := by
        intro hnone W1 G1 tmps hG1 hW1 hK1
        refine leaves_marks ds _ (hM.others hK1.keepsOthers) (fun w' ht => ⟨_, results_none rfl _ _ _, rfl, ?_, ?_⟩)
        · rw [putNums_none S f (k + 1) (by rw [← hnone]; exact HS.out) len (by omega)]
          refine (hW1.cells ht.cells).mono (fun j hj => ?_)
          rcases hG j (hG1 j hj) with h1 | h1
          · exact .inl h1
          · exact .inr ⟨by omega, by have := hK1.size; rw [ht.size]; omega⟩
        · refine (hK.trans hK1 (fun j hj hg => ?_)).turned ht
          rcases hG j hg with h1 | h1
          · exact h1
          · omega
      by_cases hneg : f k < 0
      · have hfw := callsIn_wide (n := n - 1).2 (fail_wp pv G (putNums S f k) W hW)
        have hend' := hend (putNum_bad _ _ (.inl hneg))
        clear hend hsk hb HS had
        subst hpv
        gi_wp2
        refine ⟨trivial, fun _ => by omega, hfw.mono ?_⟩
        rintro e w1 ⟨rfl, hW1, hK1⟩
        gi_wp2
        exact hend' _ G _ (fun _ h => h) hW1 hK1
      · by_cases hbig : maxNum < f k
        · have hfw := callsIn_wide (n := n - 1).2 (fail_wp pv G (putNums S f k) W hW)
          have hend' := hend (putNum_bad _ _ (.inr hbig))
          unfold maxNum at hbig
          have hbig' : (1099511627776 : Int) < f k := by simpa using hbig
          clear hend hsk hb HS had hbig
          subst hpv
          gi_wp2
          refine ⟨trivial, fun _ => by omega, hfw.mono ?_⟩
          rintro e w1 ⟨rfl, hW1, hK1⟩
          gi_wp2
          exact hend' _ G _ (fun _ h => h) hW1 hK1
        · obtain ⟨m, hm⟩ : ∃ m : Nat, f k = (m : Int) := ⟨(f k).toNat, by omega⟩
          have hmm : m ≤ maxNum := by omega
          rw [putNum_ok _ _ (by omega) (by omega), show (f k).toNat = m from by omega] at HS
          rw [hm] at hcell
          have hm2 : (m : Int) ≤ 1099511627776 := by unfold maxNum at hmm; omega
          have hm0 : (0 : Int) ≤ (m : Int) := by omega
          have hstop := bytesOf_stops Fence.wide (n - 1) trivial rfl (by omega) W.heap.size m hmm (W.alloc (.cells #[.int .i64 (m : Nat)] 3)) (by simp) (cell_new_l W _ _).1
          clear hend hbig hneg hm hb
          obtain ⟨W0, hW0⟩ : ∃ W0, W.alloc (.cells #[.int .i64 (m : Nat)] 3) = W0 := ⟨_, rfl⟩
          have hs0 : W0.heap.size = W.heap.size + 1 := by rw [← hW0]; simp
          have hab : Kept (fun _ => False) W W0 := by rw [← hW0]; exact Kept.of_below (below_alloc W _)
          have hKs := hK.size
          have hMl := hM.lt
          subst hpv
          gi_wp2
          refine ⟨trivial, fun _ => by omega, (bytesOf_in Fence.wide (n - 1) trivial rfl _ W).mono ?_⟩
          rintro e w' ⟨rfl, rfl⟩
          gi_wp2
          rw [hW0] at hstop
          refine wpIn_rangeFunc_ownF rfl (by omega) (gf := 129) (lb := #[.pointer (some ⟨W.heap.size, 0, none⟩)]) rfl trivial (enters_of Tryz.func129 (by kernel_rfl) rfl)
            hstop walksK_t walksK_b (Below.refl _ _) (fun _ => rfl)
            (fun pre X => X.cell? ⟨w.heap.size, 0, none⟩ = some (.pointer pa) ∧ (∃ G', WP X (.pointer pa) G' (putRaw (putNums S f k) (vals pre)) ∧ ∀ j, G' j → F j ∨ (w.heap.size < j ∧ j < X.heap.size)) ∧ Kept F w X ∧ Marks w.heap.size ds X)
            (fun _ _ _ => False) ?own (fun _ _ _ _ _ hs _ _ => hs) ?start
            (fun x => { tmps := #[.pointer pa, .slice (some ⟨g, off, none⟩) len cap, .pointer (some ⟨w.heap.size, 0, none⟩), undef, undef, .int .i64 m, .int .u8 (x.val : Nat), .slice (some ⟨g, off, none⟩) len cap, .int .i64 len, .int .i64 k,
                .bool true, .pointer (some ⟨g, off + k, none⟩), .int .i64 m, .int .i64 m, .bool (decide ((m : Int) < 0)), .bool (decide ((m : Int) < 0)), .int .i64 m, .bool (decide (1099511627776 < (m : Int))), .bool (decide ((m : Int) < 0) || decide (1099511627776 < (m : Int))), u19, u20, .int .i64 m,
                .func (.func 129) #[] #[.pointer (some ⟨W.heap.size, 0, none⟩)], .int .u8 (x.val : Nat), u24, u25, u26, u27, u28], defers := [] }) ?assign ?body ?done ?stop
          case own =>
            rintro pre X X' row ⟨h1, ⟨G', h2, h3⟩, h4, h5⟩ hg hr
            have ck := CellsKept.of_grown hg (fun r e => (hr r e).2)
            refine ⟨ck.cell h1, ⟨G', h2.cells ck, fun j hj => ?_⟩, h4.grown hg (fun r e => .inr (by have := (hr r e).1; omega)), h5.grown ?_ hg (fun r e => (hr r e).1)⟩
            · rcases h3 j hj with h | h
              · exact .inl h
              · exact .inr ⟨h.1, by have := hg.size; omega⟩
            · intro d hd D e
              obtain ⟨D', e', hl⟩ := hMl d hd
              rw [e] at e'
              cases e'
              omega
          case start =>
            refine ⟨hab.cell hbox (fun h => h), ⟨G, by rw [show vals [] = [] from rfl, putRaw_nil]; exact hW.kept hab (fun _ _ h => h), fun j hj => ?_⟩, hK.trans hab (fun _ _ h => h.elim), hM.others hab.keepsOthers⟩
            rcases hG j hj with h1 | h1
            · exact .inl h1
            · exact .inr ⟨h1.1, by omega⟩
          case assign =>
            intro l x X K hK
            gi_wp2
            exact hK
          case body =>
            rintro l pre x X ⟨h1, ⟨G', h2, h3⟩, h4, h5⟩ hpl
            have hXs := h4.size
            have hab1 : Kept (fun _ => False) X (X.alloc (.cells #[.int .u8 (x.val : Nat)] 5)) := Kept.of_below (below_alloc X _)
            have hG'l : ∀ j, G' j → j < X.heap.size := fun j hj => by
              rcases h3 j hj with h | h
              · have := hF j h; omega
              · exact h.2
            have h6 : (vals pre).length = pre.length := by simp [vals]
            have hsz1 := putRaw_sz (putNums S f k) (vals pre)
            have hnew : BL (X.alloc (.cells #[.int .u8 (x.val : Nat)] 5)) (some ⟨X.heap.size, 0, none⟩) [x.val] := BL.mk (by simp) (.inr ⟨_, 0, rfl, fun i hi => by
                have : i = 0 := by simpa using hi
                subst this
                exact (cell_new_l X _ _).1⟩)
            have hp := CallsIn.inRound l (callsIn_wide (n := n - 1 - 1 - 1).2 (put_wp (.pointer pa) G' (putRaw (putNums S f k) (vals pre)) (some ⟨X.heap.size, 0, none⟩) 1 1 [x.val] (X.alloc (.cells #[.int .u8 (x.val : Nat)] 5)) (h2.kept hab1 (fun _ _ h => h)) (fun j hj => by have := hG'l j hj; simp; omega) rfl (fun e => by cases e) (by omega)
              (fun g' off' s e _ hg => by cases e; have := hG'l _ hg; omega) (by omega) hnew))
            rw [putRaw_snoc, ← vals_snoc] at hp
            have hbx : ¬ G' w.heap.size := fun hg => by
              rcases h3 _ hg with h | h
              · have := hF _ h; omega
              · omega
            have hb1 := hab1.cell h1 (fun h => h)
            have hsz2 : (X.alloc (.cells #[.int .u8 (x.val : Nat)] 5)).heap.size = X.heap.size + 1 := by simp
            clear hnew
            gi_wp2
            refine ⟨trivial, fun _ => by omega, hp.mono ?_⟩
            rintro e w1 ⟨rfl, hW1, hK1⟩
            gi_wp2
            have ko := hab1.keepsOthers.trans hK1.keepsOthers
            refine ⟨ko, ko.walks, hK1.cell hb1 hbx, ⟨_, hW1, fun j hj => ?_⟩, (h4.trans hab1 (fun _ _ h => h.elim)).trans hK1 (fun j hj hg => ?_), h5.others ko⟩
            · rcases hj with hj | hj
              · rcases h3 j hj with h | h
                · exact .inl h
                · exact .inr ⟨h.1, by have := ko.size; omega⟩
              · exact .inr ⟨by omega, hj.2⟩
            · rcases h3 j hg with h | h
              · exact h
              · omega
          case done =>
            rintro D ys X hD hys ⟨h1, ⟨G', h2, h3⟩, h4, h5⟩ hKD
            rw [hys, ← HS.out] at h2
            clear hys
            gi_wp2
            refine ⟨⟨k + 1, _, _, _, _, _, _, _, _, _, _, _, _, _, _, _, _, _, _, _, _, _, _, rfl, by omega, h1, ⟨G', h2, h3⟩, h4, h5.push (by omega) hKD ?_⟩, by simp [intOf]; omega⟩
            intro d hd D' e
            obtain ⟨D1, e', hl⟩ := hMl d hd
            rw [e] at e'
            cases e'
            omega
          case stop =>
            rintro D c pre X _ _ h _
            exact h.elim
    · obtain rfl : k = len := by omega
      subst hpv
      gi_wp2
      refine leaves_marks ds _ hM (fun w' ht => ⟨_, results_none rfl _ _ _, rfl, ?_, hK.turned ht⟩)
      refine (hW.cells ht.cells).mono (fun j hj => ?_)
      rcases hG j hj with h1 | h1
      · exact .inl h1
      · exact .inr ⟨by omega, by rw [ht.size]; omega⟩
/-- Numbers put. -/
theorem number_wp (pv : Value) (F : Nat → Prop) (S : Option (List Nat)) (a : Option Addr) (len cap : Nat) (f : Nat → Int) (w : World) (h : WP w pv F S) (hF : ∀ k, F k → k < w.heap.size) (had : ∀ g off s, a = some ⟨g, off, s⟩ → 0 < len → ¬ F g)
    (hlen : len ≤ 9223372036854775807) (hsz : szO S + 6 * len ≤ 140737488355328) (hb : Ints w a len f) :
    Calls Tryz.prog 41 #[pv, .slice a len cap] w fun e w' => e = .returned (.tuple #[]) ∧ WP w' pv (Fnew F w w') (putNums S f len) ∧ Kept F w w' :=
  callsIn_wide.1 (number_in 4 (by omega) pv F S a len cap f w h hF had hlen hsz hb)

theorem ints_new (w : World) (x : Int) (fr : Nat × Nat) (g : Nat) (hg : g = w.heap.size) : Ints (w.alloc (.cells #[.int .i64 x] 3 fr)) (some ⟨g, 0, none⟩) 1 (fun _ => x) := by
  subst hg
  refine .inr ⟨_, 0, rfl, fun i hi => ?_⟩
  have : i = 0 := by omega
  subst this
  rw [cell_of_row _ _ _ _ _ _ (heap_alloc_new _ _)]; rfl
/-- One number put, out of a row of its own. -/
theorem number_one (pv : Value) (F : Nat → Prop) (S : Option (List Nat)) (x : Int) (w : World) (h : WP w pv F S) (hF : ∀ k, F k → k < w.heap.size) (hsz : szO S + 6 ≤ 140737488355328) (g : Nat) (hg : g = w.heap.size) :
    Calls Tryz.prog 41 #[pv, .slice (some ⟨g, 0, none⟩) 1 1] (w.alloc (.cells #[.int .i64 x] 3)) fun e w' => e = .returned (.tuple #[]) ∧ WP w' pv (Fnew F w w') (putNum S x) ∧ Kept F w w' := by
  subst hg
  have hab : Kept (fun _ => False) w (w.alloc (.cells #[.int .i64 x] 3)) := Kept.of_below (below_alloc w _)
  refine (number_wp pv F S _ 1 1 (fun _ => x) _ (h.kept hab (fun _ _ h => h)) (fun k hk => by have := hF k hk; simp; omega) (fun g off s e _ hg => by cases e; have := hF _ hg; omega) (by omega) (by omega) (ints_new w x (0, 0) _ rfl)).mono fun e w' ⟨he, h1, h2⟩ => ⟨he, h1.mono (fun k hk => ?_), (hab.mono (fun _ _ h => h.elim)).trans h2 (fun _ _ h => h)⟩
  rcases hk with hk | hk
  · exact .inl hk
  · exact .inr ⟨by have := hk.1; simp at this; omega, hk.2⟩
end Go.Proofs.YtppdbinppibjhaaGreatDoor
