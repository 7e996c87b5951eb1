/-
  FramePuts's walk: a contract, since FrameEnds calls it too.
-/
import Derived.Test.YtlmjplpledilhaaGreatFAwake
import Derived.Test.YtlmjplpledilhaaGreatFRPut
import Derived.Test.YtlmjplpledilhaaGreatLentKept
import Derived.Test.YtlmjplpledilhaaGreatAparts
namespace Go.Proofs.YtlmjplpledilhaaGreat
open Go.RowKit

theorem cntP_mono (P : Nat → Prt) {k n : Nat} (h : k ≤ n) : cntP P k ≤ cntP P n := by
  induction n with
  | zero => have : k = 0 := by omega
            subst this; exact Nat.le_refl _
  | succ n ih =>
    by_cases e : k = n + 1
    · subst e; exact Nat.le_refl _
    · have := ih (by omega)
      show cntP P k ≤ cntP P n + 1 + _
      omega
theorem cntP_one (P : Nat → Prt) {k n : Nat} (h : k < n) : (P k).B.length ≤ cntP P n := by
  have h1 := cntP_mono P (show k + 1 ≤ n by omega)
  have h2 : cntP P (k + 1) = cntP P k + 1 + (P k).B.length := rfl
  omega
theorem LentP.pts {W : World} {R n : Nat} {P : Nat → Prt} {Qs : List Prt} (h : LentP W R n P Qs) : pts (fun i => Qs.getD i dftP) n = pts P n := by
  unfold Go.Proofs.YtlmjplpledilhaaGreat.pts
  apply List.map_congr_left
  intro i hi
  obtain ⟨_, h1, h2, _⟩ := h.2.2.1 i (List.mem_range.1 hi)
  unfold pt
  rw [h1, h2]
/-- Two rows of bytes in a row of rows. -/
theorem apart2 {A1 A2 : Option Addr} {C1 C2 s1 s2 : Nat} {X1 X2 : List Value} {w1 w : World} (g : Nat) (hb : w.heap[g]? = some (.cells #[.slice A1 s1 C1, .slice A2 s2 C2] 26 (0, 0))) (h1 : s1 ≤ 1000000) (h2 : s2 ≤ 1000000)
    (ho1 : w.ownsRow 0 5 1 (.slice A1 s1 C1) s1 X1) (ho2 : w.ownsRow w1.heap.size 5 1 (.slice A2 s2 C2) s2 X2) (hlt : ∀ g, (Value.slice A1 s1 C1).ownBlock = some g → g < w1.heap.size) :
    Calls Tryz.prog 13 #[.slice (some ⟨g, 0, none⟩) 2 2] w fun e w' => e = .returned (.bool true) ∧ Kept (fun k => (Value.slice A1 s1 C1).ownBlock = some k ∨ (Value.slice A2 s2 C2).ownBlock = some k) w w' := by
  refine (apartBytes_any g 0 2 2 (fun r => if r = 0 then A1 else A2) (fun r => if r = 0 then s1 else s2) (fun r => if r = 0 then C1 else C2) (fun r => if r = 0 then X1 else X2) w (by omega) (by omega) (fun r hr => by
    rcases (show r = 0 ∨ r = 1 by omega) with rfl | rfl
    · show s1 ≤ _; omega
    · show s2 ≤ _; omega)
    (fun r s k hr hs h1 h2 => by
      have hx2 : ∀ g, (Value.slice A2 s2 C2).ownBlock = some g → w1.heap.size ≤ g := fun g h => (owns_cells ho2 g h).2.1
      rcases (show r = 0 ∨ r = 1 by omega) with rfl | rfl <;> rcases (show s = 0 ∨ s = 1 by omega) with rfl | rfl
      · rfl
      · have := hlt k h1; have := hx2 k h2; omega
      · have := hlt k h2; have := hx2 k h1; omega
      · rfl)
    (fun r hr => by
      rw [Nat.zero_add, cell_of_row _ _ _ _ _ _ hb]
      rcases (show r = 0 ∨ r = 1 by omega) with rfl | rfl <;> rfl)
    (fun r hr => by
      rcases (show r = 0 ∨ r = 1 by omega) with rfl | rfl
      · exact ho1
      · exact owns_lower ho2 (Nat.zero_le _))).mono ?_
  rintro e w' ⟨he, hst⟩
  refine ⟨he, hst.1.mono (fun k _ hk => ?_)⟩
  obtain ⟨r, hr, h⟩ := hk
  rcases (show r = 0 ∨ r = 1 by omega) with rfl | rfl
  · exact .inl h
  · exact .inr h

set_option maxRecDepth 100000 in
set_option maxHeartbeats 2000000 in
theorem puts_any (a : Option Addr) (n cap : Nat) (P : Nat → Prt) (w : World) (hP : Prts w a n P) (hn : n ≤ 140737488351232) (hl : ∀ i, i < n → (P i).B.length ≤ 140737488351232) :
    Calls Tryz.prog 3 #[.slice a n cap] w fun e w' => e = .returned (.bool true) ∧ Below w.heap.size w w' := by
  have hpo := partsOf_any a n cap P w hn hP hl
  have HP := hide hP
  clear hP hl
  go_enter Tryz.func3, Tryz.ntmps3
  go_wp2_with fail
  refine hpo.mono ?_
  rintro e w' ⟨r, rfl, rfl, hr⟩
  clear hpo
  by_cases hrm : 10000 < r
  · have hrz : (10000 : Int) < (r : Int) := by omega
    clear hr
    go_wp2_with fail
    refine (awake_any w).mono ?_
    rintro e w1 ⟨rfl, hB1⟩
    go_wp2_with fail
    go_ret
    exact ⟨rfl, hB1⟩
  have hrz : (r : Int) ≤ 10000 := by omega
  have hcnt := hr (by omega)
  obtain ⟨hn1, hsz⟩ := sizeB_cnt (P := P) (n := n) (by omega)
  have hl1 : ∀ i, i < n → (P i).B.length ≤ 10000 := fun i hi => by have := cntP_one P hi; omega
  have hle := lentParts_any a n cap P w HP.out hn1 hl1
  have HL := hide (And.intro hl1 hsz)
  clear hr hcnt hl1 hsz
  go_wp2_with fail
  refine hle.mono ?_
  rintro e w1 ⟨rfl, ⟨Qs, hLe⟩, hB1⟩
  have hbnd : ∀ i, i < n → (P i).B.length ≤ 20000 ∧ ∀ b ∈ (P i).B, b < 256 := fun i hi => by
    obtain ⟨_, _, _, _, hk⟩ := HP.out.cells i hi
    have := HL.out.1 i hi
    exact ⟨by omega, hk.bB.lt⟩
  have hPr := hLe.prts hbnd
  have hpt := hLe.pts
  obtain ⟨R, hR⟩ : ∃ R, w.heap.size = R := ⟨_, rfl⟩
  rw [hR] at hLe hPr
  obtain ⟨ps, hps⟩ : ∃ ps, pts P n = ps := ⟨_, rfl⟩
  rw [hps] at hpt
  have hsz := HL.out.2
  rw [hps] at hsz
  have hp1 := fput_any (some ⟨R, 0, none⟩) n (n + 12) _ w1 hPr (by omega) (by rw [hpt]; omega)
  rw [hpt] at hp1
  obtain ⟨s, hs⟩ : ∃ s, sizeB ps = s := ⟨_, rfl⟩
  obtain ⟨L, hL⟩ : ∃ L, fileB ps = L := ⟨_, rfl⟩
  have hLs : L.length = s := by rw [← hL, fileB_len, hs]
  have hlt : ∀ b ∈ L, b < 256 := by rw [← hL, ← hps]; exact fileB_lt (pts_ok HP.out (by rw [hps, hs]; omega) (Nat.le_refl _))
  rw [hs] at hsz
  rw [hs, hL] at hp1
  have H1 := hide (And.intro hLe (And.intro hB1 (And.intro hPr (And.intro hpt (And.intro hps (And.intro hs (And.intro hL (And.intro hLs hlt))))))))
  rw [hR]
  clear hle hLe hB1 hPr hpt hps hs hL hLs hlt hbnd
  go_wp2_with fail
  refine hp1.mono ?_
  rintro e w2 ⟨v2, rfl, ho2, hB2⟩
  have hB12 := H1.out.2.1.trans (hB2.mono H1.out.2.1.size)
  have hrp := refPut_any a n cap P w2 (HP.out.below hB12) (by omega) (by rw [H1.out.2.2.2.2.1, H1.out.2.2.2.2.2.1]; omega)
  rw [H1.out.2.2.2.2.1, H1.out.2.2.2.2.2.1, H1.out.2.2.2.2.2.2.1] at hrp
  obtain ⟨hl2, A2, C2, rfl, hS2, hg2⟩ := SB.own ho2 H1.out.2.2.2.2.2.2.2.2
  rw [← hl2]
  rw [← hl2] at ho2 hg2
  have H2 := hide (And.intro hB2 (And.intro hB12 (And.intro ho2 (And.intro hS2 hg2))))
  clear hp1 ho2 hB2 hB12 hS2 hl2 hg2
  go_wp2_with fail
  refine hrp.mono ?_
  rintro e w3 ⟨v3, rfl, ho3, hB3⟩
  obtain ⟨hl3, A3, C3, rfl, hS3, _⟩ := SB.own ho3 H1.out.2.2.2.2.2.2.2.2
  rw [← hl3]
  have hB13 : Below w1.heap.size w1 w3 := H2.out.1.trans (hB3.mono H2.out.1.size)
  have hp2 := fput_any (some ⟨R, 0, none⟩) n (n + 12) _ w3 (H1.out.2.2.1.below hB13) (by omega) (by rw [H1.out.2.2.2.1, H1.out.2.2.2.2.2.1]; omega)
  rw [H1.out.2.2.2.1, H1.out.2.2.2.2.2.1, H1.out.2.2.2.2.2.2.1] at hp2
  have H3 := hide (And.intro hB3 (And.intro hB13 hS3))
  clear hrp ho3 hB3 hB13 hS3 hl3
  go_wp2_with fail
  refine hp2.mono ?_
  rintro e w4 ⟨v4, rfl, ho4, hB4⟩
  obtain ⟨hl4, A4, C4, rfl, _, _⟩ := SB.own ho4 H1.out.2.2.2.2.2.2.2.2
  rw [← hl4]
  rw [← hl4] at ho4
  have hB24 : Below w2.heap.size w2 w4 := H3.out.1.trans (hB4.mono H3.out.1.size)
  have hB14 : Below w1.heap.size w1 w4 := H3.out.2.1.trans (hB4.mono H3.out.2.1.size)
  have hsb := sameBytes_any A2 A3 s C2 C3 L w4 H1.out.2.2.2.2.2.2.2.1 (by omega) (H2.out.2.2.2.1.b.below hB24) (H3.out.2.2.b.below hB4)
  have H4 := hide (And.intro hB24 (And.intro hB14 ho4))
  clear hp2 ho4 hB4 hB24 hB14 hl4
  go_wp2_with fail
  refine hsb.mono ?_
  rintro e w5 ⟨rfl, hB5⟩
  have hB15 := H4.out.2.1.trans (hB5.mono H4.out.2.1.size)
  have hkp := keptParts_any R a n cap P Qs w5 hn1 HL.out.1 ((HP.out.below H1.out.2.1).below hB15) (H1.out.1.below hB15)
  have H5 := hide (And.intro hB5 hB15)
  clear hsb hB5 hB15
  go_wp2_with fail
  refine hkp.mono ?_
  rintro e w6 ⟨rfl, hB6⟩
  have hB46 : Below w4.heap.size w4 w6 := H5.out.1.trans (hB6.mono H5.out.1.size)
  obtain ⟨W7, hW7⟩ : ∃ W7, w6.alloc (.cells #[.slice A2 s C2, .slice A4 s C4] 26) = W7 := ⟨_, rfl⟩
  have hb7 : W7.heap[w6.heap.size]? = some (.cells #[.slice A2 s C2, .slice A4 s C4] 26 (0, 0)) := by rw [← hW7]; exact heap_alloc_new _ _
  have hB47 : Below w4.heap.size w4 W7 := by rw [← hW7]; exact hB46.alloc hB46.size _
  have hB27 := H4.out.1.trans (hB47.mono H4.out.1.size)
  have hap := apart2 (w1 := w2) w6.heap.size hb7 (by omega) (by omega) (owns_lower (owns_thru H2.out.2.2.1 hB27) (Nat.zero_le _)) (owns_lower (owns_thru H4.out.2.2 hB47) H3.out.1.size) (fun g hg => (owns_cells H2.out.2.2.1 g hg).1)
  have hB17 := H4.out.2.1.trans (hB47.mono H4.out.2.1.size)
  have H7 := hide hB17
  clear hkp hB6 hB46 hb7 hB47 hB27 hB17
  go_wp2_with fail
  refine hap.mono ?_
  rintro e w8 ⟨rfl, hk8⟩
  have hB18 : Below w1.heap.size w1 w8 := H7.out.trans ((hk8.below (B := w1.heap.size) (fun k hk => by
    rcases hk with h | h
    · exact (owns_cells H2.out.2.2.1 k h).2.1
    · have := (owns_cells H4.out.2.2 k h).2.1; have := H3.out.2.1.size; omega) H7.out.size))
  have hkp := keptParts_any R a n cap P Qs w8 hn1 HL.out.1 ((HP.out.below H1.out.2.1).below hB18) (H1.out.1.below hB18)
  have H8 := hide hB18
  clear hap hk8 hB18 hW7
  go_wp2_with fail
  refine hkp.mono ?_
  rintro e w9 ⟨rfl, hB9⟩
  have H9 := hide (H8.out.trans (hB9.mono H8.out.size))
  clear hkp hB9
  go_wp2_with fail
  refine (awake_any w9).mono ?_
  rintro e w10 ⟨rfl, hB10⟩
  go_wp2_with fail
  go_ret
  rw [hR]
  have h1 := H9.out.trans (hB10.mono H9.out.size)
  have h0 := H1.out.2.1
  rw [← hR]
  exact ⟨rfl, h0.trans (h1.mono h0.size)⟩
end Go.Proofs.YtlmjplpledilhaaGreat
