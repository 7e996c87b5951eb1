/-
  FrameGets's walk: a contract, since FrameEnds calls it too.
-/
import Derived.Test.YtlmjplpledilhaaGreatFPutsW
import Derived.Test.YtlmjplpledilhaaGreatFRGets
import Derived.Test.YtlmjplpledilhaaGreatFBursts
import Derived.Test.YtlmjplpledilhaaGreatFAparts
namespace Go.Proofs.YtlmjplpledilhaaGreat
open Go.RowKit

theorem bodyB_mem {ps : List PT} {p : PT} (h : p ∈ ps) : p.2.length ≤ (bodyB ps).length := by
  induction ps with
  | nil => cases h
  | cons q r ih =>
    rcases List.mem_cons.1 h with h | h
    · subst h; simp [bodyB, partB]; omega
    · have := ih h; simp [bodyB]; omega
theorem bodyB_count (ps : List PT) : ps.length ≤ (bodyB ps).length := by
  induction ps with
  | nil => simp
  | cons q r ih => have := partB_pos q; simp [bodyB]; omega
theorem getFile_few {L : List Nat} (hL : ∀ b ∈ L, b < 256) : ((getFile L).getD []).length ≤ L.length ∧ ∀ p ∈ (getFile L).getD [], p.2.length ≤ L.length := by
  cases h : getFile L with
  | none => exact ⟨Nat.zero_le _, fun p hp => by cases hp⟩
  | some ps =>
    obtain ⟨_, _, _, hs⟩ := getFile_one hL h
    unfold sizeB at hs
    have h1 := bodyB_count ps
    refine ⟨?_, fun p hp => ?_⟩
    · show ps.length ≤ _; omega
    · have := bodyB_mem (show p ∈ ps from hp); omega
theorem pv_few {xs : List PV} {L : List Nat} (hL : ∀ b ∈ L, b < 256) (h : xs.map (fun x : PV => x.1) = (getFile L).getD []) : xs.length ≤ L.length ∧ ∀ x ∈ xs, x.1.2.length ≤ L.length := by
  obtain ⟨h1, h2⟩ := getFile_few hL
  rw [← h] at h1 h2
  exact ⟨by simpa using h1, fun x hx => h2 _ (List.mem_map.2 ⟨x, hx, rfl⟩)⟩
theorem pv_same {xs ys : List PV} (h : xs.map (fun x : PV => x.1) = ys.map (fun x : PV => x.1)) (i : Nat) (hi : i < xs.length) : (prtAt xs i).T = (prtAt ys i).T ∧ (prtAt xs i).B = (prtAt ys i).B := by
  have hl : xs.length = ys.length := by have := congrArg List.length h; simpa using this
  have h2 : (xs.map (fun x : PV => x.1))[i]? = (ys.map (fun x : PV => x.1))[i]? := by rw [h]
  rw [List.getElem?_map, List.getElem?_map, List.getElem?_eq_getElem hi, List.getElem?_eq_getElem (by omega)] at h2
  simp only [Option.map_some, Option.some.injEq] at h2
  rw [prtAt_lt hi, prtAt_lt (by omega)]
  unfold prtOf
  exact ⟨congrArg Prod.fst h2, congrArg Prod.snd h2⟩
theorem PVown.lt {w : World} {B : Nat} {v : Value} {xs : List PV} (h : OwnPV w B v xs) {k : Nat} (hk : PVown v xs k) : B ≤ k ∧ k < w.heap.size := by
  rcases hk with hk | ⟨x, hx, hk⟩
  · have := owns_cells h.1 k hk; exact ⟨this.2.1, this.1⟩
  · have := owns_cells (h.2.1 x hx).1 k hk; exact ⟨this.2.1, this.1⟩
theorem burstL_lt {L : List Nat} (hL : ∀ b ∈ L, b < 256) (bit : Int) (m : Nat) : ∀ b ∈ burstL L bit m, b < 256 := by
  intro b hb
  unfold burstL at hb
  split at hb
  · exact hL b hb
  · simp only [tx, List.mem_map] at hb
    obtain ⟨i, _, rfl⟩ := hb
    refine turnN_lt _ _ _ (fun j => ?_) _ i
    rw [List.getD_eq_getElem?_getD]
    by_cases hj : j < L.length
    · rw [List.getElem?_eq_getElem hj]; exact hL _ (List.getElem_mem hj)
    · rw [List.getElem?_eq_none (by omega)]; simp
theorem lent_sb {W : World} {g n : Nat} {L : List Nat} (hn : L.length = n) (hL : ∀ b ∈ L, b < 256) (hm : n ≤ 1000000) (h : Blk W g (n + 12) (lent (fun i => L.getD i 0) n)) : SB W (some ⟨g, 0, none⟩) (n + 12) L := by
  refine ⟨by omega, by omega, (fun e => by cases e), .inr ⟨g, 0, rfl⟩, BL.mk hL (.inr ⟨g, 0, rfl, fun i hi => ?_⟩)⟩
  have := h.cell (i := i) (by omega)
  unfold lent at this
  rw [if_pos (by omega)] at this
  rw [Nat.zero_add]
  exact this

set_option maxRecDepth 100000 in
set_option maxHeartbeats 4000000 in
theorem gets_any (a : Option Addr) (n cap : Nat) (L : List Nat) (bit : Int) (m : Nat) (w : World) (hn : L.length = n) (hS : SB w a cap L) (hbit : (Lit.int .i64 bit).wf = true) (hm : m < 4294967296) :
    Calls Tryz.prog 4 #[.slice a n cap, .int .i64 bit, .int .u32 (m : Nat)] w fun e w' => e = .returned (.bool true) ∧ Below w.heap.size w w' := by
  by_cases h1 : 10000 < n
  · have hz : (10000 : Int) < (n : Int) := by omega
    clear hS hn hbit hm
    go_enter Tryz.func4, Tryz.ntmps4
    go_wp2_with fail
    refine (awake_any w).mono ?_
    rintro e w1 ⟨rfl, hB1⟩
    go_wp2_with fail
    go_ret
    exact ⟨rfl, hB1⟩
  have hz : (n : Int) ≤ 10000 := by omega
  have hbt : Byt w a n (fun i => L.getD i 0) := by have := hS.b; unfold BL at this; rw [hn] at this; exact this
  have hlb := lentBytes_any a n cap (fun i => L.getD i 0) w (by omega) hS.n (by rw [← hn]; exact hS.l) hbt
  have hlt := hS.b.lt
  have H0 := hide (And.intro hn (And.intro hS (And.intro hbit (And.intro hm (And.intro hbt hlt)))))
  clear hn hS hbit hm hbt hlt
  go_enter Tryz.func4, Tryz.ntmps4
  go_wp2_with fail
  refine hlb.mono ?_
  rintro e w1 ⟨g, rfl, hg, hblk, hB1⟩
  obtain ⟨hn, hS, hbit, hm, hbt, hlt⟩ := H0.out
  have hS1 := lent_sb hn hlt (by omega) hblk
  have hg2 := fget_any (some ⟨g, 0, none⟩) (n + 12) n L w1 hn.symm hS1 (by omega)
  obtain ⟨er, her⟩ : ∃ er, errG (getFile L) = er := ⟨_, rfl⟩
  rw [her] at hg2
  have H1 := hide (And.intro hblk (And.intro hB1 (And.intro hS1 her)))
  clear hlb hblk hB1 hS1 hn hS hbit hm hbt hlt her
  go_wp2_with fail
  refine hg2.mono ?_
  rintro e w2 ⟨v2, xs, rfl, ho2, hx2, hB2⟩
  obtain ⟨A2, C2, rfl, hP2, y0, y1⟩ := ho2.prts
  clear y0 y1
  have hB02 := H1.out.2.1.trans (hB2.mono H1.out.2.1.size)
  have hg3 := refGet_any a cap n L w2 H0.out.1 (H0.out.2.1.below hB02) (by omega)
  rw [H1.out.2.2.2] at hg3
  have H2 := hide (And.intro ho2 (And.intro hx2 (And.intro hP2 (And.intro hB2 hB02))))
  clear hg2 ho2 hx2 hP2 hB2 hB02
  go_wp2_with fail
  refine hg3.mono ?_
  rintro e w3 ⟨v3, ys, rfl, ho3, hx3, hB3⟩
  obtain ⟨A3, C3, rfl, hP3, y0, y1⟩ := ho3.prts
  clear y0 y1
  have hB13 : Below w1.heap.size w1 w3 := H2.out.2.2.2.1.trans (hB3.mono H2.out.2.2.2.1.size)
  have hg4 := fget_any (some ⟨g, 0, none⟩) (n + 12) n L w3 H0.out.1.symm (H1.out.2.2.1.below hB13) (by omega)
  rw [H1.out.2.2.2] at hg4
  have H3 := hide (And.intro hx3 (And.intro hP3 (And.intro hB3 hB13)))
  clear hg3 ho3 hx3 hP3 hB3 hB13
  go_wp2_with fail
  refine hg4.mono ?_
  rintro e w4 ⟨v4, zs, rfl, ho4, hx4, hB4⟩
  obtain ⟨A4, C4, rfl, hP4, y0, y1⟩ := ho4.prts
  clear y0 y1 hP4
  have hB14 : Below w1.heap.size w1 w4 := H3.out.2.2.2.trans (hB4.mono H3.out.2.2.2.size)
  have hb5 := fburst_any (some ⟨g, 0, none⟩) (n + 12) n L bit m w4 H0.out.1 (H1.out.2.2.1.below hB14) (by omega) H0.out.2.2.1 H0.out.2.2.2.1
  obtain ⟨X, hX⟩ : ∃ X, burstL L bit m = X := ⟨_, rfl⟩
  have hXl : X.length = n := by rw [← hX, burstL_len]; exact H0.out.1
  have hXlt : ∀ b ∈ X, b < 256 := by rw [← hX]; exact burstL_lt H0.out.2.2.2.2.2 bit m
  rw [hX] at hb5
  have H4 := hide (And.intro ho4 (And.intro hx4 (And.intro hB4 (And.intro hB14 (And.intro hX (And.intro hXl hXlt))))))
  clear hg4 ho4 hx4 hB4 hB14 hX hXl hXlt
  go_wp2_with fail
  refine hb5.mono ?_
  rintro e w5 ⟨v5, rfl, ho5, hB5⟩
  obtain ⟨A5, C5, rfl⟩ := owns_slice ho5
  have hB15 : Below w1.heap.size w1 w5 := H4.out.2.2.2.1.trans (hB5.mono H4.out.2.2.2.1.size)
  have hb6 := fburst_any (some ⟨g, 0, none⟩) (n + 12) n L bit m w5 H0.out.1 (H1.out.2.2.1.below hB15) (by omega) H0.out.2.2.1 H0.out.2.2.2.1
  rw [H4.out.2.2.2.2.1] at hb6
  have H5 := hide (And.intro ho5 (And.intro hB5 hB15))
  clear hb5 ho5 hB5 hB15
  go_wp2_with fail
  refine hb6.mono ?_
  rintro e w6 ⟨v6, rfl, ho6, hB6⟩
  obtain ⟨A6, C6, rfl⟩ := owns_slice ho6
  have hB46 : Below w4.heap.size w4 w6 := H5.out.2.1.trans (hB6.mono H5.out.2.1.size)
  have hB36 : Below w3.heap.size w3 w6 := H4.out.2.2.1.trans (hB46.mono H4.out.2.2.1.size)
  have hB26 : Below w2.heap.size w2 w6 := H3.out.2.2.1.trans (hB36.mono H3.out.2.2.1.size)
  have hB16 : Below w1.heap.size w1 w6 := H5.out.2.2.trans (hB6.mono H5.out.2.2.size)
  have hxy : xs.map (fun x : PV => x.1) = ys.map (fun x : PV => x.1) := by rw [H2.out.2.1, H3.out.1]
  have hxl : xs.length = ys.length := by have := congrArg List.length hxy; simpa using this
  have hfew := pv_few H0.out.2.2.2.2.2 H2.out.2.1
  rw [H0.out.1] at hfew
  have hsp := sameParts_any A2 A3 xs.length C2 C3 (prtAt xs) (prtAt ys) w6 (by omega) (H2.out.2.2.1.below hB26) (by rw [hxl]; exact H3.out.2.1.below hB36) (fun i hi => by have := hfew.2 _ (List.getElem_mem hi); rw [pv_len i hi]; omega) (fun i hi => pv_same hxy i hi)
  rw [← hxl]
  have H6 := hide (And.intro ho6 (And.intro hB6 (And.intro hB46 (And.intro hB26 (And.intro hB16 hfew)))))
  clear hb6 ho6 hB6 hB46 hB36 hB26 hB16 hxy hxl hfew
  go_wp2_with fail
  refine hsp.mono ?_
  rintro e w7 ⟨rfl, hB7⟩
  have hB17 : Below w1.heap.size w1 w7 := H6.out.2.2.2.2.1.trans (hB7.mono H6.out.2.2.2.2.1.size)
  have hB07 := H1.out.2.1.trans (hB17.mono H1.out.2.1.size)
  have hrb := refBurst_any a cap n L bit m w7 H0.out.1 (H0.out.2.1.below hB07) (by omega) H0.out.2.2.1 H0.out.2.2.2.1
  rw [H4.out.2.2.2.2.1] at hrb
  have H7 := hide (And.intro hB7 (And.intro hB17 hB07))
  clear hsp hB7 hB17 hB07
  go_wp2_with fail
  refine hrb.mono ?_
  rintro e w8 ⟨v8, rfl, ho8, hB8⟩
  obtain ⟨A8, C8, rfl⟩ := owns_slice ho8
  have hB68 : Below w6.heap.size w6 w8 := H7.out.1.trans (hB8.mono H7.out.1.size)
  have hB58 : Below w5.heap.size w5 w8 := H6.out.2.1.trans (hB68.mono H6.out.2.1.size)
  obtain ⟨hl5, _, _, hv5, q1, q2, q3, q4, bl5, q5⟩ := owns_bl (owns_thru H5.out.1 hB58) H4.out.2.2.2.2.2.2
  cases hv5
  obtain ⟨hl8, _, _, hv8, r1, r2, r3, r4, bl8, r5⟩ := owns_bl ho8 H4.out.2.2.2.2.2.2
  cases hv8
  have hsb := sameBytes_any A5 A8 n C5 C8 X w8 H4.out.2.2.2.2.2.1 (by omega) bl5 bl8
  have hB18 : Below w1.heap.size w1 w8 := H7.out.2.1.trans (hB8.mono H7.out.2.1.size)
  have H8 := hide (And.intro hB68 (And.intro hB58 hB18))
  clear hrb ho8 hB8 hB68 hB58 hB18 hl5 hl8 q1 q2 q3 q4 q5 r1 r2 r3 r4 r5 bl5 bl8
  go_wp2_with fail
  refine hsb.mono ?_
  rintro e w9 ⟨rfl, hB9⟩
  have hB19 : Below w1.heap.size w1 w9 := H8.out.2.2.trans (hB9.mono H8.out.2.2.size)
  have hB69 : Below w6.heap.size w6 w9 := H8.out.1.trans (hB9.mono H8.out.1.size)
  have hkb := keptBytes_any g a n cap (fun i => L.getD i 0) w9 (by omega) (H1.out.1.below hB19) ((H0.out.2.2.2.2.1.below H1.out.2.1).below hB19)
  have H9 := hide (And.intro hB19 hB69)
  clear hsb hB9 hB19 hB69
  go_wp2_with fail
  refine hkb.mono ?_
  rintro e w10 ⟨rfl, hB10⟩
  have hB6t : Below w6.heap.size w6 w10 := H9.out.2.trans (hB10.mono H9.out.2.size)
  obtain ⟨W11, hW11⟩ : ∃ W11, w10.alloc (.cells #[.slice A2 xs.length C2, .slice A4 zs.length C4] 22) = W11 := ⟨_, rfl⟩
  have hb11 : W11.heap[w10.heap.size]? = some (.cells #[.slice A2 xs.length C2, .slice A4 zs.length C4] 22 (0, 0)) := by rw [← hW11]; exact heap_alloc_new _ _
  have hB6u : Below w6.heap.size w6 W11 := by rw [← hW11]; exact hB6t.alloc hB6t.size _
  have hB4u : Below w4.heap.size w4 W11 := H6.out.2.2.1.trans (hB6u.mono H6.out.2.2.1.size)
  have hB2u : Below w2.heap.size w2 W11 := H6.out.2.2.2.1.trans (hB6u.mono H6.out.2.2.2.1.size)
  have hB1u : Below w1.heap.size w1 W11 := H6.out.2.2.2.2.1.trans (hB6u.mono H6.out.2.2.2.2.1.size)
  have o2 := H2.out.1.kept (Kept.of_below (F := fun _ => False) hB2u) (fun _ h => h.elim)
  have o4 := H4.out.1.kept (Kept.of_below (F := fun _ => False) hB4u) (fun _ h => h.elim)
  have hz4 := pv_few H0.out.2.2.2.2.2 H4.out.2.1
  rw [H0.out.1] at hz4
  have hfew := H6.out.2.2.2.2.2
  have hw23 : w2.heap.size ≤ w3.heap.size := H3.out.2.2.1.size
  have hap := apartParts_any w10.heap.size (.slice A2 xs.length C2) (.slice A4 zs.length C4) xs zs w1.heap.size w3.heap.size W11 hb11 o2 o4 ⟨fun k hk => by have := (PVown.lt H2.out.1 (.inl hk)).2; omega, fun x hx k hk => by have := (PVown.lt H2.out.1 (.inr ⟨x, hx, hk⟩)).2; omega⟩ (by omega) (fun x hx => by have := hfew.2 x hx; omega) (fun x hx => by have := hz4.2 x hx; omega)
  have H11 := hide (And.intro hB6u (And.intro hB1u hB4u))
  clear hkb hB10 hB6t hb11 hB6u hB4u hB2u hB1u o2 o4 hz4 hfew hw23
  go_wp2_with fail
  refine hap.mono ?_
  rintro e w12 ⟨rfl, hk12⟩
  have hF12 : ∀ k, PVown (.slice A2 xs.length C2) xs k ∨ PVown (.slice A4 zs.length C4) zs k → w1.heap.size ≤ k ∧ k < w4.heap.size := fun k hk => by
    rcases hk with hk | hk
    · have := PVown.lt H2.out.1 hk; have h2 := H3.out.2.2.1.size; have h3 := H4.out.2.2.1.size; omega
    · have := PVown.lt H4.out.1 hk; have h2 := H3.out.2.2.2.size; omega
  obtain ⟨W13, hW13⟩ : ∃ W13, w12.alloc (.cells #[.slice A5 n C5, .slice A6 n C6] 26) = W13 := ⟨_, rfl⟩
  have hb13 : W13.heap[w12.heap.size]? = some (.cells #[.slice A5 n C5, .slice A6 n C6] 26 (0, 0)) := by rw [← hW13]; exact heap_alloc_new _ _
  have hk13 : Kept (fun k => w1.heap.size ≤ k ∧ k < w4.heap.size) W11 W13 := by rw [← hW13]; exact (hk12.mono (G := fun k => w1.heap.size ≤ k ∧ k < w4.heap.size) (fun k _ h => hF12 k h)).alloc _
  have hk6 : Kept (fun k => w1.heap.size ≤ k ∧ k < w4.heap.size) w6 W13 := (Kept.of_below (F := fun k => w1.heap.size ≤ k ∧ k < w4.heap.size) H11.out.1).trans hk13 (fun _ _ h => h)
  have ho5' := owns_kept (owns_thru H5.out.1 H6.out.2.1) hk6 (fun k hk h => by have := (owns_cells H5.out.1 k hk).2.1; omega)
  have ho6' := owns_kept H6.out.1 hk6 (fun k hk h => by have := (owns_cells H6.out.1 k hk).2.1; have := H5.out.2.1.size; omega)
  have hap2 := apart2 (w1 := w5) w12.heap.size hb13 (by omega) (by omega) (owns_lower ho5' (Nat.zero_le _)) ho6' (fun k hk => (owns_cells H5.out.1 k hk).1)
  have hB1v : Below w1.heap.size w1 W13 := H11.out.2.1.trans (hk13.below (B := w1.heap.size) (fun k hk => hk.1) H11.out.2.1.size)
  have H13 := hide hB1v
  clear hap hk12 hF12 hb13 hk13 hk6 ho5' ho6' hB1v hW11
  go_wp2_with fail
  refine hap2.mono ?_
  rintro e w14 ⟨rfl, hk14⟩
  have hB1w : Below w1.heap.size w1 w14 := H13.out.trans (hk14.below (B := w1.heap.size) (fun k hk => by
    rcases hk with h | h
    · have := (owns_cells H5.out.1 k h).2.1; have := H4.out.2.2.2.1.size; omega
    · have := (owns_cells H6.out.1 k h).2.1; have := H5.out.2.2.size; omega) H13.out.size)
  have hkb := keptBytes_any g a n cap (fun i => L.getD i 0) w14 (by omega) (H1.out.1.below hB1w) ((H0.out.2.2.2.2.1.below H1.out.2.1).below hB1w)
  have H14 := hide hB1w
  clear hap2 hk14 hB1w hW13
  go_wp2_with fail
  refine hkb.mono ?_
  rintro e w15 ⟨rfl, hB15⟩
  have H15 := hide (H14.out.trans (hB15.mono H14.out.size))
  clear hkb hB15
  go_wp2_with fail
  refine (awake_any w15).mono ?_
  rintro e w16 ⟨rfl, hB16⟩
  go_wp2_with fail
  go_ret
  have h1 := H15.out.trans (hB16.mono H15.out.size)
  have h0 := H1.out.2.1
  exact ⟨rfl, h0.trans (h1.mono h0.size)⟩
end Go.Proofs.YtlmjplpledilhaaGreat
