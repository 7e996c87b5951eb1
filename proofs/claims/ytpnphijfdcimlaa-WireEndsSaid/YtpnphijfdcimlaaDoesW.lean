/-
  does: a writer has just what the document's has, behind any things.
-/
import Derived.Test.YtpnphijfdcimlaaDoesM
namespace Go.Proofs.Ytpnphijfdcimlaa
open Go.RowKit

theorem Duo.more {B p N M : Nat} {pv : Value} {S S' : Option (List Nat)} {w : World} (h : Duo B pv p S S' N w) (hN : N ≤ M) : Duo B pv p S S' M w := by
  obtain ⟨G, H, h1, h2, h3, h4, h5⟩ := h
  exact ⟨G, H, h1, h2.mono (fun _ h => h) hN, h3, h4, h5⟩
/-- What does tells: a list of bytes of its own, and yes. -/
def DoesP (m : Nat) (w : World) (e : Ending) (w' : World) : Prop :=
  ∃ (A : Option Addr) (C : Nat) (L : List Nat), e = .returned (.tuple #[.slice A m C, .bool true]) ∧ L.length = m ∧ m ≤ C ∧ C ≤ 9223372036854775807 ∧ (A = none → C = 0) ∧ (C = 0 ∨ ∃ b, A = some ⟨b, 0, none⟩) ∧ BL w' A L ∧ (∀ g off s, A = some ⟨g, off, s⟩ → w.heap.size ≤ g ∧ g < w'.heap.size) ∧ Below w.heap.size w w'

set_option maxRecDepth 100000 in
set_option maxHeartbeats 4000000 in
theorem does_any (a : Option Addr) (n cap : Nat) (T : Nat → Thg) (w : World) (hT : Things w a n T) (hn : n + bulk T n ≤ 10000) :
    Calls Try.prog 8 #[.slice a n cap] w (DoesP (szO (putAllT T n)) w) := by
  have hfr := Duo.fresh w w.heap.size (w.heap.size + 1) rfl rfl
  obtain ⟨W, hW⟩ : ∃ W, (w.alloc (.cells #[.pointer none, .int .i64 0, .bool false] 47)).alloc (.cells #[.slice none 0 0, .bool false] 57) = W := ⟨_, rfl⟩
  rw [hW] at hfr
  have hBW : Below w.heap.size w W := by rw [← hW]; exact below_step (below_alloc w _) _
  have HT := hide hT
  have HTX : Hid (∀ wx, Below w.heap.size w wx → Things wx a n T) := fun wx hx => hT.kept (Kept.of_below (F := fun _ => False) hx) (fun _ _ h => h)
  clear hT
  have HW := hide hW
  go_enter Try.func8, Try.ntmps8
  go_wp2_with fail
  clear hW
  go_loopg [6] n (fun q s6 wr => ∃ k : Nat, k + q = n ∧ s6 = .int .i64 (k : Nat) ∧ Duo w.heap.size (.pointer (some ⟨w.heap.size, 0, none⟩)) (w.heap.size + 1) (putAllT T k) (putAllT T k) (6 * k + 6 * bulk T k) wr ∧ Below w.heap.size w wr)
  case atStart => exact ⟨0, by omega, rfl, hfr, hBW⟩
  case round =>
    obtain ⟨k, hkq, rfl, hduo, hB⟩ := hrel
    have hk0 : (0 : Int) ≤ (k : Int) := by omega
    have hsz := putAllT_sz T k
    have hmk := bulk_mono T (show k ≤ n by omega)
    have hwr := hB.size
    clear hfr hBW
    cases gk with
    | zero =>
      obtain rfl : k = n := by omega
      have hkz : ¬ ((k : Int) < (k : Int)) := by omega
      have hby1 := duo_bytes _ _ _ _ _ _ wr hduo (by omega)
      have HD := hide hduo
      clear hduo hmk
      generalize hS : putAllT T k = S at *
      have HS := hide hS
      clear hS
      have hN0 : 6 * k + 6 * bulk T k ≤ 60000 := by omega
      generalize 6 * k + 6 * bulk T k = N at *
      go_wp2_with fail
      refine hby1.mono ?_
      rintro e w1 ⟨v1, rfl, ho1, hb1, hd1, hbyS⟩
      have hby2 := duo_bytes _ _ _ _ _ _ w1 hd1 (by omega)
      clear hby1 hd1
      go_wp2_with fail
      refine hby2.mono ?_
      rintro e w2 ⟨v2, rfl, ho2, hb2, _, _⟩
      clear hby2
      have hbl := hasO_by S hbyS
      obtain ⟨A1, C1, rfl, hm1, hC1, hn1, ha1, _, hf1⟩ := (owns_bl ho1 hbl).2
      obtain ⟨A2, C2, rfl, _, _, _, _, _, hf2⟩ := (owns_bl ho2 hbl).2
      have hs1 := hb1.size
      have hs2 := hb2.size
      have ho1' := owns_lower (owns_thru (owns_thru ho1 hb2) (below_alloc w2 (.cells #[.slice A1 (szO S) C1, .slice A2 (szO S) C2] 25))) (Nat.zero_le _)
      have ho2' := owns_lower (owns_thru ho2 (below_alloc w2 (.cells #[.slice A1 (szO S) C1, .slice A2 (szO S) C2] 25))) (Nat.zero_le _)
      have hrow := row_cells w2.heap.size #[.slice A1 (szO S) C1, .slice A2 (szO S) C2] 25 w2 rfl 2
      have hap := apartBytes_any w2.heap.size 0 2 2 (fun r => if r = 0 then A1 else A2) (fun _ => szO S) (fun r => if r = 0 then C1 else C2) (fun _ => lc (hasO S)) _ (by omega) (by omega) (fun _ _ => by omega)
        (fun r s g hr hs h1 h2 => by
          have hx1 : ∀ g, (Value.slice A1 (szO S) C1).ownBlock = some g → g < w1.heap.size := fun g h => (owns_cells ho1 g h).1
          have hx2 : ∀ g, (Value.slice A2 (szO S) C2).ownBlock = some g → w1.heap.size ≤ g := fun g h => (owns_cells ho2 g h).2.1
          rcases (show r = 0 ∨ r = 1 by omega) with rfl | rfl <;> rcases (show s = 0 ∨ s = 1 by omega) with rfl | rfl
          · rfl
          · have := hx1 g h1; have := hx2 g h2; omega
          · have := hx1 g h2; have := hx2 g h1; omega
          · rfl)
        (fun r hr => by
          rw [Nat.zero_add, hrow r hr]
          rcases (show r = 0 ∨ r = 1 by omega) with rfl | rfl <;> rfl)
        (fun r hr => by
          rcases (show r = 0 ∨ r = 1 by omega) with rfl | rfl
          · exact ho1'
          · exact ho2')
      clear hrow ho1' ho2'
      go_wp2_with fail
      refine hap.mono ?_
      rintro e w3 ⟨rfl, hst⟩
      have hb3 : Below wr.heap.size wr w3 := ((hb1.trans (hb2.mono hs1)).alloc (by omega) _).trans ((hst.1.below (B := wr.heap.size) (fun x hx => by
        obtain ⟨r, hr, h⟩ := hx
        rcases (show r = 0 ∨ r = 1 by omega) with rfl | rfl
        · exact (owns_cells ho1 x h).2.1
        · have := (owns_cells ho2 x h).2.1; omega) (by simp; omega)))
      have hs3 := hb3.size
      have hown3 : w3.ownsRow 0 5 1 (.slice A1 (szO S) C1) (szO S) (mk 0 (szO S)) := hst.2 0 (by omega)
      have hd3 := HD.out.below hb3
      have hby3 := duo_bytes _ _ _ _ _ _ w3 hd3 (by omega)
      have hs23 : w2.heap.size ≤ w3.heap.size := by have := hst.1.size; simp at this; omega
      clear hap hst hd3
      go_wp2_with fail
      refine hby3.mono ?_
      rintro e w4 ⟨v4, rfl, ho4, hb4, hd4, _⟩
      have hby4 := duo_refbytes _ _ _ _ _ _ w4 hd4 (by omega)
      clear hby3 hd4
      go_wp2_with fail
      refine hby4.mono ?_
      rintro e w5 ⟨v5, rfl, ho5, hb5, _⟩
      clear hby4
      obtain ⟨A4, C4, rfl, _, _, _, _, hbl4, _⟩ := (owns_bl ho4 hbl).2
      obtain ⟨A5, C5, rfl, _, _, _, _, hbl5, _⟩ := (owns_bl ho5 hbl).2
      have heq := bytesEq_any A4 A5 (szO S) C4 C5 (hasO S) w5 (hasO_len S) (by omega) (hbl4.below hb5) hbl5
      clear hbl4 hbl5
      go_wp2_with fail
      refine heq.mono ?_
      rintro e w6 ⟨rfl, hb6⟩
      have hs4 := hb4.size
      have hs5 := hb5.size
      have hb36 : Below w3.heap.size w3 w6 := (hb4.trans (hb5.mono hs4)).trans (hb6.mono (by omega))
      have hown6 := owns_thru hown3 hb36
      rw [mk_lc] at hown6
      have hlt : ∀ x ∈ (List.range (szO S)).map (markN 0), x < 256 := fun x hx => by
        obtain ⟨i, _, rfl⟩ := List.mem_map.1 hx
        exact markN_lt _ _
      obtain ⟨A6, C6, e6, _, _, _, _, hbl6, _⟩ := (owns_bl hown6 hlt).2
      cases e6
      have HF : Hid (∀ g off s, A1 = some ⟨g, off, s⟩ → w.heap.size ≤ g ∧ g < w6.heap.size) := fun g off s e => by
        have h1 := hf1 g off s e
        have := hb36.size
        exact ⟨by omega, by omega⟩
      have HBL6 := hide hbl6
      have HLN : Hid (((List.range (szO S)).map (markN 0)).length = szO S) := by show _ = _; simp
      have HA1 := hide ha1
      clear ho1 ho2 ho4 ho5 hf1 hf2 hown3 hown6 hbl6 hlt hbl heq ha1
      go_wp2_with fail
      go_ret2
      refine ⟨A1, C1, _, rfl, HLN.out, hm1, hC1, hn1, HA1.out, HBL6.out, HF.out, hB.trans ((hb3.trans (hb36.mono hs3)).mono hwr)⟩
    | succ q =>
      have hkz : (k : Int) < (n : Int) := by omega
      obtain ⟨b, off, rfl, ⟨d0, d1, d2, d3, d4⟩, hokw⟩ := HT.out.cells k (by omega)
      have hok := hokw.below hB
      have c0 := cell_thru d0 hB
      have c1 := cell_thru d1 hB
      have c3 := cell_thru d3 hB
      have c4 := cell_thru d4 hB
      have hmk2 := bulk_mono T (show k + 1 ≤ n by omega)
      have hE : bulk T (k + 1) = bulk T k + ((T k).B.length + (T k).lR) := rfl
      have hS1 : putAllT T (k + 1) = putThg (putAllT T k) (T k) := rfl
      have HS1 := hide hS1
      have hlB : (T k).B.length ≤ 10000 := by omega
      have hlR : (T k).lR ≤ 10000 := by omega
      have hN1 : 6 * k + 6 * bulk T k + 6 + 6 * (T k).B.length + 6 * (T k).lR ≤ 6 * (k + 1) + 6 * bulk T (k + 1) := by omega
      have hN2 : 6 * (k + 1) + 6 * bulk T (k + 1) ≤ 60000 := by omega
      have hsz1 : szO (putAllT T (k + 1)) ≤ 6 * (k + 1) + 6 * bulk T (k + 1) := putAllT_sz T (k + 1)
      clear hE hS1 hmk2 d2 d0
      obtain ⟨S, hS⟩ : ∃ S, putAllT T k = S := ⟨_, rfl⟩
      rw [hS] at hsz hduo HS1
      obtain ⟨N, hN⟩ : ∃ N, 6 * k + 6 * bulk T k = N := ⟨_, rfl⟩
      rw [hN] at hsz hduo hN1
      obtain ⟨N', hN'⟩ : ∃ N', 6 * (k + 1) + 6 * bulk T (k + 1) = N' := ⟨_, rfl⟩
      rw [hN'] at hN1 hN2 hsz1
      obtain ⟨S1, hS1⟩ : ∃ S1, putAllT T (k + 1) = S1 := ⟨_, rfl⟩
      rw [hS1] at HS1 hsz1
      have HEQ := hide (And.intro hN' hS1)
      clear hS hN hN' hS1
      obtain ⟨c, hc⟩ : ∃ c : Int, ((pickN (T k).K 4 : Nat) : Int) = c := ⟨_, rfl⟩
      have hpick := fun W => pick4 (T k).K W hok.K _ rfl c hc
      have hpk := pickN_lt (T k).K 4 (by omega)
      have hpc : (c = 0 ∧ pickN (T k).K 4 = 0) ∨ (c = 1 ∧ pickN (T k).K 4 = 1) ∨ (c = 2 ∧ pickN (T k).K 4 = 2) ∨ (c = 3 ∧ pickN (T k).K 4 = 3) := by omega
      have HPC := hide hpc
      clear hpc hpk hc
      go_wp2_with fail
      refine (hpick _).mono ?_
      rintro e w9 ⟨rfl, rfl⟩
      clear hpick c0
      go_upto_block 2 with fail
      go_cut [] (fun wx => Duo w.heap.size (.pointer (some ⟨w.heap.size, 0, none⟩)) (w.heap.size + 1) S1 S1 N' wx ∧ Below w.heap.size w wx)
      case first =>
        rcases HPC.out with ⟨rfl, hpn⟩ | ⟨rfl, hpn⟩ | ⟨rfl, hpn⟩ | ⟨rfl, hpn⟩
        · have hP : S1 = putNum S (T k).N := by rw [HS1.out]; unfold putThg; rw [if_pos hpn]
          have HP := hide hP
          have h1 := duo_num _ _ _ S S N (T k).N wr hduo (by omega) _ rfl
          clear hP hpn
          go_wp2_with fail
          refine h1.mono ?_
          rintro e w1 ⟨rfl, hd1, hb1⟩
          have hB1 := hB.trans hb1
          have e1 := cell_thru d1 hB1
          have h2 := duo_refnum _ _ _ _ S N (T k).N w1 hd1 hok.N (by omega)
          clear h1 hd1 c1
          go_wp2_with fail
          refine h2.mono ?_
          rintro e w2 ⟨rfl, hd2, hb2⟩
          go_wp2_with fail
          go_meet
          exact ⟨by rw [HP.out]; exact hd2.more (by omega), hB1.trans hb2⟩
        · have hP : S1 = putRaw S (fixB (u32N (T k).N)) := by rw [HS1.out]; unfold putThg; rw [if_neg (by omega), if_pos hpn]
          have HP := hide hP
          have h1 := duo_fix _ _ _ S S N (u32N (T k).N) wr hduo (u32N_lt _) (by omega)
          rw [u32N_int] at h1
          clear hP hpn
          go_wp2_with fail
          refine h1.mono ?_
          rintro e w1 ⟨rfl, hd1, hb1⟩
          have hB1 := hB.trans hb1
          have e1 := cell_thru d1 hB1
          have h2 := duo_reffix _ _ _ _ S N (u32N (T k).N) w1 hd1 (u32N_lt _) (by omega)
          rw [u32N_int] at h2
          clear h1 hd1 c1
          go_wp2_with fail
          refine h2.mono ?_
          rintro e w2 ⟨rfl, hd2, hb2⟩
          go_wp2_with fail
          go_meet
          exact ⟨by rw [HP.out]; exact hd2.more (by omega), hB1.trans hb2⟩
        · have hP : S1 = putText S (T k).B := by rw [HS1.out]; unfold putThg; rw [if_neg (by omega), if_neg (by omega), if_pos hpn]
          have HP := hide hP
          have h1 := lentBytes_any (T k).pB (T k).B.length (T k).cB (fun i => (T k).B.getD i 0) wr (by omega) hok.nB hok.lB hok.bB
          have HOK := hide hokw
          have HBL := hide hok.bB.lt
          have hcB := hok.mB
          clear hP hpn
          go_wp2_with fail
          refine h1.mono ?_
          rintro e w1 ⟨g, rfl, hg, hblk, hb1⟩
          have hB1 : Below w.heap.size w w1 := hB.trans (hb1.mono hwr)
          have hx1 : DuoX w.heap.size (.pointer (some ⟨w.heap.size, 0, none⟩)) (w.heap.size + 1) S S N g w1 := DuoX.of hduo hb1 hg hblk.lt
          have h2 := duo_text _ _ _ S S N g ((T k).B.length + 12) _ (T k).B w1 hx1 rfl (by omega) (by omega) (by omega) (lent_bl HBL.out hblk)
          clear h1 hduo hx1 c3
          go_wp2_with fail
          refine h2.mono ?_
          rintro e w2 ⟨rfl, hx2, hk2, hb2⟩
          have hB2 := hB1.trans hb2
          have e2 := cell_thru d3 hB2
          have hblk2 := hk2 _ _ hblk
          have h3 := duo_reftext _ _ _ _ S N g (T k).pB (T k).cB (T k).B w2 hx2 HOK.out.atB HOK.out.lB HOK.out.nB (by omega) (HOK.out.below hB2).bB
          clear h2 hx2 hblk hk2
          go_wp2_with fail
          refine h3.mono ?_
          rintro e w3 ⟨rfl, hx3, hk3, hb3⟩
          have hB3 := hB2.trans hb3
          have e3 := cell_thru d3 hB3
          have hblk3 := hk3 _ _ hblk2
          have h4 := keptBytes_any g (T k).pB (T k).B.length (T k).cB (fun i => (T k).B.getD i 0) w3 (by omega) hblk3 (HOK.out.below hB3).bB
          have hd3 := hx3.duo
          have HD3 := hide hd3
          clear h3 hx3 hblk2 hk3 hblk3 e2 hd3
          go_wp2_with fail
          refine h4.mono ?_
          rintro e w4 ⟨rfl, hb4⟩
          have hd4 := HD3.out.below hb4
          have hB4 := hB3.trans (hb4.mono hB3.size)
          have HD4 := hide hd4
          clear hd4
          go_wp2_with fail
          go_meet
          exact ⟨by rw [HP.out]; exact HD4.out.more (by omega), hB4⟩
        · have hP : S1 = putRising S (T k).R (T k).lR := by rw [HS1.out]; unfold putThg; rw [if_neg (by omega), if_neg (by omega), if_neg (by omega)]
          have HP := hide hP
          have h1 := duo_rise _ _ _ S S N (T k).pR (T k).lR (T k).cR (T k).R wr hduo hokw.atR (by omega) (by omega) hok.wR hok.bR
          have HOK := hide hokw
          clear hP hpn
          go_wp2_with fail
          refine h1.mono ?_
          rintro e w1 ⟨rfl, hd1, hb1⟩
          have hB1 := hB.trans hb1
          have e1 := cell_thru d4 hB1
          have h2 := duo_refrise _ _ _ _ S N (T k).pR (T k).lR (T k).cR (T k).R w1 hd1 HOK.out.atR (by omega) HOK.out.wR (HOK.out.below hB1).bR
          clear h1 hd1 c4
          go_wp2_with fail
          refine h2.mono ?_
          rintro e w2 ⟨rfl, hd2, hb2⟩
          go_wp2_with fail
          go_meet
          exact ⟨by rw [HP.out]; exact hd2.more (by omega), hB1.trans hb2⟩
      case rest =>
        obtain ⟨hd5, hB5⟩ := hcut
        clear hduo c1 c3 c4 d1 d3 d4
        have hby1 := duo_bytes _ _ _ _ _ _ wc hd5 (by omega)
        go_wp2_with fail
        refine hby1.mono ?_
        rintro e w6 ⟨v6, rfl, ho6, hb6, hd6, hbyS⟩
        have hby2 := duo_refbytes _ _ _ _ _ _ w6 hd6 (by omega)
        clear hby1
        go_wp2_with fail
        refine hby2.mono ?_
        rintro e w7 ⟨v7, rfl, ho7, hb7, hd7⟩
        have hbl := hasO_by S1 hbyS
        obtain ⟨A6, C6, rfl, _, _, _, _, hbl6, _⟩ := (owns_bl ho6 hbl).2
        obtain ⟨A7, C7, rfl, _, _, _, _, hbl7, _⟩ := (owns_bl ho7 hbl).2
        have heq := bytesEq_any A6 A7 (szO S1) C6 C7 (hasO S1) w7 (hasO_len S1) (by omega) (hbl6.below hb7) hbl7
        have HD7 := hide hd7
        have hs5 := hB5.size
        have hs6 := hb6.size
        have hs7 := hb7.size
        clear hby2 hbl6 hbl7 ho6 ho7 hd5 hd6 hd7 hbl
        go_wp2_with fail
        refine heq.mono ?_
        rintro e w8 ⟨rfl, hb8⟩
        have HD8 := hide (HD7.out.below hb8)
        have hB8 : Below w.heap.size w w8 := hB5.trans (((hb6.trans (hb7.mono hs6)).trans (hb8.mono (by omega))).mono hs5)
        clear heq
        go_wp2_with fail
        go_roundg q
        case measure => omega
        case rel => exact ⟨k + 1, by omega, by go_num, by rw [HEQ.out.1, HEQ.out.2]; exact HD8.out, hB8⟩
end Go.Proofs.Ytpnphijfdcimlaa
