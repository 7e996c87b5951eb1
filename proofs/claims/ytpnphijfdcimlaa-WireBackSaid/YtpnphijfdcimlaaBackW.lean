/-
  WireBack's walk.
-/
import Derived.Test.YtpnphijfdcimlaaBackM
import Derived.Deep.RegionHeld3
namespace Go.Proofs.Ytpnphijfdcimlaa
open Go.RowKit

/-- What holds in the second loop. -/
def BackAt (T : Nat → Thg) (Bh : List Nat) (pv : Value) (G : Nat → Prop) (w2 : World) (k q : Nat) (wr : World) : Prop :=
  RP wr pv G (some (encAll T k q ++ Bh)) ∧ Below w2.heap.size w2 wr

set_option maxRecDepth 100000 in
set_option maxHeartbeats 4000000 in
theorem back_walk (a : Option Addr) (n cap : Nat) (T : Nat → Thg) (pb : Option Addr) (lb cb : Nat) (Bh : List Nat) (w : World) (hT : Things w a n T) (hn : n ≤ 140737488351232) (hncap : n ≤ cap) (hlb : lb ≤ 140737488351232) (hlbc : lb ≤ cb) (hpb : pb = none → cb = 0) (hBh : BL w pb Bh) (hBl : Bh.length = lb)
    (hbk : ∀ i, i < n → (T i).B.length ≤ 140737488351232 ∧ (T i).lR ≤ 140737488351232) :
    Calls Try.prog 5 #[.slice a n cap, .slice pb lb cb] w fun e w' => e = .returned (.bool true) ∧ Below w.heap.size w w' := by
  have haw := awake_any w
  have hgr := fun (W : World) (hB : Below w.heap.size w W) => great_any a n cap T pb lb cb W (hT.kept (Kept.of_below (F := fun _ => False) hB) (fun _ _ h => h)) hn hlb hbk
  have HBK := hide hbk
  have HGR := hide hgr
  have HBH := hide hBh
  have HBL := hide hBl
  clear hbk hgr hBh hBl
  have HTH := hide hT
  clear hT
  go_enter Try.func5, Try.ntmps5
  go_wp2_with fail
  refine haw.mono ?_
  rintro e w1 ⟨rfl, hB1⟩
  clear haw
  go_wp2_with fail
  refine (HGR.out _ hB1).mono ?_
  rintro e w2 ⟨t, rfl, ht, m, rfl⟩
  cases t with
  | true =>
    clear ht
    go_wp2_with fail
    go_ret
    exact ⟨rfl, below_drewN hB1 _⟩
  | false =>
    have hsum := ht rfl
    clear ht HGR
    obtain ⟨w2, hw2⟩ : ∃ w2, w1.drewN m = w2 := ⟨_, rfl⟩
    have hB2 : Below w.heap.size w w2 := by rw [← hw2]; exact below_drewN hB1 _
    rw [hw2]
    clear hw2 hB1
    have hs2 := hB2.size
    obtain ⟨W, hW⟩ : ∃ W, w2.alloc (.cells #[.pointer none, .int .i64 0, .bool false] 47) = W := ⟨_, rfl⟩
    have hfr : WP W (.pointer (some ⟨w2.heap.size, 0, none⟩)) (fun k => k = w2.heap.size) (some []) := by rw [← hW]; exact Wr.fresh w2 _ rfl
    have hsW : W.heap.size = w2.heap.size + 1 := by rw [← hW]; simp
    have hKW : Kept (fun _ => False) w2 W := by rw [← hW]; exact Kept.of_below (below_alloc w2 _)
    have HSW := hide hsW
    have hFW : ∀ k, (fun k => k = w2.heap.size) k → k < W.heap.size := fun k hk => by have : k = w2.heap.size := hk; omega
    have HFW := hide hFW
    clear hsW hFW
    have HTX : Hid (∀ wx, Below w2.heap.size w2 wx → Things wx a n T) := fun wx hx => (HTH.out.kept (Kept.of_below (F := fun _ => False) hB2) (fun _ _ h => h)).kept (Kept.of_below (F := fun _ => False) hx) (fun _ _ h => h)
    go_wp2_with fail
    go_loopg [6] n (fun q s6 wr => ∃ k : Nat, k + q = n ∧ s6 = .int .i64 (k : Nat) ∧ WP wr (.pointer (some ⟨w2.heap.size, 0, none⟩)) (Fnew (fun k => k = w2.heap.size) W wr) (some (encAll T 0 k)) ∧ Kept (fun k => k = w2.heap.size) W wr ∧ ∀ j, j < k → Right (T j))
    case atStart => exact ⟨0, by omega, rfl, hfr.mono (fun k hk => .inl hk), Kept.refl _ _, fun j hj => by omega⟩
    case round =>
      obtain ⟨k, hkq, rfl, hwp, hK, hri⟩ := hrel
      have hk0 : (0 : Int) ≤ (k : Int) := by omega
      cases gk with
      | zero =>
        obtain rfl : k = n := by omega
        have hkz : ¬ ((k : Int) < (k : Int)) := by omega
        have hB2r : Below w2.heap.size w2 wr := ((hKW.mono (fun _ _ h => h.elim)).trans hK (fun _ _ h => h)).below (fun k hk => by omega) (Nat.le_refl _)
        have hTk : ∀ j, j < k → Right (T j) ∧ (T j).B.length ≤ 1099511627776 ∧ (T j).lR ≤ 1099511627776 ∧ ∀ x ∈ (T j).B, x < 256 := fun j hj => by
          obtain ⟨_, _, _, _, hok⟩ := (HTX.out wr hB2r).cells j hj
          have hm := bulk_mono T (show j + 1 ≤ k by omega)
          have he : bulk T (j + 1) = bulk T j + ((T j).B.length + (T j).lR) := rfl
          exact ⟨hri j hj, by omega, by omega, hok.bB.lt⟩
        have hEl := encAll_len T k (fun j hj => ⟨(hTk j hj).1, (hTk j hj).2.1, (hTk j hj).2.2.1⟩)
        have hEb := encAll_lt T k hTk
        have hby := bytes_wp _ _ _ wr hwp (by simp only [szO]; omega)
        have hsr := hB2r.size
        have HTK := hide hTk
        have hLb : ∀ x ∈ encAll T 0 k ++ Bh, x < 256 := fun x hx => by
          rcases List.mem_append.1 hx with h | h
          · exact hEb x h
          · exact HBH.out.lt x h
        have HLB := hide hLb
        have hbh := HBH.out.below (hB2.trans (hB2r.mono hs2))
        have HEE : Hid (encAll T 0 k = encAll T 0 k) := rfl
        clear hTk hLb hri
        have hbl := HBL.out
        generalize hE : encAll T 0 k = E at *
        have HE := hide hE
        clear hE HEE hEb
        simp only [szO, hasO] at hby
        obtain ⟨i0, hi, hq0, hq1, hq2⟩ := info_parts info_u8
        have hnone : pb = none → lb = 0 ∧ cb = 0 := fun h => by have := hpb h; omega
        have hone := lc_one Bh
        have hlen : (lc Bh).length = lb := by rw [lc_length]; exact hbl
        clear hbl
        go_wp2_with fail
        refine hby.mono ?_
        rintro e w4 ⟨v4, rfl, ho4, hB4⟩
        have hbh4 := (hbh.below hB4).news
        have hs4 := hB4.size
        clear hby hbh
        go_wp2_with (at_builtin; go_must (refine wpList_append_foot _ rfl (.tmp 36) (.tmp 37) 25 rfl 5 i0 (.int .u8 0) 1 Try.underlying25 hi hq0 hq1 hq2 rfl wr.heap.size v4 E.length (lc E) rfl ho4 pb lb cb (lc Bh) rfl hlen hnone hbh4 hone (by unfold maxLen; omega) (by omega) (by omega) ?_); intro A5 C5 w5 hown5 hg5)
        have hK5 := hg5.kept (F := fun j => v4.ownBlock = some j) (fun _ h => h)
        have hB5 : Below w2.heap.size w2 w5 := (hB2r.trans (hB4.mono hsr)).trans (hK5.below (fun j hj => by have := (owns_cells ho4 j hj).2.1; omega) (by omega))
        rw [← lc_append] at hown5
        obtain ⟨hl5, A5', C5', e5, hc5, hm5, hn5, _, hbl5, _⟩ := owns_bl hown5 HLB.out
        cases e5
        have hrd := read_any A5 (E.length + lb) C5 (E ++ Bh) w5 hl5.symm (by omega) hc5 hn5 hbl5
        clear ho4 hbh4 hg5 hK5 hown5 hbl5 hn5 hnone hone hlen hl5
        refine hrd.mono ?_
        rintro e w6 ⟨p6, rfl, hR6, hB6⟩
        have hB26 : Below w2.heap.size w2 w6 := hB5.trans (hB6.mono hB5.size)
        have hs5 := hB5.size
        have hG : ∀ j, (fun j => w5.heap.size ≤ j ∧ j < w6.heap.size) j → w2.heap.size ≤ j ∧ j < w6.heap.size := fun j hj => ⟨by have := hj.1; omega, hj.2⟩
        have HGG := hide hG
        clear hrd hG
        generalize (fun j => w5.heap.size ≤ j ∧ j < w6.heap.size) = G at *
        obtain ⟨wo, rfl⟩ : ∃ wo : World, wo = wr := ⟨_, rfl⟩
        go_wp2_with fail
        go_loopg [8] k (fun q s8 wx => ∃ i : Nat, i + q = k ∧ s8 = .int .i64 (i : Nat) ∧ BackAt T Bh (.pointer (some ⟨p6, 0, none⟩)) G w2 i q wx ∧ w6.heap.size ≤ wx.heap.size)
        case atStart => exact ⟨0, by omega, rfl, ⟨.inr ⟨p6, rfl, by rw [HE.out]; exact hR6⟩, hB26⟩, Nat.le_refl _⟩
        case round =>
          obtain ⟨i, hiq, rfl, hat, hsx⟩ := hrel
          have hi0 : (0 : Int) ≤ (i : Int) := by omega
          obtain ⟨hR, hB⟩ := hat
          cases gk with
          | zero =>
            obtain rfl : i = k := by omega
            have hkz : ¬ ((i : Int) < (i : Int)) := by omega
            have hle := left_any _ _ _ wr hR
            have e : (szO (some (encAll T i 0 ++ Bh))) = lb := by rw [← HBL.out]; rfl
            rw [e] at hle
            clear e hR
            go_wp2_with fail
            refine hle.mono ?_
            rintro e w9 ⟨rfl, rfl⟩
            go_wp2_with fail
            go_ret
            exact ⟨rfl, hB2.trans (hB.mono hs2)⟩
          | succ q =>
            have hkz : (i : Int) < (k : Int) := by omega
            have hel : encAll T i (q + 1) ++ Bh = encT (T i) ++ (encAll T (i + 1) q ++ Bh) := by show (encT (T i) ++ encAll T (i + 1) q) ++ Bh = _; rw [List.append_assoc]
            rw [hel] at hR
            have hsp := congrArg List.length (encAll_split T i (q + 1))
            rw [show i + (q + 1) = k from hiq, HE.out, List.length_append] at hsp
            have hln : (encT (T i) ++ (encAll T (i + 1) q ++ Bh)).length ≤ 100000 := by
              rw [← hel, List.length_append, HBL.out]
              omega
            obtain ⟨b, off, rfl, ⟨c0, c1, c2, c3, c4⟩, hok⟩ := (HTX.out wr hB).cells i (by omega)
            have hGl : ∀ j, G j → j < wr.heap.size := fun j hj => by have := (HGG.out j hj).2; omega
            have htk := HTK.out i (by omega)
            have hpk : pickN (T i).K 4 = 0 ∨ pickN (T i).K 4 = 1 ∨ pickN (T i).K 4 = 2 ∨ pickN (T i).K 4 = 3 := by have := pickN_lt (T i).K 4 (by omega); omega
            have hne : ¬ own1 (.pointer (some ⟨p6, 0, none⟩)) b := fun h => by
              unfold own1 at h
              cases h
              have h1 := (HGG.out p6 (hR.own p6 rfl)).1
              have h2 := (HTX.out w2 (Below.refl _ _)).cells i (by omega)
              obtain ⟨b', o', e', ⟨h3, _⟩, _⟩ := h2
              cases e'
              have h4 : p6 < w2.heap.size := block_lt_of_cell h3
              omega
            have hp6 : w2.heap.size ≤ p6 := (HGG.out p6 (hR.own p6 rfl)).1
            have hBn : ∀ wx, Kept (own1 (.pointer (some ⟨p6, 0, none⟩))) wr wx → Below w2.heap.size w2 wx := fun wx h => hB.trans (h.below (fun j hj => by unfold own1 at hj; cases hj; exact hp6) hB.size)
            have HBN := hide hBn
            clear hel hsp hBn
            have HNB : Hid (∀ g o s, (T i).pB = some ⟨g, o, s⟩ → 0 < (T i).B.length → ¬ own1 (.pointer (some ⟨p6, 0, none⟩)) g) := fun g o s e h0 h => by
              unfold own1 at h
              cases h
              obtain ⟨_, _, _, _, hk2⟩ := (HTX.out w2 (Below.refl _ _)).cells i (by omega)
              have := hk2.atB _ o s e h0
              omega
            have HNR : Hid (∀ g o s, (T i).pR = some ⟨g, o, s⟩ → 0 < (T i).lR → ¬ own1 (.pointer (some ⟨p6, 0, none⟩)) g) := fun g o s e h0 h => by
              unfold own1 at h
              cases h
              obtain ⟨_, _, _, _, hk2⟩ := (HTX.out w2 (Below.refl _ _)).cells i (by omega)
              have := hk2.atR _ o s e h0
              omega
            obtain ⟨c, hc⟩ : ∃ c : Int, ((pickN (T i).K 4 : Nat) : Int) = c := ⟨_, rfl⟩
            have hpick := fun W => pick4 (T i).K W hok.K _ rfl c hc
            have hpc : (c = 0 ∧ pickN (T i).K 4 = 0) ∨ (c = 1 ∧ pickN (T i).K 4 = 1) ∨ (c = 2 ∧ pickN (T i).K 4 = 2) ∨ (c = 3 ∧ pickN (T i).K 4 = 3) := by omega
            have HPC := hide hpc
            clear hpc hpk hc
            go_wp2_with fail
            refine (hpick _).mono ?_
            rintro e w9 ⟨rfl, rfl⟩
            clear hpick
            go_upto_block 4 with fail
            go_cut [9] (fun s wx => s = .bool true ∧ BackAt T Bh (.pointer (some ⟨p6, 0, none⟩)) G w2 (i + 1) q wx ∧ w6.heap.size ≤ wx.heap.size)
            case first =>
              rcases HPC.out with ⟨rfl, hpn⟩ | ⟨rfl, hpn⟩ | ⟨rfl, hpn⟩ | ⟨rfl, hpn⟩
              · have hn := rdNumber_any _ _ _ (T i).N wr.drew hR hGl hok.N (by simp only [szO]; omega)
                rw [get0 (T i) _ htk.1 hpn, Int.toNat_of_nonneg htk.1.1] at hn
                clear hR hpn
                go_upto_region 20 with fail
                go_region_held3 (fun w' => w'.cell? ⟨b, off + i * 5 + 1, none⟩ = some (.int .i64 (T i).N))
                  (first | exact c1 | exact hK9.undrew.cell c1 hne)
                  (first
                  | (go_at_call 15; refine hn.mono ?_; rintro e w9 ⟨rfl, hR9, hK9⟩))
                all_goals
                  go_wp2_with fail
                  go_meet
                  exact ⟨by simp, ⟨hR9, HBN.out _ hK9.undrew⟩, by have := hK9.undrew.size; omega⟩
              · have hn := rdFixed_any _ _ _ wr.drew hR
                rw [get1 (T i) _ hpn, u32N_int] at hn
                clear hR hpn
                go_upto_region 22 with fail
                go_region_held3 (fun w' => w'.cell? ⟨b, off + i * 5 + 1, none⟩ = some (.int .i64 (T i).N))
                  (first | exact c1 | exact hK9.undrew.cell c1 hne)
                  (first
                  | (go_at_call 16; refine hn.mono ?_; rintro e w9 ⟨rfl, hR9, hK9⟩))
                all_goals
                  go_wp2_with fail
                  go_meet
                  exact ⟨by simp [IntKind.wrap_u32], ⟨hR9, HBN.out _ hK9.undrew⟩, by have := hK9.undrew.size; omega⟩
              · have hn := rdText_any _ _ _ (T i).B.length wr.drew hR hGl (wf64 (by omega) (by omega)) (by simp only [szO]; omega)
                rw [get2 (T i) _ htk.2.1 hpn] at hn
                have hbB := hok.bB
                clear hR hpn
                go_upto_region 24 with fail
                go_region_held3 (fun w' => w'.cell? ⟨b, off + i * 5 + 3, none⟩ = some (.slice (T i).pB (T i).B.length (T i).cB))
                  (first | exact c3 | exact hK9.undrew.cell c3 hne | exact cell_thru (hK9.undrew.cell c3 hne) hB10)
                  (first
                  | (go_at_call 17; refine hn.mono ?_; rintro e w9 ⟨v9, rfl, ho9, hR9, hK9⟩; obtain ⟨_, A9, C9, rfl, _, _, _, _, hbl9, _⟩ := owns_bl ho9 hbB.lt; have heq := bytesEq_any A9 (T i).pB (T i).B.length C9 (T i).cB (T i).B w9 rfl (by omega) hbl9 (hbB.kept0 hK9.undrew (fun g o s e h0 => HNB.out g o s e h0)))
                  | (go_at_call 25; refine heq.mono ?_; rintro e w10 ⟨rfl, hB10⟩))
                all_goals
                  go_wp2_with fail
                  go_meet
                  exact ⟨by simp, ⟨hR9.kept (Kept.of_below (F := fun _ => False) hB10) (fun _ _ h => h), (HBN.out _ hK9.undrew).trans (hB10.mono (HBN.out _ hK9.undrew).size)⟩, by have := hK9.undrew.size; have := hB10.size; omega⟩
              · have hn := rdRising_any _ _ _ (T i).lR 1099511627776 wr.drew hR hGl (wf64 (by omega) (by omega)) (wf64 (by omega) (by omega)) (by simp only [szO]; omega)
                rw [get3 (T i) _ htk.1 htk.2.2.1 hpn] at hn
                have hbR := hok.bR
                have hlR : ((List.range (T i).lR).map (T i).R).length = (T i).lR := by simp
                have hgR : ∀ j, j < (T i).lR → ((List.range (T i).lR).map (T i).R).getD j 0 = (T i).R j := fun j hj => by simp [hj]
                have HGR := hide hgR
                have HLR := hide hlR
                clear hgR hlR
                rw [HLR.out] at hn
                generalize (List.range (T i).lR).map (T i).R = RL at *
                clear hR hpn
                go_upto_region 18 with fail
                go_region_held3 (fun w' => w'.cell? ⟨b, off + i * 5 + 4, none⟩ = some (.slice (T i).pR (T i).lR (T i).cR))
                  (first | exact c4 | exact hK9.undrew.cell c4 hne | exact cell_thru (hK9.undrew.cell c4 hne) hB10)
                  (first
                  | (go_at_call 18; refine hn.mono ?_; rintro e w9 ⟨v9, rfl, ho9, hR9, hK9⟩; obtain ⟨A9, C9, rfl, _, _, hbl9⟩ := (owns_ints ho9).2; have heq := intsEq_any A9 (T i).pR (T i).lR C9 (T i).cR (T i).R w9 (by omega) (hbl9.congr HGR.out) (hbR.kept0 hK9.undrew (fun g o s e h0 => HNR.out g o s e h0)))
                  | (go_at_call 26; refine heq.mono ?_; rintro e w10 ⟨rfl, hB10⟩))
                all_goals
                  go_wp2_with fail
                  go_meet
                  exact ⟨by simp, ⟨hR9.kept (Kept.of_below (F := fun _ => False) hB10) (fun _ _ h => h), (HBN.out _ hK9.undrew).trans (hB10.mono (HBN.out _ hK9.undrew).size)⟩, by have := hK9.undrew.size; have := hB10.size; omega⟩
            case rest =>
              obtain ⟨rfl, hat2, hsx2⟩ := hcut
              have hok2 := ok_any _ _ _ _ hat2.1
              simp only [Option.isSome_some] at hok2
              have HAT := hide hat2
              clear hat2
              go_wp2_with fail
              refine hok2.mono ?_
              rintro e w10 ⟨rfl, rfl⟩
              go_wp2_with fail
              go_roundg q
              case measure => omega
              case rel => exact ⟨i + 1, by omega, by go_num, HAT.out, hsx2⟩
      | succ q =>
        have hkz : (k : Int) < (n : Int) := by omega
        have hB2r : Below w2.heap.size w2 wr := ((hKW.mono (fun _ _ h => h.elim)).trans hK (fun _ _ h => h)).below (fun k hk => by omega) (Nat.le_refl _)
        obtain ⟨b, off, rfl, ⟨c0, c1, c2, c3, c4⟩, hok⟩ := (HTX.out wr hB2r).cells k (by omega)
        have hok2 := (HTX.out w2 (Below.refl _ _)).ok k (by omega)
        have hm := bulk_mono T (show k + 1 ≤ n by omega)
        have he : bulk T (k + 1) = bulk T k + ((T k).B.length + (T k).lR) := rfl
        have hl1 : (T k).B.length ≤ 4000 := by omega
        have hl2 : (T k).lR ≤ 4000 := by omega
        have hTk : ∀ j, j < k → Right (T j) ∧ (T j).B.length ≤ 1099511627776 ∧ (T j).lR ≤ 1099511627776 := fun j hj => by
          have hm := bulk_mono T (show j + 1 ≤ n by omega)
          have he : bulk T (j + 1) = bulk T j + ((T j).B.length + (T j).lR) := rfl
          exact ⟨hri j hj, by omega, by omega⟩
        have hEl := encAll_len T k hTk
        have hm2 := bulk_mono T (show k ≤ n by omega)
        have hrt := right_any (T k) wr hok
        unfold Thg.vals at hrt
        have hpu := fun (w3 : World) (hB3 : Below wr.heap.size wr w3) => puts_wp (.pointer (some ⟨w2.heap.size, 0, none⟩)) (Fnew (fun k => k = w2.heap.size) W wr) (some (encAll T 0 k)) (T k) w3 (hwp.kept (Kept.of_below (F := fun _ => False) hB3) (fun _ _ h => h)) (fun j hj => by have := hj.lt HFW.out hK.size; have := hB3.size; omega) (hok.below hB3)
          (fun g o s e h0 h => by
            have h1 := hok2.atB g o s e h0
            rcases h with h | h
            · have : g = w2.heap.size := h
              omega
            · have := h.1; have := HSW.out; omega)
          (fun g o s e h0 h => by
            have h1 := hok2.atR g o s e h0
            rcases h with h | h
            · have : g = w2.heap.size := h
              omega
            · have := h.1; have := HSW.out; omega) (by simp only [szO]; omega)
        have HPT : Hid (Right (T k) → putThg (some (encAll T 0 k)) (T k) = some (encAll T 0 (k + 1))) := fun h => by
          rw [putThg_right _ _ h (by omega) (by omega), encAll_snoc, Nat.zero_add]
        have HPU := hide hpu
        have HRI := hide hri
        clear hm he hm2 hEl hTk hpu hri hok2 hfr
        go_wp2_with fail
        refine hrt.mono ?_
        rintro e w3 ⟨t, rfl, ht, hB3⟩
        have d0 := cell_thru c0 hB3
        have d1 := cell_thru c1 hB3
        have d2 := cell_thru c2 hB3
        have d3 := cell_thru c3 hB3
        have d4 := cell_thru c4 hB3
        have hB23 : Below w2.heap.size w2 w3 := hB2r.trans (hB3.mono hB2r.size)
        clear hrt
        cases t with
        | false =>
          clear ht
          go_wp2_with fail
          go_ret
          exact ⟨rfl, hB2.trans (hB23.mono hs2)⟩
        | true =>
          have HR := hide (ht rfl)
          have hpu := HPU.out w3 hB3
          unfold Thg.vals at hpu
          rw [HPT.out HR.out] at hpu
          have hE1 : Hid (∃ E, E = encAll T 0 (k + 1)) := ⟨_, rfl⟩
          clear ht
          go_wp2_with fail
          refine hpu.mono ?_
          rintro e w4 ⟨rfl, hwp4, hK4⟩
          clear hpu
          go_wp2_with fail
          go_roundg q
          case measure => omega
          case rel =>
            have hK3 : Kept (fun k => k = w2.heap.size) wr w3 := Kept.of_below hB3
            refine ⟨k + 1, by omega, by go_num, hwp4.mono (fun j hj => ?_), (hK.trans hK3 (fun _ _ h => h)).step (hK4.mono (fun j _ hj => ?_)), fun j hj => ?_⟩
            · rcases hj with hj | hj
              · rcases hj with hj | hj
                · exact .inl hj
                · exact .inr ⟨hj.1, by have := hB3.size; have := hK4.size; omega⟩
              · exact .inr ⟨by have := hB3.size; have := hK.size; omega, hj.2⟩
            · rcases hj with hj | hj
              · exact .inl hj
              · exact .inr ⟨hj.1, by have := hB3.size; omega⟩
            · by_cases e : j = k
              · subst e; exact HR.out
              · exact HRI.out j (by omega)
end Go.Proofs.Ytpnphijfdcimlaa
