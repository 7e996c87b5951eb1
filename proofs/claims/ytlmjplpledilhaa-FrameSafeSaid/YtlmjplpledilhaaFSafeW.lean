/-
  FrameSafe's walk.
-/
import Derived.Test.YtlmjplpledilhaaFAwake
import Derived.Test.YtlmjplpledilhaaFBurst
import Derived.Test.YtlmjplpledilhaaFSafeM
import Derived.Test.YtlmjplpledilhaaSameB
namespace Go.Proofs.Ytlmjplpledilhaa
open Go.RowKit

theorem lc_nil : lc [] = [] := rfl
set_option maxRecDepth 100000 in
set_option maxHeartbeats 2000000 in
theorem safe_walk (a : Option Addr) (n cap : Nat) (P : Nat → Prt) (bit cut : Int) (m : Nat) (am : Option Addr) (lm cm : Nat) (M : List Nat) (w : World) (hP : Prts w a n P) (hn : n ≤ 140737488351232) (hl : ∀ i, i < n → (P i).B.length ≤ 140737488351232)
    (hbit : (Lit.int .i64 bit).wf = true) (hcut : (Lit.int .i64 cut).wf = true) (hm : m < 4294967296) (hM : M.length = lm) (hS : SB w am cm M) :
    Calls Try.prog 3 #[.slice a n cap, .int .i64 bit, .int .u32 (m : Nat), .int .i64 cut, .slice am lm cm] w fun e w' => e = .returned (.bool true) ∧ Below w.heap.size w w' := by
  have HP := hide (And.intro hP (And.intro hn (And.intro hl (And.intro hM (And.intro hS (And.intro hbit (And.intro hcut hm)))))))
  have hlm0 : (0 : Int) ≤ (lm : Int) := by omega
  clear hP hn hl hM hS hbit hcut hm
  go_enter Try.func3, Try.ntmps3
  go_wp2_with fail
  refine (awake_any w).mono ?_
  rintro e w1 ⟨rfl, hB1⟩
  have hP1 := HP.out.1.below hB1
  have hpo := partsOf_any a n cap P w1 HP.out.2.1 hP1 HP.out.2.2.1
  have HB1 := hide (And.intro hB1 hP1)
  clear hB1 hP1
  go_wp2_with fail
  refine hpo.mono ?_
  rintro e w' ⟨r, rfl, rfl, hr⟩
  clear hpo
  by_cases hrm : 10000 < r
  · have hrz : (10000 : Int) < (r : Int) := by omega
    clear hr
    go_wp2_with fail
    go_ret
    exact ⟨rfl, HB1.out.1⟩
  have hrz : (r : Int) ≤ 10000 := by omega
  have hcnt := hr (by omega)
  clear hr
  by_cases hlm : 10000 < lm
  · have hlz : (10000 : Int) < (lm : Int) := by omega
    clear hcnt
    go_wp2_with fail
    go_ret
    exact ⟨rfl, HB1.out.1⟩
  have hlz : (lm : Int) ≤ 10000 := by omega
  obtain ⟨hn1, hsz⟩ := sizeB_cnt (P := P) (n := n) (by omega)
  have hok := pts_ok (k := n) HB1.out.2 (by omega) (Nat.le_refl _)
  have hput := fput_any a n cap P w1 HB1.out.2 (by omega) (by omega)
  obtain ⟨ps, hps⟩ : ∃ ps, pts P n = ps := ⟨_, rfl⟩
  rw [hps] at hput hsz hok
  obtain ⟨L, hL⟩ : ∃ L, fileB ps = L := ⟨_, rfl⟩
  obtain ⟨s, hs⟩ : ∃ s, sizeB ps = s := ⟨_, rfl⟩
  have hLs : L.length = s := by rw [← hL, fileB_len, hs]
  have hlt := fileB_lt hok
  have hpd : ∀ p ∈ ps, p.2.length ≤ maxDisk := by
    intro p hp
    rw [← hps] at hp
    simp only [pts, List.mem_map, List.mem_range] at hp
    obtain ⟨i, hi, rfl⟩ := hp
    have := bodyB_one P hi
    rw [hps] at this
    unfold sizeB at hsz
    show (P i).B.length ≤ maxDisk
    unfold maxDisk; omega
  have hsm : sizeB ps ≤ maxDisk := by unfold maxDisk; omega
  have hgp := getFile_put ps hsm hpd
  have hwh := wholeB_put ps hsm
  have hgc := fun k h => getFile_cut ps k hsm h
  have hgm := fun M h => getFile_more ps M hsm h
  have hs8 : 8 ≤ s := by rw [← hs]; unfold sizeB; omega
  rw [hL] at hput hlt hgp hwh hgc hgm
  rw [hs] at hput hsz hgc
  have HM := hide (And.intro hgp (And.intro hwh (And.intro hgc (And.intro hgm (And.intro hLs (And.intro hlt hps))))))
  clear hgp hwh hgc hgm hLs hlt hps hL hs hsm hpd hok hcnt hn1
  go_wp2_with fail
  refine hput.mono ?_
  rintro e w2 ⟨v2, rfl, ho2, hB2⟩
  obtain ⟨hl2, A2, C2, rfl, hS2, _⟩ := SB.own ho2 HM.out.2.2.2.2.2.1
  rw [← hl2]
  have hg2 := fget_any A2 C2 s L w2 hl2 hS2 (by omega)
  rw [HM.out.1, show errG (some ps) = 0 from rfl] at hg2
  have hB12 := HB1.out.1.trans (hB2.mono HB1.out.1.size)
  have H2 := hide (And.intro hB12 (And.intro hS2 (And.intro (HB1.out.2.below hB2) hB2)))
  clear hput ho2 hl2 hS2 hB2 hB12
  go_wp2_with fail
  refine hg2.mono ?_
  rintro e w3 ⟨v3, xs, rfl, ho3, hx3, hB3⟩
  obtain ⟨A3, C3, rfl, hP3, _, _⟩ := ho3.prts
  have hpp := pts_prtAt xs
  have hx' : xs.map (fun x : PV => x.1) = ps := hx3
  rw [hx'] at hpp
  have hxn : xs.length = n := by have h1 := congrArg List.length hpp; have h2 := congrArg List.length HM.out.2.2.2.2.2.2; rw [pts_len] at h1 h2; omega
  rw [hxn] at hP3 hpp ⊢
  have hsp := sameParts_any a A3 n cap C3 P (prtAt xs) w3 (by have := HP.out.2.1; omega) (H2.out.2.2.1.below hB3) hP3 (fun i hi => by have := HP.out.2.2.1 i hi; omega) (fun i hi => by
    have e1 : (pts P n)[i]? = (pts (prtAt xs) n)[i]? := by rw [HM.out.2.2.2.2.2.2, hpp]
    simp only [pts, List.getElem?_map, List.getElem?_range hi, Option.map_some, Option.some.injEq] at e1
    exact ⟨congrArg Prod.fst e1, congrArg Prod.snd e1⟩)
  have H3 := hide (H2.out.1.trans (hB3.mono H2.out.1.size))
  have HS3 := hide (H2.out.2.1.below hB3)
  clear hg2 ho3 hx3 hB3 hP3 hpp hx' hxn
  go_wp2_with fail
  refine hsp.mono ?_
  rintro e w4 ⟨rfl, hB4⟩
  have hpk := pick_any bit (8 * s) w4 HP.out.2.2.2.2.2.1 (by omega) (by omega)
  rw [show (((8 * s : Nat)) : Int) = 8 * (s : Int) from by simp] at hpk
  have H4 := hide (H3.out.trans (hB4.mono H3.out.size))
  have HS4 := hide (HS3.out.below hB4)
  obtain ⟨f, hf⟩ : ∃ f, pickN bit (8 * s) = f := ⟨_, rfl⟩
  have hfb : f < 8 * s := by rw [← hf]; exact pickN_lt bit (8 * s) (by omega)
  rw [hf] at hpk
  clear hsp hB4 hf
  go_wp2_with fail
  refine hpk.mono ?_
  rintro e w4' ⟨rfl, rfl⟩
  have hbu := fburst_any A2 C2 s L (f : Int) m w4 HM.out.2.2.2.2.1 HS4.out (by omega) (wf64 (by omega) (by omega)) HP.out.2.2.2.2.2.2.2
  obtain ⟨X, hX⟩ : ∃ X, burstL L (f : Int) m = X := ⟨_, rfl⟩
  have hXl : X.length = s := by rw [← hX, burstL_len, HM.out.2.2.2.2.1]
  have hXb : X ≠ L → getFile X = none := fun h => by rw [← hX]; exact getFile_burst HM.out.2.2.2.2.2.1 HM.out.2.1 f m (by rw [hX]; exact h)
  have hXlt : ∀ b ∈ X, b < 256 := fun b hb => by
    have hne : ¬ ((f : Int) < 0) := by omega
    rw [← hX] at hb
    unfold burstL at hb
    rw [if_neg hne] at hb
    simp only [tx, List.mem_map] at hb
    obtain ⟨i, _, rfl⟩ := hb
    refine turnN_lt _ _ _ (fun j => ?_) _ i
    rw [List.getD_eq_getElem?_getD]
    by_cases hj : j < L.length
    · rw [List.getElem?_eq_getElem hj]; exact HM.out.2.2.2.2.2.1 _ (List.getElem_mem hj)
    · rw [List.getElem?_eq_none (by omega)]; simp
  rw [hX] at hbu
  clear hpk hX hfb
  go_wp2_with fail
  refine hbu.mono ?_
  rintro e w5 ⟨v5, rfl, ho5, hB5⟩
  obtain ⟨hl5, A5, C5, rfl, hS5, _⟩ := SB.own ho5 hXlt
  rw [← hl5]
  have hg5 := fget_any A5 C5 s X w5 hl5 hS5 (by omega)
  have H5 := hide (H4.out.trans (hB5.mono H4.out.size))
  have HS5 := hide (HS4.out.below hB5)
  have HX5 := hide hS5
  clear hbu ho5 hB5 hl5 hS5
  go_wp2_with fail
  refine hg5.mono ?_
  rintro e w6 ⟨v6, xs6, rfl, ho6, hx6, hB6⟩
  obtain ⟨A6, C6, rfl, _, _, _⟩ := ho6.prts
  have H6 := hide (H5.out.trans (hB6.mono H5.out.size))
  have HS6 := hide (HS5.out.below hB6)
  have hk0 := HX5.out.below hB6
  have hXA : X = L → Calls Try.prog 12 #[.slice A5 s C5, .slice A2 s C2] w6 fun e w' => e = .returned (.bool true) ∧ Below w6.heap.size w6 w' := fun h =>
    sameBytes_any A5 A2 s C5 C2 L w6 HM.out.2.2.2.2.1 (by omega) (by rw [← h]; exact hk0.b) HS6.out.b
  have hXN := sameBytes_bool A5 A2 s C5 C2 X L w6 hXl HM.out.2.2.2.2.1 (by omega) hk0.b HS6.out.b
  have hx6' : X ≠ L → xs6.length = 0 := fun h => by
    have : xs6.map (fun x : PV => x.1) = (getFile X).getD [] := hx6
    rw [hXb h] at this
    have := congrArg List.length this
    simpa using this
  have hxe : X ≠ L → errG (getFile X) = 9 := fun h => by rw [hXb h]; rfl
  have HM2 := hide (And.intro (HM.out.2.2.1 ((pickN cut s))) (HM.out.2.2.2.1 M))
  have hpl := pickN_lt cut s (by omega)
  obtain ⟨c, hc⟩ : ∃ c, pickN cut s = c := ⟨_, rfl⟩
  obtain ⟨i0, hi, hq0, hq1, hq2⟩ := info_parts info_u8
  obtain ⟨err, herr⟩ : ∃ err, errG (getFile X) = err := ⟨_, rfl⟩
  obtain ⟨q, hq⟩ : ∃ q, xs6.length = q := ⟨_, rfl⟩
  rw [herr] at hxe
  rw [hq] at hx6'
  have HXs := hide (And.intro hx6' hxe)
  rw [herr, hq]
  rw [hc] at HM2 hpl
  have hcP : ∀ w', Calls Try.prog 11 #[.int .i64 cut, .int .i64 (s : Nat)] w' fun e w'' => e = .returned (.int .i64 (c : Nat)) ∧ w' = w'' := fun w' => by
    rw [← hc]; exact pick_any cut s w' HP.out.2.2.2.2.2.2.1 (by omega) (by omega)
  clear hg5 ho6 hB6 hXb hXlt hXl hx6' hxe hx6 hk0 HX5 HS5 H5 HS4 H4 HS3 H3 H2 hc herr hq
  by_cases hXL : X = L
  · have hsb := hXA hXL
    clear hXA hXN HXs
    go_wp2_with fail
    refine hsb.mono ?_
    rintro e w7 ⟨rfl, hB7⟩
    have hpk := hcP w7
    have H7 := hide (And.intro (H6.out.trans (hB7.mono H6.out.size)) (HS6.out.below hB7))
    clear hsb hB7 hcP hXL
    go_wp2_with fail
    refine hpk.mono ?_
    rintro e w7' ⟨rfl, rfl⟩
    obtain ⟨A8, A8', s8, s8', S8, _, _, _⟩ := H7.out.2.cut c (by rw [HM.out.2.2.2.2.1]; omega)
    rw [HM.out.2.2.2.2.1] at s8
    have hg8 := fget_any A8 C2 c (L.take c) w7 (by rw [List.length_take, HM.out.2.2.2.2.1]; omega) S8 (by omega)
    rw [HM2.out.1 hpl, show errG none = 9 from rfl] at hg8
    have hcs : (c : Int) ≤ (s : Int) := by omega
    have hc0 : (0 : Int) ≤ (c : Int) := by omega
    have HK := hide hpl
    clear hpk s8' S8 hpl
    go_wp2_with fail
    refine hg8.mono ?_
    rintro e w8 ⟨v8, xs8, rfl, _, _, hB8⟩
    have hB78 := H7.out.1.trans (hB8.mono H7.out.1.size)
    have hown : (w8.alloc (.cells #[] 5)).ownsRow w8.heap.size 5 1 (.slice (some ⟨w8.heap.size, 0, none⟩) 0 0) 0 [] := World.ownsRow_made w8 #[] 0 (Nat.le_refl _) (by unfold maxLen; omega) rfl
    have hba := below_alloc w8 (.cells #[] 5)
    have hSL := (H7.out.2.below hB8).below hba
    have hnewsL := hSL.b.news
    have hSM := (HP.out.2.2.2.2.1.below hB78).below hba
    have hatM := HP.out.2.2.2.2.1.at
    have honeL := lc_one L
    have honeM := lc_one M
    have hlenL : (lc L).length = s := by rw [lc_length, HM.out.2.2.2.2.1]
    have hlenM : (lc M).length = lm := by rw [lc_length, HP.out.2.2.2.1]
    have hnoneL : A2 = none → s = 0 ∧ C2 = 0 := fun e => by have := hSL.n e; have := hSL.l; rw [HM.out.2.2.2.2.1] at this; omega
    have hnoneM : am = none → lm = 0 ∧ cm = 0 := fun e => by have := hSM.n e; have := hSM.l; rw [HP.out.2.2.2.1] at this; omega
    have hw8 : w.heap.size ≤ w8.heap.size := hB78.size
    have H8 := hide (And.intro hB78 (And.intro hba hSM))
    clear hg8 s8 hB8 hSL hba hSM hB78
    go_wp2_with (at_builtin; first
      | (refine wpList_append_foot _ rfl (.tmp 91) (.tmp 92) 24 rfl 5 i0 (.int .u8 0) 1 Try.underlying24 hi hq0 hq1 hq2 rfl w8.heap.size _ 0 [] rfl hown A2 s C2 (lc L) rfl hlenL hnoneL hnewsL honeL (by unfold maxLen; omega) (by omega) (by simp) ?_
         intro B1 D1 w9 hown1 hg1
         simp only [Nat.zero_add, List.nil_append] at hown1 hg1 ⊢
         have hk1 := hg1.kept (F := fun k => w8.heap.size ≤ k) (fun g hg => by cases hg; exact Nat.le_refl _)
         have hnewsM := (H8.out.2.2.b.kept0 hk1 (fun g o s e h0 hw => by have := hatM g o s e h0; omega)).news
         have hbs9 : w8.heap.size ≤ w9.heap.size := Nat.le_trans (by simp) hk1.size)
      | (refine wpList_append_foot _ rfl (.tmp 93) (.tmp 94) 24 rfl 5 i0 (.int .u8 0) 1 Try.underlying24 hi hq0 hq1 hq2 rfl w8.heap.size (.slice B1 s D1) s (lc L) rfl hown1 am lm cm (lc M) rfl hlenM hnoneM hnewsM honeM (by unfold maxLen; omega) (by omega) hbs9 ?_
         intro B2 D2 w10 hown2 hg2))
    have hk2 := hg2.kept (F := fun k => w8.heap.size ≤ k) (fun g hg => (owns_cells hown1 g hg).2.1)
    have hB10 : Below w.heap.size w w10 := H8.out.1.trans (((Kept.of_below (F := fun k => w8.heap.size ≤ k) H8.out.2.1).trans (hk1.trans hk2 (fun _ _ h => h)) (fun _ _ h => h)).below (fun _ h => Nat.le_trans hw8 h) hw8)
    rw [← lc_append] at hown2
    obtain ⟨hl10, A10, C10, hv10, hS10, _⟩ := SB.own hown2 (fun b hb => (List.mem_append.1 hb).elim (HM.out.2.2.2.2.2.1 b) (HP.out.2.2.2.2.1.b.lt b))
    rw [← hl10] at hv10
    cases hv10
    have hg10 := fget_any B2 D2 (s + lm) (L ++ M) w10 hl10 hS10 (by omega)
    obtain ⟨er, her⟩ : ∃ er, errG (getFile (L ++ M)) = er := ⟨_, rfl⟩
    have hr9 : lm ≠ 0 → er = 9 := fun h => by rw [← her, HM2.out.2 (by have := HP.out.2.2.2.1; omega)]; rfl
    rw [her] at hg10
    have H10 := hide hB10
    clear hk1 hk2 hown hown1 hown2 hg1 hg2 hB10 hS10 hl10 hi hq0 hq1 hq2 hnewsL hnewsM honeL honeM hlenL hlenM hnoneL hnoneM hatM her
    by_cases hM0 : lm = 0
    · have hz : ((lm : Int) == 0) = true := by simp; omega
      clear hr9
      go_wp2_with fail
      refine hg10.mono ?_
      rintro e w11 ⟨v11, xs11, rfl, _, _, hB11⟩
      clear hg10
      go_wp2_with fail
      go_ret
      exact ⟨rfl, H10.out.trans (hB11.mono H10.out.size)⟩
    · have hz : ((lm : Int) == 0) = false := by simp; omega
      obtain rfl := hr9 hM0
      go_wp2_with fail
      refine hg10.mono ?_
      rintro e w11 ⟨v11, xs11, rfl, _, _, hB11⟩
      clear hg10
      go_wp2_with fail
      go_ret
      exact ⟨rfl, H10.out.trans (hB11.mono H10.out.size)⟩
  · have hq0' : (q : Int) = 0 := by have := HXs.out.1 hXL; omega
    have he9 : err = 9 := HXs.out.2 hXL
    subst he9
    obtain rfl : q = 0 := by omega
    clear hXA HXs hq0'
    go_wp2_with fail
    refine hXN.mono ?_
    rintro e w7 ⟨t, rfl, hB7⟩
    have hpk := hcP w7
    have H7 := hide (And.intro (H6.out.trans (hB7.mono H6.out.size)) (HS6.out.below hB7))
    clear hXN hB7 hcP hXL
    cases t
    all_goals
      go_wp2_with fail
      refine hpk.mono ?_
      rintro e w7' ⟨rfl, rfl⟩
      obtain ⟨A8, A8', s8, s8', S8, _, _, _⟩ := H7.out.2.cut c (by rw [HM.out.2.2.2.2.1]; omega)
      rw [HM.out.2.2.2.2.1] at s8
      have hg8 := fget_any A8 C2 c (L.take c) w7 (by rw [List.length_take, HM.out.2.2.2.2.1]; omega) S8 (by omega)
      rw [HM2.out.1 hpl, show errG none = 9 from rfl] at hg8
      have hcs : (c : Int) ≤ (s : Int) := by omega
      have hc0 : (0 : Int) ≤ (c : Int) := by omega
      have HK := hide hpl
      clear hpk s8' S8 hpl
      go_wp2_with fail
      refine hg8.mono ?_
      rintro e w8 ⟨v8, xs8, rfl, _, _, hB8⟩
      have hB78 := H7.out.1.trans (hB8.mono H7.out.1.size)
      have hown : (w8.alloc (.cells #[] 5)).ownsRow w8.heap.size 5 1 (.slice (some ⟨w8.heap.size, 0, none⟩) 0 0) 0 [] := World.ownsRow_made w8 #[] 0 (Nat.le_refl _) (by unfold maxLen; omega) rfl
      have hba := below_alloc w8 (.cells #[] 5)
      have hSL := (H7.out.2.below hB8).below hba
      have hnewsL := hSL.b.news
      have hSM := (HP.out.2.2.2.2.1.below hB78).below hba
      have hatM := HP.out.2.2.2.2.1.at
      have honeL := lc_one L
      have honeM := lc_one M
      have hlenL : (lc L).length = s := by rw [lc_length, HM.out.2.2.2.2.1]
      have hlenM : (lc M).length = lm := by rw [lc_length, HP.out.2.2.2.1]
      have hnoneL : A2 = none → s = 0 ∧ C2 = 0 := fun e => by have := hSL.n e; have := hSL.l; rw [HM.out.2.2.2.2.1] at this; omega
      have hnoneM : am = none → lm = 0 ∧ cm = 0 := fun e => by have := hSM.n e; have := hSM.l; rw [HP.out.2.2.2.1] at this; omega
      have hw8 : w.heap.size ≤ w8.heap.size := hB78.size
      have H8 := hide (And.intro hB78 (And.intro hba hSM))
      clear hg8 s8 hB8 hSL hba hSM hB78
      go_wp2_with (at_builtin; first
        | (refine wpList_append_foot _ rfl (.tmp 91) (.tmp 92) 24 rfl 5 i0 (.int .u8 0) 1 Try.underlying24 hi hq0 hq1 hq2 rfl w8.heap.size _ 0 [] rfl hown A2 s C2 (lc L) rfl hlenL hnoneL hnewsL honeL (by unfold maxLen; omega) (by omega) (by simp) ?_
           intro B1 D1 w9 hown1 hg1
           simp only [Nat.zero_add, List.nil_append] at hown1 hg1 ⊢
           have hk1 := hg1.kept (F := fun k => w8.heap.size ≤ k) (fun g hg => by cases hg; exact Nat.le_refl _)
           have hnewsM := (H8.out.2.2.b.kept0 hk1 (fun g o s e h0 hw => by have := hatM g o s e h0; omega)).news
           have hbs9 : w8.heap.size ≤ w9.heap.size := Nat.le_trans (by simp) hk1.size)
        | (refine wpList_append_foot _ rfl (.tmp 93) (.tmp 94) 24 rfl 5 i0 (.int .u8 0) 1 Try.underlying24 hi hq0 hq1 hq2 rfl w8.heap.size (.slice B1 s D1) s (lc L) rfl hown1 am lm cm (lc M) rfl hlenM hnoneM hnewsM honeM (by unfold maxLen; omega) (by omega) hbs9 ?_
           intro B2 D2 w10 hown2 hg2))
      have hk2 := hg2.kept (F := fun k => w8.heap.size ≤ k) (fun g hg => (owns_cells hown1 g hg).2.1)
      have hB10 : Below w.heap.size w w10 := H8.out.1.trans (((Kept.of_below (F := fun k => w8.heap.size ≤ k) H8.out.2.1).trans (hk1.trans hk2 (fun _ _ h => h)) (fun _ _ h => h)).below (fun _ h => Nat.le_trans hw8 h) hw8)
      rw [← lc_append] at hown2
      obtain ⟨hl10, A10, C10, hv10, hS10, _⟩ := SB.own hown2 (fun b hb => (List.mem_append.1 hb).elim (HM.out.2.2.2.2.2.1 b) (HP.out.2.2.2.2.1.b.lt b))
      rw [← hl10] at hv10
      cases hv10
      have hg10 := fget_any B2 D2 (s + lm) (L ++ M) w10 hl10 hS10 (by omega)
      obtain ⟨er, her⟩ : ∃ er, errG (getFile (L ++ M)) = er := ⟨_, rfl⟩
      have hr9 : lm ≠ 0 → er = 9 := fun h => by rw [← her, HM2.out.2 (by have := HP.out.2.2.2.1; omega)]; rfl
      rw [her] at hg10
      have H10 := hide hB10
      clear hk1 hk2 hown hown1 hown2 hg1 hg2 hB10 hS10 hl10 hi hq0 hq1 hq2 hnewsL hnewsM honeL honeM hlenL hlenM hnoneL hnoneM hatM her
      by_cases hM0 : lm = 0
      · have hz : ((lm : Int) == 0) = true := by simp; omega
        clear hr9
        go_wp2_with fail
        refine hg10.mono ?_
        rintro e w11 ⟨v11, xs11, rfl, _, _, hB11⟩
        clear hg10
        go_wp2_with fail
        go_ret
        exact ⟨rfl, H10.out.trans (hB11.mono H10.out.size)⟩
      · have hz : ((lm : Int) == 0) = false := by simp; omega
        obtain rfl := hr9 hM0
        go_wp2_with fail
        refine hg10.mono ?_
        rintro e w11 ⟨v11, xs11, rfl, _, _, hB11⟩
        clear hg10
        go_wp2_with fail
        go_ret
        exact ⟨rfl, H10.out.trans (hB11.mono H10.out.size)⟩
end Go.Proofs.Ytlmjplpledilhaa
