/-
  GramTells' walk.
-/
import Derived.Test.YtpdlapnliiengaaGreatGApart
import Derived.Test.YtpdlapnliiengaaGreatGSames
import Derived.Test.YtpdlapnliiengaaGreatGRefs
import Derived.Test.YtpdlapnliiengaaGreatGAwake
import Derived.Test.YtpdlapnliiengaaGreatLent
namespace Go.Proofs.YtpdlapnliiengaaGreat
open Go.RowKit Go.Shelf

/-- What stays all along: the bytes, those that were lent. -/
structure GG (w : World) (a : Option Addr) (n g : Nat) (z : Nat → Nat) (X : World) : Prop where
  below : Below w.heap.size w X
  b : Byt X a n z
  x : Blk X g (n + 12) (lent z n)
theorem GG.step {w : World} {a : Option Addr} {n g : Nat} {z : Nat → Nat} {X Y : World} (h : GG w a n g z X) (hb : Below X.heap.size X Y) : GG w a n g z Y := ⟨below_thru h.below hb, h.b.below hb, h.x.below hb⟩
theorem GG.xb {w : World} {a : Option Addr} {n g : Nat} {z : Nat → Nat} {X : World} (h : GG w a n g z X) : Byt X (some ⟨g, 0, none⟩) n z := ⟨h.b.1, .inr ⟨g, 0, rfl, fun i hi => by
  have := h.x.cell (i := i) (by omega)
  rw [lent, if_pos hi] at this
  rw [Nat.zero_add]
  exact this⟩⟩
theorem PostR.m {w : World} {base m : Nat} {z : Nat → Nat} {v : Value} {vf : Nat → Value} (h : PostR w base z m v vf) : PostM w base z m (gset z m) v vf := ⟨h.row, h.places, h.apart⟩
theorem rnl_strs (z : Nat → Nat) (l : List Nat) : rnl z l = (l.map fun i => gts (gN z i)).map .string := by
  unfold rnl
  rw [List.map_map]
  rfl
theorem gset_strs (l : List Nat) : l.map gtx = (l.map gts).map .string := by
  rw [List.map_map]
  rfl
theorem atV_parts (z : Nat → Nat) (n : Nat) (i : Int) : ∃ (T : ByteArray) (bb : Bool), atV z n i = .tuple #[.string T, .bool bb] := by
  unfold atV
  split
  · exact ⟨_, _, rfl⟩
  · exact ⟨_, _, rfl⟩

set_option maxRecDepth 100000 in
set_option maxHeartbeats 4000000 in
theorem tells_any (a : Option Addr) (n cap : Nat) (z : Nat → Nat) (i : Int) (S : ByteArray) (w : World) (hn : a = none → cap = 0) (hcap : n ≤ cap) (hz : Byt w a n z) (hn2 : n ≤ 140737488355328) (hS : S.size ≤ 140737488355328) (hi : -9223372036854775808 ≤ i ∧ i ≤ 9223372036854775807) :
    Calls Tryz.prog 3 #[.slice a n cap, .int .i64 i, .string S] w fun e w' => e = .returned (.bool true) ∧ Below w.heap.size w w' := by
  obtain ⟨s, hs⟩ : ∃ s, S.size = s := ⟨_, rfl⟩
  rw [hs] at hS
  by_cases hbad : 2000 < n + s
  · have h : (2000 : Int) < (n : Int) + (s : Int) := by omega
    clear hz
    go_enter Tryz.func3, Tryz.ntmps3
    go_wp2_with fail
    refine (awake_any w).mono ?_
    rintro e w1 ⟨rfl, hB1⟩
    go_wp2_with fail
    go_ret
    exact ⟨rfl, hB1⟩
  have h : (n : Int) + (s : Int) ≤ 2000 := by omega
  have hlen : n ≤ 2000 := by omega
  have hslen : s ≤ 2000 := by omega
  obtain ⟨m, hm⟩ : ∃ m, n - 2 = m := ⟨_, rfl⟩
  obtain ⟨N, hN⟩ : ∃ N, (gset z m).length = N := ⟨_, rfl⟩
  have hNm : N ≤ m := by rw [← hN]; exact gset_len z m
  have hnd : (gset z m).Nodup := (gset_asc hz.1 m).imp (fun h e => by omega)
  have HND := hide (And.intro hnd hN)
  have hb := lentBytes_any a n cap z w (by omega) hn hcap hz
  have HZ := hide hz
  clear hz hbad hnd hN
  go_enter Tryz.func3, Tryz.ntmps3
  go_wp2_with fail
  refine hb.mono ?_
  rintro e w1 ⟨g, rfl, hg, hx1, hB1⟩
  have hG1 : GG w a n g z w1 := ⟨hB1, HZ.out.below hB1, hx1⟩
  have hat := gat_any (some ⟨g, 0, none⟩) n (n + 12) z i w1 (by omega) (by omega) hG1.xb hi
  have hat2 := refAt_any a n cap z i w1 (by omega) hcap hG1.b hi
  obtain ⟨T, bb, hTb⟩ := atV_parts z n i
  rw [hTb] at hat hat2
  have hpl := places_any (some ⟨g, 0, none⟩) n (n + 12) z w1 (by omega) hG1.xb
  rw [hm] at hpl
  have HG1 := hide hG1
  clear hb hx1 hB1 hG1 hTb
  go_wp2_with fail
  refine hat.mono ?_
  rintro e w2 ⟨rfl, rfl⟩
  go_wp2_with fail
  refine hat2.mono ?_
  rintro e w3 ⟨rfl, rfl⟩
  clear hat hat2
  go_wp2_with fail
  refine hpl.mono ?_
  rintro e w4 ⟨v1, vf1, rfl, hP1, hB4⟩
  have HG4 : Hid (GG w a n g z w4) := HG1.out.step hB4
  have hs34 := hB4.size
  have hpl2 := places_any (some ⟨g, 0, none⟩) n (n + 12) z w4 (by omega) HG4.out.xb
  rw [hm] at hpl2
  obtain ⟨a1, c1, rfl⟩ := owns_slice hP1.row
  have HP1 := hide (And.intro hP1 hB4)
  clear hpl hP1 hB4
  go_wp2_with fail
  refine hpl2.mono ?_
  rintro e w5 ⟨v2, vf2, rfl, hP2, hB5⟩
  have HG5 : Hid (GG w a n g z w5) := HG4.out.step hB5
  have hs45 := hB5.size
  have hgr := grams_any (some ⟨g, 0, none⟩) n (n + 12) z w5 (by omega) HG5.out.xb
  rw [hm] at hgr
  obtain ⟨a2, c2, rfl⟩ := owns_slice hP2.row
  have HP2 := hide (And.intro hP2 hB5)
  clear hpl2 hP2 hB5
  go_wp2_with fail
  refine hgr.mono ?_
  rintro e w6 ⟨vG, rfl, hoG, hB6⟩
  have HG6 : Hid (GG w a n g z w6) := HG5.out.step hB6
  have hs56 := hB6.size
  rw [show sortK (esL z (List.range m)) = gset z m from rfl, show (esL z (List.range m)).length = (gset z m).length from (sortK_len _).symm, HND.out.2, gset_strs] at hoG
  have hgr2 := grams_any (some ⟨g, 0, none⟩) n (n + 12) z w6 (by omega) HG6.out.xb
  rw [hm] at hgr2
  obtain ⟨aG, cG, rfl, -, hcG1, hcG2, hsG⟩ := owns_strs hoG
  have HoG := hide (And.intro hoG (And.intro hsG hB6))
  clear hgr hoG hsG hB6
  go_wp2_with fail
  refine hgr2.mono ?_
  rintro e w7 ⟨vH, rfl, hoH, hB7⟩
  have HG7 : Hid (GG w a n g z w7) := HG6.out.step hB7
  have hs67 := hB7.size
  rw [show sortK (esL z (List.range m)) = gset z m from rfl, show (esL z (List.range m)).length = (gset z m).length from (sortK_len _).symm, HND.out.2, gset_strs] at hoH
  have hrn := run_any S w7 (by omega)
  rw [hs] at hrn
  obtain ⟨aH, cH, rfl⟩ := owns_slice hoH
  have HoH := hide (And.intro hoH hB7)
  clear hgr2 hoH hB7
  go_wp2_with fail
  refine hrn.mono ?_
  rintro e w8 ⟨vR, rfl, hoR, hB8⟩
  have HG8 : Hid (GG w a n g z w8) := HG7.out.step hB8
  have hs78 := hB8.size
  rw [rnl_strs] at hoR
  obtain ⟨aR, cR, rfl, -, hcR1, hcR2, hsR⟩ := owns_strs hoR
  have HoR := hide (And.intro hoR (And.intro hsR hB8))
  have hrp := refPlaces_any a n cap z w8 (by omega) hcap HG8.out.b
  rw [hm] at hrp
  have htt : (T.toList == T.toList) = true := beq_self_eq_true _
  clear hrn hoR hsR hB8
  go_wp2_with fail
  refine hrp.mono ?_
  rintro e w9 ⟨v3, vf3, rfl, hP3, hB9⟩
  have HG9 : Hid (GG w a n g z w9) := HG8.out.step hB9
  have hs89 := hB9.size
  obtain ⟨a3, c3, rfl⟩ := owns_slice hP3.row
  have hB48 : Below w4.heap.size w4 w8 := HP2.out.2.trans (((HoG.out.2.2.trans (HoH.out.2.mono hs56)).trans (HoR.out.2.2.mono (by omega))).mono hs45)
  have hB49 : Below w4.heap.size w4 w9 := hB48.trans (hB9.mono (by omega))
  have hsp := samePostings_any _ _ w3.heap.size w8.heap.size m z (gset z m) vf1 vf3 w9 (by rw [HND.out.2]; omega) (by omega) (HP1.out.1.m.below hB49) hP3.m
  have HB9 := hide (And.intro hB48 hB9)
  clear hrp hP3 hB9 hB48 hB49
  go_wp2_with fail
  refine hsp.mono ?_
  rintro e w10 ⟨rfl, hB10⟩
  have HG10 : Hid (GG w a n g z w10) := HG9.out.step hB10
  have hs910 := hB10.size
  have hB810 : Below w8.heap.size w8 w10 := HB9.out.2.trans (hB10.mono hs89)
  have hrg := refGrams_any a n cap z w10 (by omega) hcap HG10.out.b
  rw [hm, HND.out.2, gset_strs] at hrg
  have HB10 := hide hB810
  clear hsp hB10 hB810
  go_wp2_with fail
  refine hrg.mono ?_
  rintro e w11 ⟨v11, rfl, ho11, hB11⟩
  have HG11 : Hid (GG w a n g z w11) := HG10.out.step hB11
  have hs1011 := hB11.size
  have hB811 : Below w8.heap.size w8 w11 := HB10.out.trans (hB11.mono (by omega))
  obtain ⟨a11, c11, rfl, -, _, _, hs11⟩ := owns_strs ho11
  have hB68 : Below w6.heap.size w6 w8 := HoH.out.2.trans (HoR.out.2.2.mono hs67)
  have hst := sameTexts_any _ _ N cG c11 _ w11 (by omega) (HoG.out.2.1.below (hB68.trans (hB811.mono (by omega)))) hs11
  have HB11 := hide (And.intro hB811 hB68)
  clear hrg ho11 hs11 hB11 hB811 hB68
  go_wp2_with fail
  refine hst.mono ?_
  rintro e w12 ⟨rfl, hB12⟩
  have HG12 : Hid (GG w a n g z w12) := HG11.out.step hB12
  have hs1112 := hB12.size
  have hB812 : Below w8.heap.size w8 w12 := HB11.out.1.trans (hB12.mono (by omega))
  have hrr := refRun_any S w12 (by omega)
  rw [hs, rnl_strs] at hrr
  have HB12 := hide hB812
  clear hst hB12 hB812
  go_wp2_with fail
  refine hrr.mono ?_
  rintro e w13 ⟨v13, rfl, ho13, hB13⟩
  have HG13 : Hid (GG w a n g z w13) := HG12.out.step hB13
  have hs1213 := hB13.size
  have hB813 : Below w8.heap.size w8 w13 := HB12.out.trans (hB13.mono (by omega))
  obtain ⟨a13, c13, rfl, -, _, _, hs13⟩ := owns_strs ho13
  have hst := sameTexts_any _ _ (s - 2) cR c13 _ w13 (by omega) (HoR.out.2.1.below hB813) hs13
  have HB13 := hide hB813
  clear hrr ho13 hs13 hB13 hB813
  go_wp2_with fail
  refine hst.mono ?_
  rintro e w14 ⟨rfl, hB14⟩
  have HG14 : Hid (GG w a n g z w14) := HG13.out.step hB14
  have hs1314 := hB14.size
  have hB814 : Below w8.heap.size w8 w14 := HB13.out.trans (hB14.mono (by omega))
  have hk := keptBytes_any g a n cap z w14 (by omega) HG14.out.x HG14.out.b
  have HB14 := hide hB814
  clear hst hB14 hB814
  go_wp2_with fail
  refine hk.mono ?_
  rintro e w15 ⟨rfl, hB15⟩
  have HG15 : Hid (GG w a n g z w15) := HG14.out.step hB15
  have hs1415 := hB15.size
  obtain ⟨W16, hW16⟩ : ∃ W16, w15.alloc (.cells #[.slice a1 (gset z m).length c1, .slice a2 (gset z m).length c2] 27) = W16 := ⟨_, rfl⟩
  have hb16 : W16.heap[w15.heap.size]? = some (.cells #[.slice a1 (gset z m).length c1, .slice a2 (gset z m).length c2] 27 (0, 0)) := by rw [← hW16]; exact heap_alloc_new _ _
  have hB1516 : Below w15.heap.size w15 W16 := by rw [← hW16]; exact below_alloc _ _
  have hs16 := hB1516.size
  have hB816 : Below w8.heap.size w8 W16 := (HB14.out.trans (hB15.mono (by omega))).trans (hB1516.mono (by omega))
  have hB616 : Below w6.heap.size w6 W16 := HB11.out.2.trans (hB816.mono (by omega))
  have hB516 : Below w5.heap.size w5 W16 := HoG.out.2.2.trans (hB616.mono (by omega))
  have hB416 : Below w4.heap.size w4 W16 := HP2.out.2.trans (hB516.mono (by omega))
  have hB316 : Below w3.heap.size w3 W16 := HP1.out.2.trans (hB416.mono (by omega))
  have hB716 : Below w7.heap.size w7 W16 := HoR.out.2.2.trans (hB816.mono (by omega))
  have p1 := HP1.out.1.m.below hB416
  have p2 := HP2.out.1.m.below hB516
  have hap := apartPosts_any w15.heap.size _ _ z m (gset z m) vf1 vf2 w3.heap.size w4.heap.size W16 hb16 (by omega) (by rw [HND.out.2]; omega) HND.out.1 p1 p2 ⟨fun k hk => (owns_cells HP1.out.1.row k hk).1, fun x hx k hk => (owns_cells (HP1.out.1.places x hx) k hk).1⟩
  have HB16 := hide (And.intro hB316 (And.intro hB816 (And.intro hB616 (And.intro hB716 (And.intro p1 p2)))))
  have HW16 := hide hW16
  clear hk hB15 hW16 hb16 hB1516 hB816 hB616 hB516 hB416 hB316 hB716 p1 p2
  go_wp2_with fail
  rw [HW16.out]
  refine hap.mono ?_
  rintro e w17 ⟨rfl, hk17⟩
  obtain ⟨hB316, hB816, hB616, hB716, p1, p2⟩ := HB16.out
  have hge : ∀ k, ((Value.slice a1 (gset z m).length c1).ownBlock = some k ∨ (Value.slice a2 (gset z m).length c2).ownBlock = some k ∨ ∃ x ∈ gset z m, (vf1 x).ownBlock = some k ∨ (vf2 x).ownBlock = some k) → w3.heap.size ≤ k := fun k hk => by
    rcases hk with h | h | ⟨x, hx, h | h⟩
    · exact (owns_cells p1.row k h).2.1
    · have := (owns_cells p2.row k h).2.1; omega
    · exact (owns_cells (p1.places x hx) k h).2.1
    · have := (owns_cells (p2.places x hx) k h).2.1; omega
  have hB317 : Below w3.heap.size w3 w17 := hB316.trans (hk17.below hge hB316.size)
  have HG17 : Hid (GG w a n g z w17) := HG1.out.step hB317
  have hs1617 := hk17.size
  have hot : ∀ (B nn : Nat) (v : Value) (xs : List Value), W16.ownsRow B 9 1 v nn xs → w17.ownsRow B 9 1 v nn xs := fun B nn v xs ho => by
    refine owns_kept ho hk17 (fun k hk hf => ?_)
    rcases hf with h | h | ⟨x, hx, h | h⟩
    · exact owns_apart p1.row ho (by decide) k h hk
    · exact owns_apart p2.row ho (by decide) k h hk
    · exact owns_apart (p1.places x hx) ho (by decide) k h hk
    · exact owns_apart (p2.places x hx) ho (by decide) k h hk
  have tG := hot _ _ _ _ (owns_thru HoG.out.1 hB616)
  have tH := hot _ _ _ _ (owns_thru HoH.out.1 hB716)
  have tR := hot _ _ _ _ (owns_thru HoR.out.1 hB816)
  obtain ⟨W18, hW18⟩ : ∃ W18, w17.alloc (.cells #[.slice aG N cG, .slice aH N cH, .slice aR (s - 2) cR] 29) = W18 := ⟨_, rfl⟩
  have hb18 : W18.heap[w17.heap.size]? = some (.cells #[.slice aG N cG, .slice aH N cH, .slice aR (s - 2) cR] 29 (0, 0)) := by rw [← hW18]; exact heap_alloc_new _ _
  have hB1718 : Below w17.heap.size w17 W18 := by rw [← hW18]; exact below_alloc _ _
  have uG := owns_thru tG hB1718
  have uH := owns_thru tH hB1718
  have uR := owns_thru tR hB1718
  have hap2 := apartTexts3_any w17.heap.size _ _ _ N N (s - 2) _ _ _ _ _ _ W18 hb18 ⟨by omega, by omega, by omega⟩ uG uH uR ⟨fun k hk => (owns_cells HoG.out.1 k hk).1, fun k hk => (owns_cells HoH.out.1 k hk).1, hs67⟩
  have HB18 := hide (And.intro hB317 (And.intro hB1718 (And.intro uG (And.intro uH uR))))
  have HW18 := hide hW18
  clear hap hk17 hB316 hB816 hB616 hB716 p1 p2 hge hB317 hot tG tH tR hW18 hb18 hB1718 uG uH uR
  go_wp2_with fail
  rw [HW18.out]
  refine hap2.mono ?_
  rintro e w19 ⟨rfl, hk19⟩
  obtain ⟨hB317, hB1718, uG, uH, uR⟩ := HB18.out
  have hB318 : Below w3.heap.size w3 W18 := hB317.trans (hB1718.mono hB317.size)
  have hB319 : Below w3.heap.size w3 w19 := hB318.trans (hk19.below (fun k hk => by
    rcases hk with h | h | h
    · have := (owns_cells uG k h).2.1; omega
    · have := (owns_cells uH k h).2.1; omega
    · have := (owns_cells uR k h).2.1; omega) hB318.size)
  have HG19 : Hid (GG w a n g z w19) := HG1.out.step hB319
  have hk := keptBytes_any g a n cap z w19 (by omega) HG19.out.x HG19.out.b
  clear hap2 hk19 hB317 hB1718 uG uH uR hB318 hB319
  go_wp2_with fail
  refine hk.mono ?_
  rintro e w20 ⟨rfl, hB20⟩
  have HG20 : Hid (GG w a n g z w20) := HG19.out.step hB20
  clear hk hB20
  go_wp2_with fail
  refine (awake_any w20).mono ?_
  rintro e w21 ⟨rfl, hB21⟩
  go_wp2_with fail
  go_ret
  exact ⟨rfl, (HG20.out.step hB21).below⟩
end Go.Proofs.YtpdlapnliiengaaGreat
