/-
  DocGets's walk.
-/
import Derived.Test.YtpmldopbjlnknaaDRefGet
import Derived.Test.YtpmldopbjlnknaaDAwake
import Derived.Test.YtpmldopbjlnknaaLent
namespace Go.Proofs.Ytpmldopbjlnknaa
open Go.RowKit Go.Shelf

theorem lentBL {w : World} {g : Nat} {L : List Nat} (hL : ∀ b ∈ L, b < 256) (h : Blk w g (L.length + 12) (lent (fun i => L.getD i 0) L.length)) : BL w (some ⟨g, 0, none⟩) L := by
  refine BL.mk hL (.inr ⟨g, 0, rfl, fun i hi => ?_⟩)
  have := h.cell (i := i) (by omega)
  rw [Nat.zero_add, this]
  unfold lent
  rw [if_pos hi]
set_option maxRecDepth 100000 in
set_option maxHeartbeats 4000000 in
theorem docGets_any (a : Option Addr) (len cap : Nat) (L : List Nat) (w : World) (hL : L.length = len) (hlc : len ≤ cap) (hm : cap ≤ 9223372036854775807) (hn : a = none → cap = 0) (ho : cap = 0 ∨ ∃ b off, a = some ⟨b, off, none⟩) (hbl : BL w a L) :
    Calls Try.prog 4 #[.slice a len cap] w fun e w' => e = .returned (.bool true) ∧ Below w.heap.size w w' := by
  have HH := hide (And.intro hL hbl)
  clear hL hbl
  go_enter Try.func4, Try.ntmps4
  by_cases hbig : 4000 < len
  · have hz : (4000 : Int) < (len : Int) := by omega
    go_wp2_with fail
    refine (awake22_any w).mono ?_
    rintro e w1 ⟨rfl, hb1⟩
    have HB1 := hide hb1
    clear hb1
    go_wp2_with fail
    go_ret
    exact ⟨rfl, HB1.out⟩
  · have hz : (len : Int) ≤ 4000 := by omega
    have hln := lentBytes_any a len cap (fun i => L.getD i 0) w (by omega) hn hlc (by have := HH.out.2; unfold BL at this; rwa [HH.out.1] at this)
    go_wp2_with fail
    refine hln.mono ?_
    rintro e w1 ⟨g, rfl, hg, hblk, hb1⟩
    have hbg : BL w1 (some ⟨g, 0, none⟩) L := lentBL HH.out.2.lt (by rw [HH.out.1]; exact hblk)
    have hgt := docGet_any (some ⟨g, 0, none⟩) len (len + 12) L w1 HH.out.1 (by omega) (by omega) (fun e => by cases e) hbg
    have HB1 := hide (And.intro hb1 hblk)
    clear hln hb1 hblk hbg
    go_wp2_with fail
    refine hgt.mono ?_
    rintro e w2 ⟨⟨v2, rfl, ho2, _⟩, hb2⟩
    have HB2 := hide (And.intro (HB1.out.1.trans (hb2.mono HB1.out.1.size)) (HB1.out.2.below hb2))
    have hrg := refDocGet_any a len cap L w2 HH.out.1 (by omega) hlc hm hn ho (HH.out.2.below HB2.out.1)
    obtain ⟨A2, C2, rfl, hd2, _, _, _⟩ := ho2.docs
    have HD2 := hide hd2
    obtain ⟨m, hmm⟩ : ∃ m, (outD L).length = m := ⟨_, rfl⟩
    rw [hmm]
    have hm4 : m ≤ 4000 := by
      rw [← hmm]
      cases hgd : getDocs L with
      | none => rw [(getD_none hgd).2]; simp
      | some ds =>
        rw [(getD_some hgd).2]
        have := (getDocs_is HH.out.2.lt hgd).2.1
        unfold rightD at this
        simp only [Bool.and_eq_true, decide_eq_true_eq] at this
        exact this.1.1
    have HM := hide hmm
    generalize errD L = er at hrg ⊢
    clear hgt hb2 ho2 hd2 hmm
    go_wp2_with fail
    refine hrg.mono ?_
    rintro e w3 ⟨⟨v3, rfl, ho3⟩, hb3⟩
    obtain ⟨A3, C3, rfl, hd3, _, _, _⟩ := ho3.docs
    rw [HM.out]
    have HB3 := hide (And.intro (HB2.out.1.trans (hb3.mono HB2.out.1.size)) (HB2.out.2.below hb3))
    have hsd := sameDocs_any A2 A3 C2 C3 (outD L) w3 (by rw [HM.out]; omega) (HD2.out.below hb3) hd3
    rw [HM.out] at hsd
    clear hrg hb3 ho3 hd3
    go_wp2_with fail
    refine hsd.mono ?_
    rintro e w4 ⟨rfl, hb4⟩
    have HB4 := hide (And.intro (HB3.out.1.trans (hb4.mono HB3.out.1.size)) (HB3.out.2.below hb4))
    have hkp := keptBytes_any g a len cap (fun i => L.getD i 0) w4 (by omega) HB4.out.2 (by have := HH.out.2.below HB4.out.1; unfold BL at this; rwa [HH.out.1] at this)
    clear hsd hb4
    go_wp2_with fail
    refine hkp.mono ?_
    rintro e w5 ⟨rfl, hb5⟩
    have HB5 := hide (HB4.out.1.trans (hb5.mono HB4.out.1.size))
    clear hkp hb5
    go_wp2_with fail
    refine (awake22_any w5).mono ?_
    rintro e w6 ⟨rfl, hb6⟩
    have HB6 := hide (HB5.out.trans (hb6.mono HB5.out.size))
    clear hb6
    go_wp2_with fail
    go_ret
    exact ⟨rfl, HB6.out⟩
end Go.Proofs.Ytpmldopbjlnknaa
