/-
  Lists of bytes that lie apart are told to.
-/
import Derived.Test.YtpnphijfdcimlaaFlatA
import Derived.Test.YtpnphijfdcimlaaFlatN
namespace Go.Proofs.Ytpnphijfdcimlaa
open Go.RowKit

/-- A bag that has lists of bytes alone. -/
def bagCells (v : Value) : Array Value := #[.slice none 0 0, .slice none 0 0, .slice none 0 0, .slice none 0 0, .slice none 0 0, v, .slice none 0 0, .slice none 0 0, .slice none 0 0, .slice none 0 0, .slice none 0 0, .slice none 0 0, .slice none 0 0, .slice none 0 0, .slice none 0 0, .slice none 0 0, .slice none 0 0, .slice none 0 0, .slice none 0 0, .slice none 0 0, .slice none 0 0]
def Bag (w : World) (p : Nat) (v : Value) : Prop := w.heap[p]? = some (.cells (bagCells v) 104 (0, 0))
theorem Bag.cell {w : World} {p : Nat} {v : Value} (h : Bag w p v) (i : Nat) : w.cell? ⟨p, i, none⟩ = (bagCells v)[i]? := cell_of_row _ _ _ _ _ _ h
theorem Bag.below {w w' : World} {p : Nat} {v : Value} (h : Bag w p v) (hb : Below w.heap.size w w') : Bag w' p v := (hb.block p (block_lt h)).trans h
theorem Bag.kept {F : Nat → Prop} {w w' : World} {p : Nat} {v : Value} (h : Bag w p v) (hk : Kept F w w') (hp : ¬ F p) : Bag w' p v := hk.heap h hp

set_option maxRecDepth 100000 in
set_option maxHeartbeats 4000000 in
theorem bagApart_any (p b off n cap : Nat) (A : Nat → Option Addr) (l C : Nat → Nat) (X : Nat → List Value) (w : World) (hn : n ≤ 100000) (hl : ∀ r, r < n → l r ≤ 140000000000000) (ha : Apt n b A l C)
    (hp : Bag w p (.slice (some ⟨b, off, none⟩) n cap)) (hpv : ∀ r, r < n → (fv A l C r).ownBlock ≠ some p)
    (hc : ∀ r, r < n → w.cell? ⟨b, off + r, none⟩ = some (fv A l C r)) (ho : ∀ r, r < n → w.ownsRow 0 5 1 (fv A l C r) (l r) (X r)) :
    Calls Try.prog 52 #[.pointer (some ⟨p, 0, none⟩)] w fun e w' => e = .returned (.bool true) ∧ St n A l C (fun r => mk r (l r)) w w' := by
  have c0 : w.cell? ⟨p, 0, none⟩ = some (.slice none 0 0) := hp.cell 0
  have HC := hide hc
  have HO := hide ho
  have HP := hide hp
  have hnp : ¬ FF n A l C p := fun ⟨r, hr, h⟩ => hpv r hr h
  have HNP := hide hnp
  clear hc ho hp hpv hnp
  go_enter Try.func52, Try.ntmps52
  go_wp2_with fail
  refine (nil_Limbs _).mono ?_
  rintro e w1 ⟨rfl, hb1⟩
  have hp1 := HP.out.below hb1
  have HB1 := hide hb1
  have c1 : w1.cell? ⟨p, 1, none⟩ = some (.slice none 0 0) := hp1.cell 1
  have HPP1 := hide hp1
  clear hp1 hb1 c0
  go_wp2_with fail
  refine (nil_Words _).mono ?_
  rintro e w2 ⟨rfl, hb2⟩
  have hp2 := HPP1.out.below hb2
  have HB2 : Hid (Below w.heap.size w w2) := HB1.out.trans (hb2.mono HB1.out.size)
  have c2 : w2.cell? ⟨p, 2, none⟩ = some (.slice none 0 0) := hp2.cell 2
  have HPP2 := hide hp2
  clear hp2 hb2 c1
  go_wp2_with fail
  refine (nil_Ints _).mono ?_
  rintro e w3 ⟨rfl, hb3⟩
  have hp3 := HPP2.out.below hb3
  have HB3 : Hid (Below w.heap.size w w3) := HB2.out.trans (hb3.mono HB2.out.size)
  have c3 : w3.cell? ⟨p, 3, none⟩ = some (.slice none 0 0) := hp3.cell 3
  have HPP3 := hide hp3
  clear hp3 hb3 c2
  go_wp2_with fail
  refine (nil_Longs _).mono ?_
  rintro e w4 ⟨rfl, hb4⟩
  have hp4 := HPP3.out.below hb4
  have HB4 : Hid (Below w.heap.size w w4) := HB3.out.trans (hb4.mono HB3.out.size)
  have c4 : w4.cell? ⟨p, 4, none⟩ = some (.slice none 0 0) := hp4.cell 4
  have HPP4 := hide hp4
  clear hp4 hb4 c3
  go_wp2_with fail
  refine (nil_Texts _).mono ?_
  rintro e w5 ⟨rfl, hb5⟩
  have hp5 := HPP4.out.below hb5
  have HB5 : Hid (Below w.heap.size w w5) := HB4.out.trans (hb5.mono HB4.out.size)
  have c5 : w5.cell? ⟨p, 5, none⟩ = some (.slice (some ⟨b, off, none⟩) n cap) := hp5.cell 5
  have HPP5 := hide hp5
  clear hp5 hb5 c4
  go_wp2_with fail
  refine (flatBytes_any b off n cap A l C X w5 hn hl ha (fun r hr => cell_thru (HC.out r hr) HB5.out) (fun r hr => owns_thru (HO.out r hr) HB5.out)).mono ?_
  rintro e w6 ⟨rfl, hst⟩
  have hp6 := HPP5.out.kept hst.1 HNP.out
  have c6 : w6.cell? ⟨p, 6, none⟩ = some (.slice none 0 0) := hp6.cell 6
  have HPP6 := hide hp6
  have HST := hide hst
  clear hp6 hst c5
  go_wp2_with fail
  refine (nil_Truths _).mono ?_
  rintro e w7 ⟨rfl, hb7⟩
  have hp7 := HPP6.out.below hb7
  have HB7 := hide hb7
  have c7 : w7.cell? ⟨p, 7, none⟩ = some (.slice none 0 0) := hp7.cell 7
  have HPP7 := hide hp7
  clear hp7 hb7 c6
  go_wp2_with fail
  refine (nil_Nodes _).mono ?_
  rintro e w8 ⟨rfl, hb8⟩
  have hp8 := HPP7.out.below hb8
  have HB8 : Hid (Below w6.heap.size w6 w8) := HB7.out.trans (hb8.mono HB7.out.size)
  have c8 : w8.cell? ⟨p, 8, none⟩ = some (.slice none 0 0) := hp8.cell 8
  have HPP8 := hide hp8
  clear hp8 hb8 c7
  go_wp2_with fail
  refine (nil_Insts _).mono ?_
  rintro e w9 ⟨rfl, hb9⟩
  have hp9 := HPP8.out.below hb9
  have HB9 : Hid (Below w6.heap.size w6 w9) := HB8.out.trans (hb9.mono HB8.out.size)
  have c9 : w9.cell? ⟨p, 9, none⟩ = some (.slice none 0 0) := hp9.cell 9
  have HPP9 := hide hp9
  clear hp9 hb9 c8
  go_wp2_with fail
  refine (nil_Queries _).mono ?_
  rintro e w10 ⟨rfl, hb10⟩
  have hp10 := HPP9.out.below hb10
  have HB10 : Hid (Below w6.heap.size w6 w10) := HB9.out.trans (hb10.mono HB9.out.size)
  have c10 : w10.cell? ⟨p, 10, none⟩ = some (.slice none 0 0) := hp10.cell 10
  have HPP10 := hide hp10
  clear hp10 hb10 c9
  go_wp2_with fail
  refine (nil_Files _).mono ?_
  rintro e w11 ⟨rfl, hb11⟩
  have hp11 := HPP10.out.below hb11
  have HB11 : Hid (Below w6.heap.size w6 w11) := HB10.out.trans (hb11.mono HB10.out.size)
  have c11 : w11.cell? ⟨p, 11, none⟩ = some (.slice none 0 0) := hp11.cell 11
  have HPP11 := hide hp11
  clear hp11 hb11 c10
  go_wp2_with fail
  refine (nil_Docs _).mono ?_
  rintro e w12 ⟨rfl, hb12⟩
  have hp12 := HPP11.out.below hb12
  have HB12 : Hid (Below w6.heap.size w6 w12) := HB11.out.trans (hb12.mono HB11.out.size)
  have c12 : w12.cell? ⟨p, 12, none⟩ = some (.slice none 0 0) := hp12.cell 12
  have HPP12 := hide hp12
  clear hp12 hb12 c11
  go_wp2_with fail
  refine (nil_Places _).mono ?_
  rintro e w13 ⟨rfl, hb13⟩
  have hp13 := HPP12.out.below hb13
  have HB13 : Hid (Below w6.heap.size w6 w13) := HB12.out.trans (hb13.mono HB12.out.size)
  have c13 : w13.cell? ⟨p, 13, none⟩ = some (.slice none 0 0) := hp13.cell 13
  have HPP13 := hide hp13
  clear hp13 hb13 c12
  go_wp2_with fail
  refine (nil_Postings _).mono ?_
  rintro e w14 ⟨rfl, hb14⟩
  have hp14 := HPP13.out.below hb14
  have HB14 : Hid (Below w6.heap.size w6 w14) := HB13.out.trans (hb14.mono HB13.out.size)
  have c14 : w14.cell? ⟨p, 14, none⟩ = some (.slice none 0 0) := hp14.cell 14
  have HPP14 := hide hp14
  clear hp14 hb14 c13
  go_wp2_with fail
  refine (nil_ShardRefs _).mono ?_
  rintro e w15 ⟨rfl, hb15⟩
  have hp15 := HPP14.out.below hb15
  have HB15 : Hid (Below w6.heap.size w6 w15) := HB14.out.trans (hb15.mono HB14.out.size)
  have c15 : w15.cell? ⟨p, 15, none⟩ = some (.slice none 0 0) := hp15.cell 15
  have HPP15 := hide hp15
  clear hp15 hb15 c14
  go_wp2_with fail
  refine (nil_Manifests _).mono ?_
  rintro e w16 ⟨rfl, hb16⟩
  have hp16 := HPP15.out.below hb16
  have HB16 : Hid (Below w6.heap.size w6 w16) := HB15.out.trans (hb16.mono HB15.out.size)
  have c16 : w16.cell? ⟨p, 16, none⟩ = some (.slice none 0 0) := hp16.cell 16
  have HPP16 := hide hp16
  clear hp16 hb16 c15
  go_wp2_with fail
  refine (nil_Asks _).mono ?_
  rintro e w17 ⟨rfl, hb17⟩
  have hp17 := HPP16.out.below hb17
  have HB17 : Hid (Below w6.heap.size w6 w17) := HB16.out.trans (hb17.mono HB16.out.size)
  have c17 : w17.cell? ⟨p, 17, none⟩ = some (.slice none 0 0) := hp17.cell 17
  have HPP17 := hide hp17
  clear hp17 hb17 c16
  go_wp2_with fail
  refine (nil_Hits _).mono ?_
  rintro e w18 ⟨rfl, hb18⟩
  have hp18 := HPP17.out.below hb18
  have HB18 : Hid (Below w6.heap.size w6 w18) := HB17.out.trans (hb18.mono HB17.out.size)
  have c18 : w18.cell? ⟨p, 18, none⟩ = some (.slice none 0 0) := hp18.cell 18
  have HPP18 := hide hp18
  clear hp18 hb18 c17
  go_wp2_with fail
  refine (nil_Answers _).mono ?_
  rintro e w19 ⟨rfl, hb19⟩
  have hp19 := HPP18.out.below hb19
  have HB19 : Hid (Below w6.heap.size w6 w19) := HB18.out.trans (hb19.mono HB18.out.size)
  have c19 : w19.cell? ⟨p, 19, none⟩ = some (.slice none 0 0) := hp19.cell 19
  have HPP19 := hide hp19
  clear hp19 hb19 c18
  go_wp2_with fail
  refine (nil_Parts _).mono ?_
  rintro e w20 ⟨rfl, hb20⟩
  have hp20 := HPP19.out.below hb20
  have HB20 : Hid (Below w6.heap.size w6 w20) := HB19.out.trans (hb20.mono HB19.out.size)
  have c20 : w20.cell? ⟨p, 20, none⟩ = some (.slice none 0 0) := hp20.cell 20
  have HPP20 := hide hp20
  clear hp20 hb20 c19
  go_wp2_with fail
  refine (nil_Changes _).mono ?_
  rintro e w21 ⟨rfl, hb21⟩
  have hp21 := HPP20.out.below hb21
  have HB21 : Hid (Below w6.heap.size w6 w21) := HB20.out.trans (hb21.mono HB20.out.size)
  have HPP21 := hide hp21
  clear hp21 hb21 c20
  go_wp2_with fail
  go_ret
  refine ⟨rfl, ?_, fun r hr => owns_thru (HST.out.2 r hr) HB21.out⟩
  exact ((Kept.of_below HB5.out).trans HST.out.1 (fun _ _ h => h)).trans (Kept.of_below (F := fun _ => False) HB21.out) (fun _ _ h => h.elim)
end Go.Proofs.Ytpnphijfdcimlaa
