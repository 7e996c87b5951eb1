/-
  Lists of bytes that lie apart are told to.
-/
import Derived.Test.YtpmldopbjlnknaaGreatFlatA
import Derived.Test.YtpmldopbjlnknaaGreatFlatN
namespace Go.Proofs.YtpmldopbjlnknaaGreat
open Go.RowKit

/-- A bag that has lists of bytes alone. -/
def bagCells (v : Value) : Array Value := #[.slice none 0 0, .slice none 0 0, .slice none 0 0, .slice none 0 0, .slice none 0 0, v, .slice none 0 0, .slice none 0 0, .slice none 0 0, .slice none 0 0, .slice none 0 0, .slice none 0 0, .slice none 0 0, .slice none 0 0, .slice none 0 0, .slice none 0 0, .slice none 0 0, .slice none 0 0, .slice none 0 0, .slice none 0 0, .slice none 0 0]
def Bag (w : World) (p : Nat) (v : Value) : Prop := w.heap[p]? = some (.cells (bagCells v) 93 (0, 0))
theorem Bag.cell {w : World} {p : Nat} {v : Value} (h : Bag w p v) (i : Nat) : w.cell? ⟨p, i, none⟩ = (bagCells v)[i]? := cell_of_row _ _ _ _ _ _ h
theorem Bag.below {w w' : World} {p : Nat} {v : Value} (h : Bag w p v) (hb : Below w.heap.size w w') : Bag w' p v := (hb.block p (block_lt h)).trans h
theorem Bag.kept {F : Nat → Prop} {w w' : World} {p : Nat} {v : Value} (h : Bag w p v) (hk : Kept F w w') (hp : ¬ F p) : Bag w' p v := hk.heap h hp

set_option maxRecDepth 100000 in
set_option maxHeartbeats 4000000 in
theorem bagApart_any (p b off n cap : Nat) (A : Nat → Option Addr) (l C : Nat → Nat) (X : Nat → List Value) (w : World) (hn : n ≤ 100000) (hl : ∀ r, r < n → l r ≤ 140000000000000) (ha : Apt n b A l C)
    (hp : Bag w p (.slice (some ⟨b, off, none⟩) n cap)) (hpv : ∀ r, r < n → (fv A l C r).ownBlock ≠ some p)
    (hc : ∀ r, r < n → w.cell? ⟨b, off + r, none⟩ = some (fv A l C r)) (ho : ∀ r, r < n → w.ownsRow 0 5 1 (fv A l C r) (l r) (X r)) :
    Calls Tryz.prog 40 #[.pointer (some ⟨p, 0, none⟩)] w fun e w' => e = .returned (.bool true) ∧ St n A l C (fun r => mk r (l r)) w w' := by
  have c0 : w.cell? ⟨p, 0, none⟩ = some (.slice none 0 0) := hp.cell 0
  have HC := hide hc
  have HO := hide ho
  have HP := hide hp
  have hnp : ¬ FF n A l C p := fun ⟨r, hr, h⟩ => hpv r hr h
  have HNP := hide hnp
  clear hc ho hp hpv hnp
  go_enter Tryz.func40, Tryz.ntmps40
  go_wp2_with fail
  refine (nil_Limbs _).mono ?_
  rintro e w1 ⟨rfl, hb1⟩
  have hp1 := HP.out.below hb1
  have HB1 := hide hb1
  have c1 : w1.cell? ⟨p, 1, none⟩ = some (.slice none 0 0) := hp1.cell 1
  have HPP1 := hide hp1
  clear hp1 hb1 c0
  go_wp2_with fail
  refine (nil_Words _).mono ?_
  rintro e w2 ⟨rfl, hb2⟩
  have hp2 := HPP1.out.below hb2
  have HB2 : Hid (Below w.heap.size w w2) := HB1.out.trans (hb2.mono HB1.out.size)
  have c2 : w2.cell? ⟨p, 2, none⟩ = some (.slice none 0 0) := hp2.cell 2
  have HPP2 := hide hp2
  clear hp2 hb2 c1
  go_wp2_with fail
  refine (nil_Ints _).mono ?_
  rintro e w3 ⟨rfl, hb3⟩
  have hp3 := HPP2.out.below hb3
  have HB3 : Hid (Below w.heap.size w w3) := HB2.out.trans (hb3.mono HB2.out.size)
  have c3 : w3.cell? ⟨p, 3, none⟩ = some (.slice none 0 0) := hp3.cell 3
  have HPP3 := hide hp3
  clear hp3 hb3 c2
  go_wp2_with fail
  refine (nil_Longs _).mono ?_
  rintro e w4 ⟨rfl, hb4⟩
  have hp4 := HPP3.out.below hb4
  have HB4 : Hid (Below w.heap.size w w4) := HB3.out.trans (hb4.mono HB3.out.size)
  have c4 : w4.cell? ⟨p, 4, none⟩ = some (.slice none 0 0) := hp4.cell 4
  have HPP4 := hide hp4
  clear hp4 hb4 c3
  go_wp2_with fail
  refine (nil_Texts _).mono ?_
  rintro e w5 ⟨rfl, hb5⟩
  have hp5 := HPP4.out.below hb5
  have HB5 : Hid (Below w.heap.size w w5) := HB4.out.trans (hb5.mono HB4.out.size)
  have c5 : w5.cell? ⟨p, 5, none⟩ = some (.slice (some ⟨b, off, none⟩) n cap) := hp5.cell 5
  have HPP5 := hide hp5
  clear hp5 hb5 c4
  go_wp2_with fail
  refine (flatBytes_any b off n cap A l C X w5 hn hl ha (fun r hr => cell_thru (HC.out r hr) HB5.out) (fun r hr => owns_thru (HO.out r hr) HB5.out)).mono ?_
  rintro e w6 ⟨rfl, hst⟩
  have hp6 := HPP5.out.kept hst.1 HNP.out
  have c6 : w6.cell? ⟨p, 6, none⟩ = some (.slice none 0 0) := hp6.cell 6
  have HPP6 := hide hp6
  have HST := hide hst
  clear hp6 hst c5
  go_wp2_with fail
  refine (nil_Truths _).mono ?_
  rintro e w7 ⟨rfl, hb7⟩
  have hp7 := HPP6.out.below hb7
  have HB7 := hide hb7
  have c7 : w7.cell? ⟨p, 7, none⟩ = some (.slice none 0 0) := hp7.cell 7
  have HPP7 := hide hp7
  clear hp7 hb7 c6
  go_wp2_with fail
  refine (nil_Nodes _).mono ?_
  rintro e w8 ⟨rfl, hb8⟩
  have hp8 := HPP7.out.below hb8
  have HB8 : Hid (Below w6.heap.size w6 w8) := HB7.out.trans (hb8.mono HB7.out.size)
  have c8 : w8.cell? ⟨p, 8, none⟩ = some (.slice none 0 0) := hp8.cell 8
  have HPP8 := hide hp8
  clear hp8 hb8 c7
  go_wp2_with fail
  refine (nil_Insts _).mono ?_
  rintro e w9 ⟨rfl, hb9⟩
  have hp9 := HPP8.out.below hb9
  have HB9 : Hid (Below w6.heap.size w6 w9) := HB8.out.trans (hb9.mono HB8.out.size)
  have c9 : w9.cell? ⟨p, 9, none⟩ = some (.slice none 0 0) := hp9.cell 9
  have HPP9 := hide hp9
  clear hp9 hb9 c8
  go_wp2_with fail
  refine (nil_Queries _).mono ?_
  rintro e w10 ⟨rfl, hb10⟩
  have hp10 := HPP9.out.below hb10
  have HB10 : Hid (Below w6.heap.size w6 w10) := HB9.out.trans (hb10.mono HB9.out.size)
  have c10 : w10.cell? ⟨p, 10, none⟩ = some (.slice none 0 0) := hp10.cell 10
  have HPP10 := hide hp10
  clear hp10 hb10 c9
  go_wp2_with fail
  refine (nil_Files _).mono ?_
  rintro e w11 ⟨rfl, hb11⟩
  have hp11 := HPP10.out.below hb11
  have HB11 : Hid (Below w6.heap.size w6 w11) := HB10.out.trans (hb11.mono HB10.out.size)
  have c11 : w11.cell? ⟨p, 11, none⟩ = some (.slice none 0 0) := hp11.cell 11
  have HPP11 := hide hp11
  clear hp11 hb11 c10
  go_wp2_with fail
  refine (nil_Docs _).mono ?_
  rintro e w12 ⟨rfl, hb12⟩
  have hp12 := HPP11.out.below hb12
  have HB12 : Hid (Below w6.heap.size w6 w12) := HB11.out.trans (hb12.mono HB11.out.size)
  have c12 : w12.cell? ⟨p, 12, none⟩ = some (.slice none 0 0) := hp12.cell 12
  have HPP12 := hide hp12
  clear hp12 hb12 c11
  go_wp2_with fail
  refine (nil_Places _).mono ?_
  rintro e w13 ⟨rfl, hb13⟩
  have hp13 := HPP12.out.below hb13
  have HB13 : Hid (Below w6.heap.size w6 w13) := HB12.out.trans (hb13.mono HB12.out.size)
  have c13 : w13.cell? ⟨p, 13, none⟩ = some (.slice none 0 0) := hp13.cell 13
  have HPP13 := hide hp13
  clear hp13 hb13 c12
  go_wp2_with fail
  refine (nil_Postings _).mono ?_
  rintro e w14 ⟨rfl, hb14⟩
  have hp14 := HPP13.out.below hb14
  have HB14 : Hid (Below w6.heap.size w6 w14) := HB13.out.trans (hb14.mono HB13.out.size)
  have c14 : w14.cell? ⟨p, 14, none⟩ = some (.slice none 0 0) := hp14.cell 14
  have HPP14 := hide hp14
  clear hp14 hb14 c13
  go_wp2_with fail
  refine (nil_ShardRefs _).mono ?_
  rintro e w15 ⟨rfl, hb15⟩
  have hp15 := HPP14.out.below hb15
  have HB15 : Hid (Below w6.heap.size w6 w15) := HB14.out.trans (hb15.mono HB14.out.size)
  have c15 : w15.cell? ⟨p, 15, none⟩ = some (.slice none 0 0) := hp15.cell 15
  have HPP15 := hide hp15
  clear hp15 hb15 c14
  go_wp2_with fail
  refine (nil_Manifests _).mono ?_
  rintro e w16 ⟨rfl, hb16⟩
  have hp16 := HPP15.out.below hb16
  have HB16 : Hid (Below w6.heap.size w6 w16) := HB15.out.trans (hb16.mono HB15.out.size)
  have c16 : w16.cell? ⟨p, 16, none⟩ = some (.slice none 0 0) := hp16.cell 16
  have HPP16 := hide hp16
  clear hp16 hb16 c15
  go_wp2_with fail
  refine (nil_Asks _).mono ?_
  rintro e w17 ⟨rfl, hb17⟩
  have hp17 := HPP16.out.below hb17
  have HB17 : Hid (Below w6.heap.size w6 w17) := HB16.out.trans (hb17.mono HB16.out.size)
  have c17 : w17.cell? ⟨p, 17, none⟩ = some (.slice none 0 0) := hp17.cell 17
  have HPP17 := hide hp17
  clear hp17 hb17 c16
  go_wp2_with fail
  refine (nil_Hits _).mono ?_
  rintro e w18 ⟨rfl, hb18⟩
  have hp18 := HPP17.out.below hb18
  have HB18 : Hid (Below w6.heap.size w6 w18) := HB17.out.trans (hb18.mono HB17.out.size)
  have c18 : w18.cell? ⟨p, 18, none⟩ = some (.slice none 0 0) := hp18.cell 18
  have HPP18 := hide hp18
  clear hp18 hb18 c17
  go_wp2_with fail
  refine (nil_Answers _).mono ?_
  rintro e w19 ⟨rfl, hb19⟩
  have hp19 := HPP18.out.below hb19
  have HB19 : Hid (Below w6.heap.size w6 w19) := HB18.out.trans (hb19.mono HB18.out.size)
  have c19 : w19.cell? ⟨p, 19, none⟩ = some (.slice none 0 0) := hp19.cell 19
  have HPP19 := hide hp19
  clear hp19 hb19 c18
  go_wp2_with fail
  refine (nil_Parts _).mono ?_
  rintro e w20 ⟨rfl, hb20⟩
  have hp20 := HPP19.out.below hb20
  have HB20 : Hid (Below w6.heap.size w6 w20) := HB19.out.trans (hb20.mono HB19.out.size)
  have c20 : w20.cell? ⟨p, 20, none⟩ = some (.slice none 0 0) := hp20.cell 20
  have HPP20 := hide hp20
  clear hp20 hb20 c19
  go_wp2_with fail
  refine (nil_Changes _).mono ?_
  rintro e w21 ⟨rfl, hb21⟩
  have hp21 := HPP20.out.below hb21
  have HB21 : Hid (Below w6.heap.size w6 w21) := HB20.out.trans (hb21.mono HB20.out.size)
  have HPP21 := hide hp21
  clear hp21 hb21 c20
  go_wp2_with fail
  go_ret
  refine ⟨rfl, ?_, fun r hr => owns_thru (HST.out.2 r hr) HB21.out⟩
  exact ((Kept.of_below HB5.out).trans HST.out.1 (fun _ _ h => h)).trans (Kept.of_below (F := fun _ => False) HB21.out) (fun _ _ h => h.elim)
end Go.Proofs.YtpmldopbjlnknaaGreat

/-
  ApartBytes.
-/
namespace Go.Proofs.YtpmldopbjlnknaaGreat
open Go.RowKit

set_option maxRecDepth 100000 in
set_option maxHeartbeats 1000000 in
theorem putBytes_any (p k : Nat) (A5 : Option Addr) (C5 : Nat) (ys : List Value) (a : Option Addr) (len cap : Nat) (w : World) (hk : ys.length = k) (hk2 : k ≤ 100000) (hp : Bag w p (.slice A5 k C5)) (ho : w.ownsRow 0 26 1 (.slice A5 k C5) k ys) (hne : ∀ g, (Value.slice A5 k C5).ownBlock = some g → g ≠ p) :
    Calls Tryz.prog 39 #[.pointer (some ⟨p, 0, none⟩), .slice a len cap] w fun e w' => e = .returned (.tuple #[]) ∧ ∃ A6 C6, Bag w' p (.slice A6 (k + 1) C6) ∧ w'.ownsRow 0 26 1 (.slice A6 (k + 1) C6) (k + 1) (ys ++ [.slice a len cap]) ∧
      (∀ g, (Value.slice A6 (k + 1) C6).ownBlock = some g → g ≠ p ∧ ((Value.slice A5 k C5).ownBlock = some g ∨ w.heap.size ≤ g)) ∧ Kept (fun x => x = p ∨ (Value.slice A5 k C5).ownBlock = some x) w w' := by
  obtain ⟨i0, hi, hq0, hq1, hq2⟩ := info_parts info_sb
  have hpl : p < w.heap.size := block_lt hp
  have c5 : w.cell? ⟨p, 5, none⟩ = some (.slice A5 k C5) := hp.cell 5
  have f5 : w.frozen? ⟨p, 5, none⟩ = false := frozen_of_row _ _ _ _ _ hp
  have k5 := cell_alloc_l (W := w) (.cells #[.slice a len cap] 26) c5
  have m5 := frozen_alloc_l (W := w) (.cells #[.slice a len cap] 26) c5 f5
  have hoA := owns_thru ho (below_alloc w (.cells #[.slice a len cap] 26))
  have hn1 := cell_one_new w (.slice a len cap) 26
  have HP := hide hp
  have HK := hide hk
  have HNE := hide hne
  clear hp ho hk hne
  go_enter Tryz.func39, Tryz.ntmps39
  go_wp2_with (at_builtin; go_must (refine wpList_append_foot _ rfl (.tmp 8) (.tmp 10) 34 rfl 26 i0 (.slice none 0 0) 24 Tryz.underlying34 hi hq0 hq1 hq2 rfl 0 _ k ys rfl hoA (some ⟨w.heap.size, 0, none⟩) 1 1 [.slice a len cap] rfl rfl (fun e => by cases e) (fun ad e => by cases e; exact hn1) (by simp [Value.oneCell']) (by unfold maxLen; omega) (by omega) (by omega) ?_); intro A6 C6 w1 hown1 hg1; have hc1 := (hg1.kept (F := fun x => x ≠ p) HNE.out).cell k5 (fun h => h rfl); have hf1 := (hg1.kept (F := fun x => x ≠ p) HNE.out).unfrozen k5 (fun h => h rfl) m5)
  have hKa : Kept (fun _ => False) w (w.alloc (.cells #[.slice a len cap] 26)) := Kept.of_below (below_alloc w _)
  have hKg := hg1.kept (F := fun x => (Value.slice A5 k C5).ownBlock = some x) (fun _ h => h)
  have hKn := hg1.kept (F := fun x => x ≠ p) HNE.out
  have hfo := hg1.foot (F := fun x => (Value.slice A5 k C5).ownBlock = some x) (fun _ h => h)
  have hpb : Bag w1 p (.slice A5 k C5) := (HP.out.kept hKa (fun h => h)).kept hKn (fun h => h rfl)
  have hnew : ∀ g, (Value.slice A6 (k + 1) C6).ownBlock = some g → g ≠ p ∧ ((Value.slice A5 k C5).ownBlock = some g ∨ w.heap.size ≤ g) := fun g hg => by
    rcases hfo g hg with h | h
    · exact ⟨HNE.out g h, .inl h⟩
    · have := hKa.size
      exact ⟨by omega, .inr (by omega)⟩
  go_end0
  refine ⟨rfl, A6, C6, ?_, ?_, hnew, ?_⟩
  · have h := heap_setCell_same w1 p 5 _ _ (.slice A6 (k + 1) C6) hpb
    exact h
  · exact owns_other hown1 (fun e => (hnew p e).1 rfl) _
  · exact (((hKa.mono (G := fun x => x = p ∨ (Value.slice A5 k C5).ownBlock = some x) (fun _ _ h => h.elim)).trans hKg (fun _ _ h => .inr h)).setCell (.inl (.inl rfl)) _)

theorem fv_range (A : Nat → Option Addr) (l C : Nat → Nat) (k : Nat) : ((List.range k).map (fv A l C)).length = k := by simp
set_option maxRecDepth 100000 in
set_option maxHeartbeats 1000000 in
theorem apartBytes_any (b off n cap : Nat) (A : Nat → Option Addr) (l C : Nat → Nat) (X : Nat → List Value) (w : World) (hn0 : 0 < n) (hn : n ≤ 100000) (hl : ∀ r, r < n → l r ≤ 140000000000000)
    (hd : ∀ r s g, r < n → s < n → (fv A l C r).ownBlock = some g → (fv A l C s).ownBlock = some g → r = s)
    (hc : ∀ r, r < n → w.cell? ⟨b, off + r, none⟩ = some (fv A l C r)) (ho : ∀ r, r < n → w.ownsRow 0 5 1 (fv A l C r) (l r) (X r)) :
    Calls Tryz.prog 15 #[.slice (some ⟨b, off, none⟩) n cap] w fun e w' => e = .returned (.bool true) ∧ St n A l C (fun r => mk r (l r)) w w' := by
  have HC := hide hc
  have HO := hide ho
  have HD := hide hd
  have HL := hide hl
  have hp0 : Bag (w.alloc (.cells (bagCells (.slice none 0 0)) 93)) w.heap.size (.slice none 0 0) := heap_alloc_new _ _
  have HP0 := hide hp0
  clear hc ho hd hl hp0
  go_enter Tryz.func15, Tryz.ntmps15
  go_wp2_with fail
  go_loopg [4] n (fun q s4 wr => ∃ (k : Nat) (A5 : Option Addr) (C5 : Nat), k + q = n ∧ s4 = .int .i64 (k : Nat) ∧ Bag wr w.heap.size (.slice A5 k C5) ∧ wr.ownsRow 0 26 1 (.slice A5 k C5) k ((List.range k).map (fv A l C)) ∧ (∀ g, (Value.slice A5 k C5).ownBlock = some g → g ≠ w.heap.size ∧ w.heap.size ≤ g) ∧ Below w.heap.size w wr)
  case atStart => exact ⟨0, none, 0, by omega, rfl, HP0.out, World.ownsRow_nil _ _ _ _, (fun g hg => by cases hg), below_alloc _ _⟩
  case round =>
    obtain ⟨k, A5, C5, hkq, rfl, hp, hown, hne, hbl⟩ := hrel
    have hk0 : (0 : Int) ≤ (k : Int) := by omega
    cases gk with
    | zero =>
      obtain rfl : k = n := by omega
      have hkz : ¬ ((k : Int) < (k : Int)) := by omega
      obtain ⟨g, C6, hv, _, _, _, _⟩ := owns_cell hown (show ((List.range k).map (fv A l C))[0]? = some (fv A l C 0) by simp [hn0])
      injection hv with hA5 _ hC
      have hgs := hne g (by rw [hA5]; rfl)
      have hcell : ∀ r, r < k → wr.cell? ⟨g, 0 + r, none⟩ = some (fv A l C r) := fun r hr => by
        obtain ⟨g', C', hv', hc', _⟩ := owns_cell hown (show ((List.range k).map (fv A l C))[r]? = some (fv A l C r) by simp [hr])
        rw [hA5] at hv'
        injection hv' with e1 _ _
        cases e1
        rw [Nat.zero_add]; exact hc'
      rw [hA5] at hp
      have hba := bagApart_any w.heap.size g 0 k C5 A l C X wr hn HL.out ⟨HD.out, fun r g' hr h e => by
          have := (owns_cells (HO.out r hr) g' h).1
          omega⟩ hp (fun r hr h => by
          have := (owns_cells (HO.out r hr) _ h).1
          omega) hcell (fun r hr => owns_thru (HO.out r hr) hbl)
      clear hp hown hne hcell hA5
      go_wp2_with fail
      refine hba.mono ?_
      rintro e w2 ⟨rfl, hst⟩
      go_wp2_with fail
      go_ret
      exact ⟨rfl, (Kept.of_below hbl).trans hst.1 (fun _ _ h => h), hst.2⟩
    | succ q =>
      have hkz : (k : Int) < (n : Int) := by omega
      have c1 : wr.cell? ⟨b, off + k, none⟩ = some (.slice (A k) (l k) (C k)) := cell_thru (HC.out k (by omega)) hbl
      have hpu := putBytes_any w.heap.size k A5 C5 _ (A k) (l k) (C k) wr (fv_range A l C k) (by omega) hp hown (fun g hg => (hne g hg).1)
      have hre : (List.range (k + 1)).map (fv A l C) = (List.range k).map (fv A l C) ++ [.slice (A k) (l k) (C k)] := by rw [List.range_succ, List.map_append]; rfl
      have HRE := hide hre
      have HNE := hide hne
      clear hp hown hre hne
      go_wp2_with fail
      refine hpu.mono ?_
      rintro e w2 ⟨rfl, A6, C6, h1, h2, h3, h4⟩
      go_wp2_with fail
      go_roundg q
      case measure => omega
      case rel =>
        refine ⟨k + 1, A6, C6, by omega, by go_num, h1, by rw [HRE.out]; exact h2, fun g hg => ?_, hbl.trans (h4.below (fun x hx => ?_) hbl.size)⟩
        · obtain ⟨e1, e2 | e2⟩ := h3 g hg
          · exact HNE.out g e2
          · have := hbl.size
            exact ⟨e1, by omega⟩
        · rcases hx with hx | hx
          · omega
          · exact (HNE.out x hx).2
theorem owns_to0 {w : World} {B n size : Nat} {v : Value} {xs : List Value} {e : TypeId} (h : w.ownsRow B e size v n xs) : w.ownsRow 0 e size v n xs := by
  obtain ⟨hl, ⟨hv, h0⟩ | ⟨g, cap, cur, hv, hg, hr⟩⟩ := h
  · exact ⟨hl, .inl ⟨hv, h0⟩⟩
  · exact ⟨hl, .inr ⟨g, cap, cur, hv, by omega, hr⟩⟩
/-- Two rows of bytes in a row of rows. -/
theorem apart2 {A1 A2 : Option Addr} {C1 C2 s1 s2 : Nat} {X1 X2 : List Value} {w1 w : World} (g : Nat) (hb : w.heap[g]? = some (.cells #[.slice A1 s1 C1, .slice A2 s2 C2] 26 (0, 0))) (h1 : s1 ≤ 1000000) (h2 : s2 ≤ 1000000)
    (ho1 : w.ownsRow 0 5 1 (.slice A1 s1 C1) s1 X1) (ho2 : w.ownsRow w1.heap.size 5 1 (.slice A2 s2 C2) s2 X2) (hlt : ∀ g, (Value.slice A1 s1 C1).ownBlock = some g → g < w1.heap.size) :
    Calls Tryz.prog 15 #[.slice (some ⟨g, 0, none⟩) 2 2] w fun e w' => e = .returned (.bool true) ∧ Kept (fun k => (Value.slice A1 s1 C1).ownBlock = some k ∨ (Value.slice A2 s2 C2).ownBlock = some k) w w' := by
  refine (apartBytes_any g 0 2 2 (fun r => if r = 0 then A1 else A2) (fun r => if r = 0 then s1 else s2) (fun r => if r = 0 then C1 else C2) (fun r => if r = 0 then X1 else X2) w (by omega) (by omega) (fun r hr => by
    rcases (show r = 0 ∨ r = 1 by omega) with rfl | rfl
    · show s1 ≤ _; omega
    · show s2 ≤ _; omega)
    (fun r s k hr hs h1 h2 => by
      have hx2 : ∀ g, (Value.slice A2 s2 C2).ownBlock = some g → w1.heap.size ≤ g := fun g h => (owns_cells ho2 g h).2.1
      rcases (show r = 0 ∨ r = 1 by omega) with rfl | rfl <;> rcases (show s = 0 ∨ s = 1 by omega) with rfl | rfl
      · rfl
      · have := hlt k h1; have := hx2 k h2; omega
      · have := hlt k h2; have := hx2 k h1; omega
      · rfl)
    (fun r hr => by
      rw [Nat.zero_add, cell_of_row _ _ _ _ _ _ hb]
      rcases (show r = 0 ∨ r = 1 by omega) with rfl | rfl <;> rfl)
    (fun r hr => by
      rcases (show r = 0 ∨ r = 1 by omega) with rfl | rfl
      · exact ho1
      · exact owns_to0 ho2)).mono ?_
  rintro e w' ⟨he, hst⟩
  refine ⟨he, hst.1.mono (fun k _ hk => ?_)⟩
  obtain ⟨r, hr, h⟩ := hk
  rcases (show r = 0 ∨ r = 1 by omega) with rfl | rfl
  · exact .inl h
  · exact .inr h

end Go.Proofs.YtpmldopbjlnknaaGreat
