/-
  Paths: their parts, what is right of them (plain Lean).
-/
import Derived.Test.YtdjdlkobfmahpaaGreatDoorShelf
import Derived.Test.YtdjdlkobfmahpaaGreatDoorRangeA
import Derived.Lib.Bytealg
import Derived.Lib.IndexMore
import Derived.Shelf.RegionOpen
import Derived.Lib.CutLaws
import Derived.WalkKit
import Derived.MapKept
import Derived.Lib.LastIndexByte
namespace Go.Proofs.YtdjdlkobfmahpaaGreatDoor

/-- What stands between slashes. -/
def partsL : List UInt8 → List (List UInt8)
  | [] => [[]]
  | c :: l => if c = 47 then [] :: partsL l else match partsL l with
    | [] => [[c]]
    | p :: r => (c :: p) :: r
theorem parts_ne : ∀ l, partsL l ≠ []
  | [] => by simp [partsL]
  | c :: l => by
    unfold partsL
    split
    · simp
    · split <;> simp
theorem parts_none : ∀ l : List UInt8, Lib.indexByte l 47 = -1 → partsL l = [l]
  | [], _ => rfl
  | c :: l, h => by
    unfold Lib.indexByte at h
    by_cases hc : c = 47
    · subst hc; simp at h
    · have hb : (c == 47) = false := by simpa using hc
      have hge := Lib.indexByte_ge l 47
      have hl : Lib.indexByte l 47 = -1 := by
        rw [hb] at h
        by_cases h2 : Lib.indexByte l 47 = -1
        · exact h2
        · have : (Lib.indexByte l 47 == -1) = false := by simpa using h2
          rw [this] at h
          simp at h
          omega
      unfold partsL
      rw [if_neg hc, parts_none l hl]
theorem parts_some : ∀ (l : List UInt8) (i : Nat), Lib.indexByte l 47 = (i : Int) → i < l.length ∧ partsL l = l.take i :: partsL (l.drop (i + 1))
  | [], i, h => by
    unfold Lib.indexByte at h
    omega
  | c :: l, i, h => by
    unfold Lib.indexByte at h
    by_cases hc : c = 47
    · subst hc
      simp at h
      obtain rfl : i = 0 := by omega
      exact ⟨by simp, by simp [partsL]⟩
    · have hb : (c == 47) = false := by simpa using hc
      rw [hb] at h
      by_cases h2 : Lib.indexByte l 47 = -1
      · rw [h2] at h
        simp at h
      · have h3 : (Lib.indexByte l 47 == -1) = false := by simpa using h2
        rw [h3] at h
        simp at h
        have hge := Lib.indexByte_ge l 47
        obtain ⟨j, hj⟩ : ∃ j : Nat, Lib.indexByte l 47 = (j : Int) := ⟨(Lib.indexByte l 47).toNat, by omega⟩
        obtain rfl : i = j + 1 := by omega
        obtain ⟨h4, h5⟩ := parts_some l j hj
        refine ⟨by simpa using h4, ?_⟩
        rw [partsL, if_neg hc, h5]
        simp
theorem parts_length : ∀ l, (partsL l).length ≤ l.length + 1
  | [] => by simp [partsL]
  | c :: l => by
    have ih := parts_length l
    have hn := parts_ne l
    unfold partsL
    split
    · simpa using ih
    · split
      · simp
      · rename_i p r e
        rw [e] at ih
        simp only [List.length_cons] at ih ⊢
        omega
/-- A part that is right. -/
def okP (p : List UInt8) : Bool := decide (p ≠ [] ∧ p ≠ [46] ∧ p ≠ [46, 46]) && p.all fun c => decide (32 ≤ c.toNat ∧ c.toNat ≠ 127)
/-- A path that is right. -/
def rightP (l : List UInt8) : Bool := decide (l.length ≤ 200) && (partsL l).all okP
end Go.Proofs.YtdjdlkobfmahpaaGreatDoor

/-
  strings.Cut at a slash.
-/
namespace Go.Proofs.YtdjdlkobfmahpaaGreatDoor
open Go.RowKit Go.Shelf

/-- A text of bytes. -/
def by8 (l : List UInt8) : Value := .string ⟨l.toArray⟩
theorem by8_data (s : ByteArray) : by8 s.data.toList = .string s := by unfold by8; rfl
/-- What Cut at a slash hands back. -/
def cutS (l : List UInt8) : List UInt8 × List UInt8 × Bool := if Lib.indexByte l 47 = -1 then (l, [], false) else (l.take (Lib.indexByte l 47).toNat, l.drop ((Lib.indexByte l 47).toNat + 1), true)
theorem cutS_parts (l : List UInt8) : partsL l = (cutS l).1 :: (if (cutS l).2.2 then partsL (cutS l).2.1 else []) := by
  unfold cutS
  by_cases h : Lib.indexByte l 47 = -1
  · rw [if_pos h]
    simp only [Bool.false_eq_true, if_false]
    exact parts_none l h
  · rw [if_neg h]
    have hge := Lib.indexByte_ge l 47
    simp only [if_true]
    exact (parts_some l _ (by omega)).2

set_option maxRecDepth 100000 in
set_option maxHeartbeats 2000000 in
theorem cutlite_any (l : List UInt8) (w : World) (hl : l.length ≤ 1000000) :
    Calls Tryz.prog 121 #[by8 l, .string ⟨#[47]⟩] w fun e w' => e = .returned (.tuple #[by8 (cutS l).1, by8 (cutS l).2.1, .bool (cutS l).2.2]) ∧ ∃ n, w' = w.drewN n := by
  have hge := Lib.indexByte_ge l 47
  by_cases h : Lib.indexByte l 47 = -1
  · unfold cutS by8
    rw [if_pos h]
    go_enter Tryz.func121, Tryz.ntmps121
    go_wp2_with fail
    refine (Tryz.stringslite_Index_one ⟨l.toArray⟩ 47 w).mono ?_
    rintro e w' ⟨rfl, rfl⟩
    rw [show Lib.indexByte (⟨l.toArray⟩ : ByteArray).data.toList 47 = -1 from h]
    go_wp2_with fail
    go_ret3
    exact ⟨rfl, 0, rfl⟩
  · obtain ⟨i, hi⟩ : ∃ i : Nat, Lib.indexByte l 47 = (i : Int) := ⟨(Lib.indexByte l 47).toNat, by omega⟩
    obtain ⟨hil, _⟩ := parts_some l i hi
    have hsz : (⟨l.toArray⟩ : ByteArray).size = l.length := by simp [ByteArray.size]
    have e1 : (⟨(l.take i).toArray⟩ : ByteArray) = (⟨l.toArray⟩ : ByteArray).extract 0 i := by rw [Lib.extract_eq]; simp
    have e2 : (⟨(l.drop (i + 1)).toArray⟩ : ByteArray) = (⟨l.toArray⟩ : ByteArray).extract (i + 1) (⟨l.toArray⟩ : ByteArray).size := by
      rw [Lib.extract_eq, hsz, List.take_of_length_le (by rw [List.length_drop]; exact Nat.le_refl _)]
    unfold cutS by8
    rw [if_neg h, hi]
    simp only [Int.toNat_natCast]
    rw [e1, e2]
    generalize hs : (⟨l.toArray⟩ : ByteArray) = s at *
    have hs2 : s.data.toList = l := by rw [← hs]
    rw [hsz]
    have mixed : Tryz.prog.follows .mixedOrders = true := by kernel_rfl
    have c7 : (↑i + 1 : Int) ≤ 9223372036854775807 := by omega
    have c8 := IntWalk.i64_in ((i : Int) + 1) (by omega)
    have c5 : i ≤ l.length := by omega
    have c6 : i + 1 ≤ l.length := by omega
    have c1 : (0 : Int) ≤ ↑i := by omega
    have c2 : (↑i : Int) ≤ ↑s.size := by omega
    have c3 : (0 : Int) ≤ ↑i + 1 := by omega
    have c4 : (↑i + 1 : Int) ≤ ↑s.size := by omega
    go_enter Tryz.func121, Tryz.ntmps121
    go_wp2_with fail
    refine (Tryz.stringslite_Index_one s 47 w).mono ?_
    rintro e w' ⟨rfl, rfl⟩
    rw [hs2, hi]
    go_wp2_with fail
    go_region_o
    go_wp2
    go_ret3
    exact ⟨rfl, 1, rfl⟩
set_option maxRecDepth 100000 in
set_option maxHeartbeats 2000000 in
theorem cut_any (l : List UInt8) (w : World) (hl : l.length ≤ 1000000) :
    Calls Tryz.prog 73 #[by8 l, .string ⟨#[47]⟩] w fun e w' => e = .returned (.tuple #[by8 (cutS l).1, by8 (cutS l).2.1, .bool (cutS l).2.2]) ∧ ∃ n, w' = w.drewN n := by
  go_enter Tryz.func73, Tryz.ntmps73
  go_wp2_with fail
  refine (cutlite_any l w hl).mono ?_
  rintro e w' ⟨rfl, n, rfl⟩
  go_wp2_with fail
  go_ret3
  exact ⟨rfl, n, rfl⟩
end Go.Proofs.YtdjdlkobfmahpaaGreatDoor

/-
  lang.languages (written by tools/gen-llangs.py): a map of 22 texts; the look-up.
-/
namespace Go.Proofs.YtdjdlkobfmahpaaGreatDoor
open Go.RowKit Go.Shelf

/-- The table: an extension, its language. -/
def tabL : List (List UInt8 × List UInt8) := [([99], [99]), ([104], [99]), ([99, 99], [99, 112, 112]), ([99, 112, 112], [99, 112, 112]), ([104, 112, 112], [99, 112, 112]), ([99, 115, 115], [99, 115, 115]), ([103, 111], [103, 111]), ([104, 116, 109, 108], [104, 116, 109, 108]), ([106, 97, 118, 97], [106, 97, 118, 97]), ([106, 115], [106, 97, 118, 97, 115, 99, 114, 105, 112, 116]), ([109, 106, 115], [106, 97, 118, 97, 115, 99, 114, 105, 112, 116]), ([106, 115, 111, 110], [106, 115, 111, 110]), ([109, 100], [109, 97, 114, 107, 100, 111, 119, 110]), ([112, 121], [112, 121, 116, 104, 111, 110]), ([114, 98], [114, 117, 98, 121]), ([114, 115], [114, 117, 115, 116]), ([115, 104], [115, 104, 101, 108, 108]), ([115, 113, 108], [115, 113, 108]), ([116, 120, 116], [116, 101, 120, 116]), ([116, 115], [116, 121, 112, 101, 115, 99, 114, 105, 112, 116]), ([121, 97, 109, 108], [121, 97, 109, 108]), ([121, 109, 108], [121, 97, 109, 108])]
/-- The language of an extension. -/
def nameL (e : List UInt8) : List UInt8 := ((tabL.find? fun r => r.1 == e).map (·.2)).getD []
/-- The map's entries. -/
def entsFrom : Nat → List (List UInt8 × List UInt8) → List MapEntry
  | _, [] => []
  | k, r :: l => { key := by8 r.1, val := .agg #[by8 r.2], born := k } :: entsFrom (k + 1) l
theorem ents_push : ∀ (l : List (List UInt8 × List UInt8)) (k : Nat) (r : List UInt8 × List UInt8), entsFrom k (l ++ [r]) = entsFrom k l ++ [{ key := by8 r.1, val := .agg #[by8 r.2], born := k + l.length }]
  | [], k, r => by simp [entsFrom]
  | q :: l, k, r => by
    simp only [List.cons_append, entsFrom, ents_push l (k + 1) r, List.length_cons]
    rw [show k + 1 + l.length = k + (l.length + 1) by omega]
/-- The map of the first rows at block g. -/
def MapL (w : World) (g k : Nat) : Prop := w.heap[g]? = some (.map (entsFrom 0 (tabL.take k)).toArray k)
theorem MapL.below {w w' : World} {g k : Nat} (h : MapL w g k) (hb : Below w.heap.size w w') : MapL w' g k := (hb.block g (Array.getElem?_eq_some_iff.1 h).1).trans h
theorem by8_beq (a b : List UInt8) : ((⟨a.toArray⟩ : ByteArray) == ⟨b.toArray⟩) = (a == b) := by
  rw [beq_toListBytes, Lib.toList_data, Lib.toList_data]
theorem findNow_ents (e : List UInt8) : ∀ (l : List (List UInt8 × List UInt8)) (k i : Nat), ∃ j, Instr.findNow .string (by8 e) (entsFrom k l) i = some ((l.find? fun r => r.1 == e).map fun r => (j, .agg #[by8 r.2]))
  | [], k, i => ⟨0, rfl⟩
  | r :: l, k, i => by
    obtain ⟨j, hj⟩ := findNow_ents e l (k + 1) (i + 1)
    by_cases h : (r.1 == e) = true
    · refine ⟨i, ?_⟩
      have h2 : (e == r.1) = true := by rw [beq_iff_eq] at h ⊢; exact h.symm
      simp only [entsFrom, Instr.findNow, by8, Instr.sameNow, by8_beq, h2, List.find?_cons, h, Option.map_some]
    · have h1 : (r.1 == e) = false := by simpa using h
      have h2 : (e == r.1) = false := by rw [beq_eq_false_iff_ne] at h1 ⊢; exact fun x => h1 x.symm
      refine ⟨j, ?_⟩
      have : Instr.findNow .string (by8 e) (entsFrom k (r :: l)) i = Instr.findNow .string (by8 e) (entsFrom (k + 1) l) (i + 1) := by
        simp only [entsFrom, Instr.findNow, by8, Instr.sameNow, by8_beq, h2]
      rw [this, hj, List.find?_cons, h1]
theorem lookup_tab (e : List UInt8) (g : Nat) (w : World) (h : MapL w g 22) :
    (Instr.lookup 51 (.map (some g)) (by8 e) false).run Tryz.prog w = .ok (.agg #[by8 (nameL e)]) w := by
  obtain ⟨j, hj⟩ := findNow_ents e tabL 0 0
  have hb : w.heap[g]? = some (.map (entsFrom 0 tabL).toArray 22) := h
  have hc : ∀ b, (Instr.checkKey b 10000 9 (by8 e)).run Tryz.prog w = .ok () w := fun b => MapKept.run_checkKey (k := by8 e) Tryz.underlying9 (by unfold by8; simp [MapKept.IsKey]) _ 9999
  have hz : (zeroValue 54).run Tryz.prog w = .ok (.agg #[.string ⟨#[]⟩]) w := by kernel_rfl
  have hf := MapKept.run_findKey (P := Tryz.prog) (w := w) (l := (entsFrom 0 tabL)) Tryz.underlying9 hj
  unfold nameL
  cases hq : tabL.find? (fun r => r.1 == e) with
  | none =>
    rw [hq] at hf
    simp [Instr.lookup, run_underlying Tryz.underlying51, MapKept.run_getObj_map hb, hc, hf, hz, Result.andThen]
    rfl
  | some r =>
    rw [hq] at hf
    simp [Instr.lookup, run_underlying Tryz.underlying51, MapKept.run_getObj_map hb, hc, hf, Result.andThen]
/-- One more row. -/
theorem insert_run (w : World) (g k : Nat) (r : List UInt8 × List UInt8) (hr : tabL[k]? = some r) (hM : MapL w g k) (hno : ((tabL.take k).find? fun q => q.1 == r.1) = none) :
    ∃ w', (Instr.mapUpdate 51 (.map (some g)) (by8 r.1) (.agg #[by8 r.2])).run Tryz.prog w = .ok () w' ∧ MapL w' g (k + 1) ∧ ∀ B, B ≤ g → Below B w w' := by
  have hkl : k < tabL.length := (List.getElem?_eq_some_iff.1 hr).1
  have hlt := (Array.getElem?_eq_some_iff.1 hM).1
  obtain ⟨j, hj⟩ := findNow_ents r.1 (tabL.take k) 0 0
  rw [hno] at hj
  have hc : (Instr.checkKey false 10000 9 (by8 r.1)).run Tryz.prog w = .ok () w := MapKept.run_checkKey (k := by8 r.1) Tryz.underlying9 (by unfold by8; simp [MapKept.IsKey]) _ 9999
  have hf := MapKept.run_findKey (P := Tryz.prog) (w := w) (l := (entsFrom 0 (tabL.take k))) Tryz.underlying9 hj
  have hb : w.heap[g]? = some (.map (entsFrom 0 (tabL.take k)).toArray k) := hM
  refine ⟨{ w with heap := w.heap.setIfInBounds g (.map ((entsFrom 0 (tabL.take k)).toArray.push { key := by8 r.1, val := .agg #[by8 r.2], born := k }) (k + 1)) }, ?_, ?_, ?_⟩
  · simp [Instr.mapUpdate, run_underlying Tryz.underlying51, MapKept.run_getObj_map hb, hc, hf, MapKept.run_setObj_map _ hb, Result.andThen]
  · have ht : tabL.take (k + 1) = tabL.take k ++ [r] := by rw [List.take_add_one, hr]; rfl
    unfold MapL
    rw [ht, ents_push, List.length_take, Nat.min_eq_left (by omega)]
    simp [hlt]
  · intro B hB
    exact ⟨rfl, rfl, rfl, by simp, fun q hq => by simp [Array.getElem?_setIfInBounds]; intro e; omega⟩
end Go.Proofs.YtdjdlkobfmahpaaGreatDoor

/-
  lang.languages (written by tools/gen-llangs.py).
-/
namespace Go.Proofs.YtdjdlkobfmahpaaGreatDoor
open Go.RowKit Go.Shelf

theorem Below.same {B : Nat} {a b c : World} (h : Below B a b) (k : Below B b c) (_ : B ≤ b.heap.size) : Below B a c := h.trans k
set_option maxRecDepth 100000 in
set_option maxHeartbeats 4000000 in
theorem languages_any (w : World) :
    Calls Tryz.prog 27 #[] w fun e w' => ∃ g, e = .returned (.map (some g)) ∧ MapL w' g 22 ∧ Below w.heap.size w w' := by
  obtain ⟨w0, hw0⟩ : ∃ w0, w.alloc (.map #[] 0) = w0 := ⟨_, rfl⟩
  have H0 := hide (And.intro (show MapL w0 w.heap.size 0 by rw [← hw0]; exact heap_alloc_new _ _) (show Below w.heap.size w w0 by rw [← hw0]; exact below_alloc _ _))
  have HW := hide hw0
  clear hw0
  go_enter Tryz.func27, Tryz.ntmps27
  have hmk : (Instr.makeMap 51 none).run Tryz.prog w = .ok (.map (some w.heap.size)) (w.alloc (.map #[] 0)) := rfl
  rw [HW.out] at hmk
  obtain ⟨w1, hr1, hM, hb⟩ := insert_run w0 w.heap.size 0 ([99], [99]) rfl H0.out.1 (by decide +kernel)
  have H1 := hide (And.intro hM (H0.out.2.trans (hb w.heap.size (Nat.le_refl _))))
  have hq1 : (Instr.mapUpdate 51 (.map (some w.heap.size)) (.string ⟨#[99]⟩) (.agg #[.string ⟨#[99]⟩])).run Tryz.prog w0 = .ok () w1 := hr1
  clear hM hb hr1 H0
  obtain ⟨w2, hr2, hM, hb⟩ := insert_run w1 w.heap.size 1 ([104], [99]) rfl H1.out.1 (by decide +kernel)
  have H2 := hide (And.intro hM (H1.out.2.trans (hb w.heap.size (Nat.le_refl _))))
  have hq2 : (Instr.mapUpdate 51 (.map (some w.heap.size)) (.string ⟨#[104]⟩) (.agg #[.string ⟨#[99]⟩])).run Tryz.prog w1 = .ok () w2 := hr2
  clear hM hb hr2 H1
  obtain ⟨w3, hr3, hM, hb⟩ := insert_run w2 w.heap.size 2 ([99, 99], [99, 112, 112]) rfl H2.out.1 (by decide +kernel)
  have H3 := hide (And.intro hM (H2.out.2.trans (hb w.heap.size (Nat.le_refl _))))
  have hq3 : (Instr.mapUpdate 51 (.map (some w.heap.size)) (.string ⟨#[99, 99]⟩) (.agg #[.string ⟨#[99, 112, 112]⟩])).run Tryz.prog w2 = .ok () w3 := hr3
  clear hM hb hr3 H2
  obtain ⟨w4, hr4, hM, hb⟩ := insert_run w3 w.heap.size 3 ([99, 112, 112], [99, 112, 112]) rfl H3.out.1 (by decide +kernel)
  have H4 := hide (And.intro hM (H3.out.2.trans (hb w.heap.size (Nat.le_refl _))))
  have hq4 : (Instr.mapUpdate 51 (.map (some w.heap.size)) (.string ⟨#[99, 112, 112]⟩) (.agg #[.string ⟨#[99, 112, 112]⟩])).run Tryz.prog w3 = .ok () w4 := hr4
  clear hM hb hr4 H3
  obtain ⟨w5, hr5, hM, hb⟩ := insert_run w4 w.heap.size 4 ([104, 112, 112], [99, 112, 112]) rfl H4.out.1 (by decide +kernel)
  have H5 := hide (And.intro hM (H4.out.2.trans (hb w.heap.size (Nat.le_refl _))))
  have hq5 : (Instr.mapUpdate 51 (.map (some w.heap.size)) (.string ⟨#[104, 112, 112]⟩) (.agg #[.string ⟨#[99, 112, 112]⟩])).run Tryz.prog w4 = .ok () w5 := hr5
  clear hM hb hr5 H4
  obtain ⟨w6, hr6, hM, hb⟩ := insert_run w5 w.heap.size 5 ([99, 115, 115], [99, 115, 115]) rfl H5.out.1 (by decide +kernel)
  have H6 := hide (And.intro hM (H5.out.2.trans (hb w.heap.size (Nat.le_refl _))))
  have hq6 : (Instr.mapUpdate 51 (.map (some w.heap.size)) (.string ⟨#[99, 115, 115]⟩) (.agg #[.string ⟨#[99, 115, 115]⟩])).run Tryz.prog w5 = .ok () w6 := hr6
  clear hM hb hr6 H5
  obtain ⟨w7, hr7, hM, hb⟩ := insert_run w6 w.heap.size 6 ([103, 111], [103, 111]) rfl H6.out.1 (by decide +kernel)
  have H7 := hide (And.intro hM (H6.out.2.trans (hb w.heap.size (Nat.le_refl _))))
  have hq7 : (Instr.mapUpdate 51 (.map (some w.heap.size)) (.string ⟨#[103, 111]⟩) (.agg #[.string ⟨#[103, 111]⟩])).run Tryz.prog w6 = .ok () w7 := hr7
  clear hM hb hr7 H6
  obtain ⟨w8, hr8, hM, hb⟩ := insert_run w7 w.heap.size 7 ([104, 116, 109, 108], [104, 116, 109, 108]) rfl H7.out.1 (by decide +kernel)
  have H8 := hide (And.intro hM (H7.out.2.trans (hb w.heap.size (Nat.le_refl _))))
  have hq8 : (Instr.mapUpdate 51 (.map (some w.heap.size)) (.string ⟨#[104, 116, 109, 108]⟩) (.agg #[.string ⟨#[104, 116, 109, 108]⟩])).run Tryz.prog w7 = .ok () w8 := hr8
  clear hM hb hr8 H7
  obtain ⟨w9, hr9, hM, hb⟩ := insert_run w8 w.heap.size 8 ([106, 97, 118, 97], [106, 97, 118, 97]) rfl H8.out.1 (by decide +kernel)
  have H9 := hide (And.intro hM (H8.out.2.trans (hb w.heap.size (Nat.le_refl _))))
  have hq9 : (Instr.mapUpdate 51 (.map (some w.heap.size)) (.string ⟨#[106, 97, 118, 97]⟩) (.agg #[.string ⟨#[106, 97, 118, 97]⟩])).run Tryz.prog w8 = .ok () w9 := hr9
  clear hM hb hr9 H8
  obtain ⟨w10, hr10, hM, hb⟩ := insert_run w9 w.heap.size 9 ([106, 115], [106, 97, 118, 97, 115, 99, 114, 105, 112, 116]) rfl H9.out.1 (by decide +kernel)
  have H10 := hide (And.intro hM (H9.out.2.trans (hb w.heap.size (Nat.le_refl _))))
  have hq10 : (Instr.mapUpdate 51 (.map (some w.heap.size)) (.string ⟨#[106, 115]⟩) (.agg #[.string ⟨#[106, 97, 118, 97, 115, 99, 114, 105, 112, 116]⟩])).run Tryz.prog w9 = .ok () w10 := hr10
  clear hM hb hr10 H9
  obtain ⟨w11, hr11, hM, hb⟩ := insert_run w10 w.heap.size 10 ([109, 106, 115], [106, 97, 118, 97, 115, 99, 114, 105, 112, 116]) rfl H10.out.1 (by decide +kernel)
  have H11 := hide (And.intro hM (H10.out.2.trans (hb w.heap.size (Nat.le_refl _))))
  have hq11 : (Instr.mapUpdate 51 (.map (some w.heap.size)) (.string ⟨#[109, 106, 115]⟩) (.agg #[.string ⟨#[106, 97, 118, 97, 115, 99, 114, 105, 112, 116]⟩])).run Tryz.prog w10 = .ok () w11 := hr11
  clear hM hb hr11 H10
  obtain ⟨w12, hr12, hM, hb⟩ := insert_run w11 w.heap.size 11 ([106, 115, 111, 110], [106, 115, 111, 110]) rfl H11.out.1 (by decide +kernel)
  have H12 := hide (And.intro hM (H11.out.2.trans (hb w.heap.size (Nat.le_refl _))))
  have hq12 : (Instr.mapUpdate 51 (.map (some w.heap.size)) (.string ⟨#[106, 115, 111, 110]⟩) (.agg #[.string ⟨#[106, 115, 111, 110]⟩])).run Tryz.prog w11 = .ok () w12 := hr12
  clear hM hb hr12 H11
  obtain ⟨w13, hr13, hM, hb⟩ := insert_run w12 w.heap.size 12 ([109, 100], [109, 97, 114, 107, 100, 111, 119, 110]) rfl H12.out.1 (by decide +kernel)
  have H13 := hide (And.intro hM (H12.out.2.trans (hb w.heap.size (Nat.le_refl _))))
  have hq13 : (Instr.mapUpdate 51 (.map (some w.heap.size)) (.string ⟨#[109, 100]⟩) (.agg #[.string ⟨#[109, 97, 114, 107, 100, 111, 119, 110]⟩])).run Tryz.prog w12 = .ok () w13 := hr13
  clear hM hb hr13 H12
  obtain ⟨w14, hr14, hM, hb⟩ := insert_run w13 w.heap.size 13 ([112, 121], [112, 121, 116, 104, 111, 110]) rfl H13.out.1 (by decide +kernel)
  have H14 := hide (And.intro hM (H13.out.2.trans (hb w.heap.size (Nat.le_refl _))))
  have hq14 : (Instr.mapUpdate 51 (.map (some w.heap.size)) (.string ⟨#[112, 121]⟩) (.agg #[.string ⟨#[112, 121, 116, 104, 111, 110]⟩])).run Tryz.prog w13 = .ok () w14 := hr14
  clear hM hb hr14 H13
  obtain ⟨w15, hr15, hM, hb⟩ := insert_run w14 w.heap.size 14 ([114, 98], [114, 117, 98, 121]) rfl H14.out.1 (by decide +kernel)
  have H15 := hide (And.intro hM (H14.out.2.trans (hb w.heap.size (Nat.le_refl _))))
  have hq15 : (Instr.mapUpdate 51 (.map (some w.heap.size)) (.string ⟨#[114, 98]⟩) (.agg #[.string ⟨#[114, 117, 98, 121]⟩])).run Tryz.prog w14 = .ok () w15 := hr15
  clear hM hb hr15 H14
  obtain ⟨w16, hr16, hM, hb⟩ := insert_run w15 w.heap.size 15 ([114, 115], [114, 117, 115, 116]) rfl H15.out.1 (by decide +kernel)
  have H16 := hide (And.intro hM (H15.out.2.trans (hb w.heap.size (Nat.le_refl _))))
  have hq16 : (Instr.mapUpdate 51 (.map (some w.heap.size)) (.string ⟨#[114, 115]⟩) (.agg #[.string ⟨#[114, 117, 115, 116]⟩])).run Tryz.prog w15 = .ok () w16 := hr16
  clear hM hb hr16 H15
  obtain ⟨w17, hr17, hM, hb⟩ := insert_run w16 w.heap.size 16 ([115, 104], [115, 104, 101, 108, 108]) rfl H16.out.1 (by decide +kernel)
  have H17 := hide (And.intro hM (H16.out.2.trans (hb w.heap.size (Nat.le_refl _))))
  have hq17 : (Instr.mapUpdate 51 (.map (some w.heap.size)) (.string ⟨#[115, 104]⟩) (.agg #[.string ⟨#[115, 104, 101, 108, 108]⟩])).run Tryz.prog w16 = .ok () w17 := hr17
  clear hM hb hr17 H16
  obtain ⟨w18, hr18, hM, hb⟩ := insert_run w17 w.heap.size 17 ([115, 113, 108], [115, 113, 108]) rfl H17.out.1 (by decide +kernel)
  have H18 := hide (And.intro hM (H17.out.2.trans (hb w.heap.size (Nat.le_refl _))))
  have hq18 : (Instr.mapUpdate 51 (.map (some w.heap.size)) (.string ⟨#[115, 113, 108]⟩) (.agg #[.string ⟨#[115, 113, 108]⟩])).run Tryz.prog w17 = .ok () w18 := hr18
  clear hM hb hr18 H17
  obtain ⟨w19, hr19, hM, hb⟩ := insert_run w18 w.heap.size 18 ([116, 120, 116], [116, 101, 120, 116]) rfl H18.out.1 (by decide +kernel)
  have H19 := hide (And.intro hM (H18.out.2.trans (hb w.heap.size (Nat.le_refl _))))
  have hq19 : (Instr.mapUpdate 51 (.map (some w.heap.size)) (.string ⟨#[116, 120, 116]⟩) (.agg #[.string ⟨#[116, 101, 120, 116]⟩])).run Tryz.prog w18 = .ok () w19 := hr19
  clear hM hb hr19 H18
  obtain ⟨w20, hr20, hM, hb⟩ := insert_run w19 w.heap.size 19 ([116, 115], [116, 121, 112, 101, 115, 99, 114, 105, 112, 116]) rfl H19.out.1 (by decide +kernel)
  have H20 := hide (And.intro hM (H19.out.2.trans (hb w.heap.size (Nat.le_refl _))))
  have hq20 : (Instr.mapUpdate 51 (.map (some w.heap.size)) (.string ⟨#[116, 115]⟩) (.agg #[.string ⟨#[116, 121, 112, 101, 115, 99, 114, 105, 112, 116]⟩])).run Tryz.prog w19 = .ok () w20 := hr20
  clear hM hb hr20 H19
  obtain ⟨w21, hr21, hM, hb⟩ := insert_run w20 w.heap.size 20 ([121, 97, 109, 108], [121, 97, 109, 108]) rfl H20.out.1 (by decide +kernel)
  have H21 := hide (And.intro hM (H20.out.2.trans (hb w.heap.size (Nat.le_refl _))))
  have hq21 : (Instr.mapUpdate 51 (.map (some w.heap.size)) (.string ⟨#[121, 97, 109, 108]⟩) (.agg #[.string ⟨#[121, 97, 109, 108]⟩])).run Tryz.prog w20 = .ok () w21 := hr21
  clear hM hb hr21 H20
  obtain ⟨w22, hr22, hM, hb⟩ := insert_run w21 w.heap.size 21 ([121, 109, 108], [121, 97, 109, 108]) rfl H21.out.1 (by decide +kernel)
  have H22 := hide (And.intro hM (H21.out.2.trans (hb w.heap.size (Nat.le_refl _))))
  have hq22 : (Instr.mapUpdate 51 (.map (some w.heap.size)) (.string ⟨#[121, 109, 108]⟩) (.agg #[.string ⟨#[121, 97, 109, 108]⟩])).run Tryz.prog w21 = .ok () w22 := hr22
  clear hM hb hr22 H21
  go_wp2_with fail
  go_ret
  exact ⟨_, rfl, H22.out.1, H22.out.2⟩
end Go.Proofs.YtdjdlkobfmahpaaGreatDoor

/-
  lang.extension.
-/
namespace Go.Proofs.YtdjdlkobfmahpaaGreatDoor
open Go.RowKit Go.Shelf

/-- Where the last point stands. -/
def lastI (p : List UInt8) : Int := Lib.lastIndexByte ⟨p.toArray⟩ 46
/-- What stands behind the last point, if that is not the first byte. -/
def extL (p : List UInt8) : List UInt8 := if 0 < lastI p then p.drop ((lastI p).toNat + 1) else []
theorem lastI_bounds (p : List UInt8) : -1 ≤ lastI p ∧ lastI p < p.length := by
  have h := Lib.lastIdx_spec ⟨p.toArray⟩ 46 (⟨p.toArray⟩ : ByteArray).size
  have hs : (⟨p.toArray⟩ : ByteArray).size = p.length := by simp [ByteArray.size]
  unfold lastI Lib.lastIndexByte
  rw [hs] at h ⊢
  rcases h with ⟨h, _⟩ | ⟨i, hi, h, _⟩
  · rw [h]; omega
  · rw [h]; omega
set_option maxRecDepth 100000 in
set_option maxHeartbeats 2000000 in
theorem extension_any (p : List UInt8) (w : World) (hp : p.length ≤ 1000000) :
    Calls Tryz.prog 35 #[by8 p] w fun e w' => e = .returned (by8 (extL p)) ∧ Below w.heap.size w w' := by
  have hb := lastI_bounds p
  have hsz : (⟨p.toArray⟩ : ByteArray).size = p.length := by simp [ByteArray.size]
  by_cases h : 0 < lastI p
  · obtain ⟨i, hi⟩ : ∃ i : Nat, lastI p = (i : Int) := ⟨(lastI p).toNat, by omega⟩
    have hil : i < p.length := by omega
    have e2 : (⟨(p.drop (i + 1)).toArray⟩ : ByteArray) = (⟨p.toArray⟩ : ByteArray).extract (i + 1) (⟨p.toArray⟩ : ByteArray).size := by
      rw [Lib.extract_eq, hsz, List.take_of_length_le (by rw [List.length_drop]; exact Nat.le_refl _)]
    have hi0 : (0 : Int) < (i : Int) := by omega
    unfold extL by8
    rw [if_pos h, hi, Int.toNat_natCast, e2]
    have hi2 : Lib.lastIndexByte (⟨p.toArray⟩ : ByteArray) 46 = (i : Int) := hi
    generalize hs : (⟨p.toArray⟩ : ByteArray) = s at *
    rw [hsz]
    have c5 : i + 1 ≤ p.length := by omega
    have c4 : (↑i + 1 : Int) ≤ ↑s.size := by omega
    have c3 : (0 : Int) ≤ ↑i + 1 := by omega
    have c8 := IntWalk.i64_in ((i : Int) + 1) (by omega)
    go_enter Tryz.func35, Tryz.ntmps35
    go_wp2_with fail
    refine (Tryz.strings_LastIndexByte s 46 (by omega) w).mono ?_
    rintro e w' ⟨rfl, rfl⟩
    rw [hi2]
    go_wp2_with fail
    go_ret
    exact ⟨rfl, Below.refl _ _⟩
  · have hle : lastI p ≤ 0 := by omega
    have hle2 : Lib.lastIndexByte (⟨p.toArray⟩ : ByteArray) 46 ≤ 0 := hle
    unfold extL by8
    rw [if_neg h]
    generalize hs : (⟨p.toArray⟩ : ByteArray) = s at *
    go_enter Tryz.func35, Tryz.ntmps35
    go_wp2_with fail
    refine (Tryz.strings_LastIndexByte s 46 (by omega) w).mono ?_
    rintro e w' ⟨rfl, rfl⟩
    generalize Lib.lastIndexByte s 46 = q at *
    go_wp2_with fail
    go_ret
    exact ⟨rfl, Below.refl _ _⟩
end Go.Proofs.YtdjdlkobfmahpaaGreatDoor
