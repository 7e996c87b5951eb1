/-
  The chapter's example.
-/
import Derived.Test.YtpdlapnliiengaaGreatGPlacs
import Derived.Test.YtpdlapnliiengaaGreatGRun
import Derived.Test.YtpdlapnliiengaaGreatTexts
import Derived.Lib.SlBytesConst
import Derived.WalkSmall
namespace Go.Proofs.YtpdlapnliiengaaGreat
open Go.RowKit Go.Shelf

/-- The bytes of the example. -/
def exZ (i : Nat) : Nat := ([97, 98, 99, 97, 98] : List Nat).getD i 0
theorem exZ_lt (i : Nat) : exZ i < 256 := by
  match i with
  | 0 => decide
  | 1 => decide
  | 2 => decide
  | 3 => decide
  | 4 => decide
  | n + 5 => show (([97, 98, 99, 97, 98] : List Nat).getD (n + 5) 0) < 256; simp
theorem ex_set : gset exZ 3 = [6382179, 6447969, 6512994] := by
  refine asc_eq (gset_asc exZ_lt 3) (by decide) fun x => ?_
  rw [gset_mem exZ_lt]
  constructor
  · rintro ⟨i, hi, rfl⟩
    match i, hi with
    | 0, _ => decide
    | 1, _ => decide
    | 2, _ => decide
  · intro h
    simp only [List.mem_cons, List.not_mem_nil, or_false] at h
    rcases h with rfl | rfl | rfl
    · exact ⟨0, by decide, by decide⟩
    · exact ⟨1, by decide, by decide⟩
    · exact ⟨2, by decide, by decide⟩
/-- A row of texts. -/
theorem owns_strs {w : World} {B n : Nat} {v : Value} {xs : List ByteArray} (h : w.ownsRow B 9 1 v n (xs.map .string)) : ∃ a c, v = .slice a n c ∧ n = xs.length ∧ n ≤ c ∧ c ≤ 9223372036854775807 ∧ Strs w a n (fun i => xs.getD i ⟨#[]⟩) := by
  obtain ⟨a, c, rfl⟩ := owns_slice h
  have hl : xs.length = n := by have := h.1; rw [List.length_map] at this; omega
  refine ⟨a, c, rfl, hl.symm, ?_⟩
  obtain ⟨_, ⟨hv, h0⟩ | ⟨g, cap, cur, hv, hB, hg, hnc, hcm, hcs, hx⟩⟩ := h
  · cases hv; exact ⟨by omega, by omega, .inl h0⟩
  · cases hv
    unfold maxLen at hcm
    refine ⟨hnc, hcm, .inr ⟨g, 0, rfl, fun i hi => ?_⟩⟩
    rw [Nat.zero_add, cell_of_row _ _ _ _ _ _ hg]
    have h1 : (xs.map Value.string)[i]? = some (.string (xs.getD i ⟨#[]⟩)) := by
      rw [List.getElem?_map, List.getElem?_eq_getElem (by omega)]
      simp [List.getD_eq_getElem?_getD, List.getElem?_eq_getElem (show i < xs.length by omega)]
    rw [← hx, List.getElem?_take_of_lt (by omega)] at h1
    simpa using h1
set_option maxRecDepth 100000 in
set_option maxHeartbeats 1000000 in
theorem awake_any (w : World) : Calls Tryz.prog 5 #[] w fun e w' => e = .returned (.bool true) ∧ Below w.heap.size w w' := by
  have kc := fun (w : World) (C : Array Value) (n c : Nat) => Lib.run_convert_bytes_const (P := Tryz.prog) w 22 5 C n c Tryz.underlying22 Tryz.underlying5
  go_enter Tryz.func5, Tryz.ntmps5
  go_wp2_with fail
  obtain ⟨W1, hW1⟩ : ∃ W1, w.alloc (.cells #[.int .u8 97, .int .u8 98, .int .u8 99, .int .u8 97, .int .u8 98] 5 (5, 6)) = W1 := ⟨_, rfl⟩
  have hn1 : W1.heap[w.heap.size]? = some (.cells #[.int .u8 97, .int .u8 98, .int .u8 99, .int .u8 97, .int .u8 98] 5 (5, 6)) := by rw [← hW1]; exact World.alloc_heap_new _ _
  have hB1 : Below w.heap.size w W1 := by rw [← hW1]; exact below_alloc _ _
  have hz1 : Byt W1 (some ⟨w.heap.size, 0, none⟩) 5 exZ := ⟨exZ_lt, .inr ⟨_, _, rfl, fun j hj => by
    rw [cell_of_row _ _ _ _ _ _ hn1]
    match j, hj with
    | 0, _ => rfl
    | 1, _ => rfl
    | 2, _ => rfl
    | 3, _ => rfl
    | 4, _ => rfl⟩⟩
  rw [hW1]
  clear hW1 hn1
  refine (places_any _ 5 5 exZ W1 (by omega) hz1).mono ?_
  rintro e w2 ⟨v, vf, rfl, hP, hB2⟩
  have hrow := hP.row
  have hpl := hP.places 6512994 (by rw [show 5 - 2 = 3 from rfl, ex_set]; decide)
  rw [show 5 - 2 = 3 from rfl, ex_set] at hrow
  rw [show plL exZ (List.range (5 - 2)) 6512994 = [2] from by decide] at hpl
  obtain ⟨A, C, rfl⟩ := owns_slice hrow
  rw [show ([6382179, 6447969, 6512994] : List Nat).length = 3 from rfl] at hrow ⊢
  obtain ⟨b, C1, e1, c4, _, hC1, hC2⟩ := owns_cellS (i := 4) hrow rfl
  obtain ⟨b1, C3, e3, c5, _⟩ := owns_cellS (i := 5) hrow rfl
  cases e1
  cases e3
  rw [show gtx 6512994 = .string ⟨#[99, 97, 98]⟩ from by rfl] at c4
  generalize vf 6512994 = v2 at *
  obtain ⟨A2, D2, rfl⟩ := owns_slice hpl
  obtain ⟨b2, D3, e4, d1, _, hD1, hD2⟩ := owns_cellS (i := 1) hpl rfl
  cases e4
  have hlen1 : ([2] : List Nat).length = 1 := rfl
  rw [hlen1] at *
  have d1 : w2.cell? ⟨b2, 1, none⟩ = some (.int .i64 2) := d1
  have HH := hide (And.intro hB1 hB2)
  clear hB1 hB2 hz1 hrow hpl hP hlen1
  go_wp2_with fail
  obtain ⟨hB1, hB2⟩ := HH.out
  obtain ⟨W3, hW3⟩ : ∃ W3, w2.alloc (.cells #[.int .u8 97, .int .u8 98, .int .u8 99, .int .u8 97, .int .u8 98] 5 (5, 6)) = W3 := ⟨_, rfl⟩
  have hn3 : W3.heap[w2.heap.size]? = some (.cells #[.int .u8 97, .int .u8 98, .int .u8 99, .int .u8 97, .int .u8 98] 5 (5, 6)) := by rw [← hW3]; exact World.alloc_heap_new _ _
  have hB3 : Below w2.heap.size w2 W3 := by rw [← hW3]; exact below_alloc _ _
  have hz3 : Byt W3 (some ⟨w2.heap.size, 0, none⟩) 5 exZ := ⟨exZ_lt, .inr ⟨_, _, rfl, fun j hj => by
    rw [cell_of_row _ _ _ _ _ _ hn3]
    match j, hj with
    | 0, _ => rfl
    | 1, _ => rfl
    | 2, _ => rfl
    | 3, _ => rfl
    | 4, _ => rfl⟩⟩
  rw [hW3]
  clear hW3 hn3 kc
  have hgr := grams_any (some ⟨w2.heap.size, 0, none⟩) 5 5 exZ W3 (by omega) hz3
  rw [show sortK (esL exZ (List.range (5 - 2))) = [6382179, 6447969, 6512994] from ex_set, show (esL exZ (List.range (5 - 2))).length = 3 from by rw [← sortK_len]; exact congrArg List.length ex_set] at hgr
  refine hgr.mono ?_
  rintro e w4 ⟨v4, rfl, ho4, hB4⟩
  have ho4' : w4.ownsRow W3.heap.size 9 1 v4 3 (([⟨#[97, 98, 99]⟩, ⟨#[98, 99, 97]⟩, ⟨#[99, 97, 98]⟩] : List ByteArray).map .string) := ho4
  obtain ⟨a4, c4x, rfl, _, hc4, hm4, hs4⟩ := owns_strs ho4'
  have hB24 := hB3.trans (hB4.mono hB3.size)
  have c4 := cell_thru c4 hB24
  have c5 := cell_thru c5 hB24
  have d1 := cell_thru d1 hB24
  have hsb : ∀ W : World, Strs (W.alloc (.cells #[.string ⟨#[97, 98, 99]⟩, .string ⟨#[98, 99, 97]⟩, .string ⟨#[99, 97, 98]⟩] 9)) (some ⟨W.heap.size, 0, none⟩) 3 (fun i => ([⟨#[97, 98, 99]⟩, ⟨#[98, 99, 97]⟩, ⟨#[99, 97, 98]⟩] : List ByteArray).getD i ⟨#[]⟩) := fun W => .inr ⟨_, 0, rfl, fun i hi => by
    rw [Nat.zero_add, cell_of_row _ _ _ _ _ _ (heap_alloc_new _ _)]
    match i, hi with
    | 0, _ => rfl
    | 1, _ => rfl
    | 2, _ => rfl⟩
  have HH := hide (And.intro hB1 (And.intro hB2 hB24))
  clear hB1 hB2 hB3 hB4 hB24 hz3 ho4 ho4' hgr
  have HS := hide (And.intro hs4 hsb)
  clear hs4 hsb
  go_wp2_with fail
  refine (sameTexts_any _ _ 3 _ _ _ _ (by omega) (HS.out.1.below (below_alloc _ _)) (HS.out.2 w4)).mono ?_
  rintro e w5 ⟨rfl, hB5⟩
  have hB45 : Below w4.heap.size w4 w5 := (below_alloc w4 _).trans (hB5.mono (by simp))
  have c4 := cell_thru c4 hB45
  have c5 := cell_thru c5 hB45
  have d1 := cell_thru d1 hB45
  have HB := hide hB45
  clear hB5 hB45
  go_wp2_with fail
  go_ret
  refine ⟨rfl, ?_⟩
  obtain ⟨hB1, hB2, hB24⟩ := HH.out
  have h1 := hB1.size
  have h2 := hB2.size
  have h3 := hB24.size
  exact ((hB1.trans (hB2.mono h1)).trans (hB24.mono (by omega))).trans (HB.out.mono (by omega))
end Go.Proofs.YtpdlapnliiengaaGreat
