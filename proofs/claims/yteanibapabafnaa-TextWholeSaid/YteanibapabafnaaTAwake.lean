/-
  The chapter's example.
-/
import Derived.Test.YteanibapabafnaaTLines
import Derived.Test.YteanibapabafnaaTLine
import Derived.Test.YteanibapabafnaaTText
import Derived.Test.YteanibapabafnaaTRef
import Derived.Lib.SlBytesConst
import Derived.WalkSmall
namespace Go.Proofs.Yteanibapabafnaa
open Go.RowKit

/-- The bytes of the example. -/
def exZ (i : Nat) : Nat := ([97, 98, 10, 99] : List Nat).getD i 0
theorem exZ_lt (i : Nat) : exZ i < 256 := by
  match i with
  | 0 => decide
  | 1 => decide
  | 2 => decide
  | 3 => decide
  | n + 4 => show (([97, 98, 10, 99] : List Nat).getD (n + 4) 0) < 256; simp
set_option maxRecDepth 100000 in
set_option maxHeartbeats 1000000 in
theorem awake_any (w : World) : Calls Try.prog 7 #[] w fun e w' => e = .returned (.bool true) ∧ Below w.heap.size w w' := by
  have kc := fun (w : World) (C : Array Value) (n c : Nat) => Lib.run_convert_bytes_const (P := Try.prog) w 22 5 C n c Try.underlying22 Try.underlying5
  go_enter Try.func7, Try.ntmps7
  go_wp2_with fail
  obtain ⟨W1, hW1⟩ : ∃ W1, w.alloc (.cells #[.int .u8 97, .int .u8 98, .int .u8 10, .int .u8 99] 5 (4, 5)) = W1 := ⟨_, rfl⟩
  have hn1 : W1.heap[w.heap.size]? = some (.cells #[.int .u8 97, .int .u8 98, .int .u8 10, .int .u8 99] 5 (4, 5)) := by rw [← hW1]; exact World.alloc_heap_new _ _
  have hB1 : Below w.heap.size w W1 := by rw [← hW1]; exact below_alloc _ _
  have hz1 : Byt W1 (some ⟨w.heap.size, 0, none⟩) 4 exZ := ⟨exZ_lt, .inr ⟨_, _, rfl, fun j hj => by
    rw [cell_of_row _ _ _ _ _ _ hn1]
    match j, hj with
    | 0, _ => rfl
    | 1, _ => rfl
    | 2, _ => rfl
    | 3, _ => rfl⟩⟩
  rw [hW1]
  clear hW1 hn1 kc
  refine (lines_any _ 4 4 exZ W1 (by omega) hz1).mono ?_
  rintro e w2 ⟨v, rfl, ho, hB2⟩
  rw [show bg exZ 4 = [0, 3] from rfl, icl_icells] at ho
  obtain ⟨A, C, rfl, hC1, hC2, _, hI, _⟩ := owns_ints ho
  rw [show ([0, 3] : List Nat).length = 2 from rfl] at hI ⊢
  have hIz : Ints w2 A 2 (fun i => (([0, 3] : List Nat).getD i 0 : Nat)) := hI
  obtain ⟨b, off, rfl, hc⟩ := hIz.cell (by omega)
  have c1 : w2.cell? ⟨b, off + 1, none⟩ = some (.int .i64 3) := hc 1 (by omega)
  have hl2 := line_any (some ⟨b, off, none⟩) 2 C _ 2 w2 (by omega) hIz
  have HH := hide (And.intro hB1 (And.intro hB2 (And.intro hz1 hIz)))
  clear hB1 hB2 hz1 hIz hc ho hI
  go_wp2_with fail
  refine hl2.mono ?_
  rintro e w3 ⟨m, rfl, hm, hB3⟩
  obtain rfl := hm.one (show Lead _ 2 2 1 from ⟨by omega, fun i hi => by
    have h0 : i = 0 := by omega
    subst h0
    decide, .inr (by decide)⟩)
  obtain ⟨hB1, hB2, hz1, hIz⟩ := HH.out
  have hl3 := line_any (some ⟨b, off, none⟩) 2 C _ 3 w3 (by omega) (hIz.below hB3)
  have HH := hide (And.intro hB1 (And.intro (hB2.trans (hB3.mono hB2.size)) (And.intro hz1 (hIz.below hB3))))
  clear hB1 hB2 hz1 hIz hB3 hl2 hm
  go_wp2_with fail
  refine hl3.mono ?_
  rintro e w4 ⟨m, rfl, hm, hB4⟩
  obtain rfl := hm.one (show Lead _ 2 3 2 from ⟨by omega, fun i hi => by
    rcases (show i = 0 ∨ i = 1 by omega) with rfl | rfl <;> decide, .inl rfl⟩)
  obtain ⟨hB1, hB2, hz1, hIz⟩ := HH.out
  have hB24 := hB2.trans (hB4.mono hB2.size)
  have ht1 := text_any (some ⟨w.heap.size, 0, none⟩) (some ⟨b, off, none⟩) 4 4 2 C exZ _ 1 w4 (by omega) (by omega) (by omega) (.inr ⟨_, _, rfl⟩) (by omega) (by omega) (hz1.below hB24) (hIz.below hB4)
  have HH := hide (And.intro hB1 (And.intro hB24 (And.intro hz1 (hIz.below hB4))))
  clear hB1 hB2 hz1 hIz hB4 hl3 hm hB24
  go_wp2_with fail
  refine ht1.mono ?_
  rintro e w5 ⟨v, rfl, ht, hB5⟩
  obtain rfl := ht.one (show TextIs exZ 4 _ 2 1 (txt (cut exZ 0 2)) from .inr ⟨0, rfl, by omega, .inr ⟨0, 2, rfl, by omega, ⟨by omega, by omega, fun j _ hj => by
    rcases (show j = 0 ∨ j = 1 by omega) with rfl | rfl <;> decide, .inr rfl⟩, rfl⟩⟩)
  rw [show txt (cut exZ 0 2) = .string ⟨#[97, 98]⟩ from rfl]
  obtain ⟨hB1, hB2, hz1, hIz⟩ := HH.out
  have hB25 := hB2.trans (hB5.mono hB2.size)
  have ht2 := text_any (some ⟨w.heap.size, 0, none⟩) (some ⟨b, off, none⟩) 4 4 2 C exZ _ 2 w5 (by omega) (by omega) (by omega) (.inr ⟨_, _, rfl⟩) (by omega) (by omega) (hz1.below hB25) (hIz.below hB5)
  have HH := hide (And.intro hB1 hB25)
  clear hB1 hB2 hz1 hIz hB5 ht1 ht hB25
  go_wp2_with fail
  refine ht2.mono ?_
  rintro e w6 ⟨v, rfl, ht, hB6⟩
  obtain rfl := ht.one (show TextIs exZ 4 _ 2 2 (txt (cut exZ 3 4)) from .inr ⟨1, rfl, by omega, .inr ⟨3, 4, rfl, by omega, ⟨by omega, by omega, fun j h hj => by
    have h0 : j = 3 := by omega
    subst h0
    decide, .inl rfl⟩, rfl⟩⟩)
  rw [show txt (cut exZ 3 4) = .string ⟨#[99]⟩ from rfl]
  obtain ⟨hB1, hB2⟩ := HH.out
  have HB := hide (below_thru hB1 (hB2.trans (hB6.mono hB2.size)))
  clear hB1 hB2 ht2 ht hB6
  go_wp2_with fail
  go_ret
  exact ⟨rfl, HB.out⟩
end Go.Proofs.Yteanibapabafnaa
