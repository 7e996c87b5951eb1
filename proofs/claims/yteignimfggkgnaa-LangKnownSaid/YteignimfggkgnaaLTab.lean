/-
  The reference's table (written by tools/gen-ltab.py).
-/
import Derived.Test.YteignimfggkgnaaLRefR
namespace Go.Proofs.Yteignimfggkgnaa
open Go.RowKit Go.Shelf

/-- The table's rows at block g. -/
def TabAt (w : World) (g : Nat) : Prop := ∀ i r, tabL[i]? = some r → w.cell? ⟨g, i * 2, none⟩ = some (by8 r.1) ∧ w.cell? ⟨g, i * 2 + 1, none⟩ = some (by8 r.2)
theorem TabAt.below {w w' : World} {g : Nat} (h : TabAt w g) (hb : Below w.heap.size w w') : TabAt w' g := fun i r hr => ⟨cell_thru (h i r hr).1 hb, cell_thru (h i r hr).2 hb⟩
def tabC : Array Value := #[.string ⟨#[99]⟩, .string ⟨#[99]⟩, .string ⟨#[104]⟩, .string ⟨#[99]⟩, .string ⟨#[99, 99]⟩, .string ⟨#[99, 112, 112]⟩, .string ⟨#[99, 112, 112]⟩, .string ⟨#[99, 112, 112]⟩, .string ⟨#[104, 112, 112]⟩, .string ⟨#[99, 112, 112]⟩, .string ⟨#[99, 115, 115]⟩, .string ⟨#[99, 115, 115]⟩, .string ⟨#[103, 111]⟩, .string ⟨#[103, 111]⟩, .string ⟨#[104, 116, 109, 108]⟩, .string ⟨#[104, 116, 109, 108]⟩, .string ⟨#[106, 97, 118, 97]⟩, .string ⟨#[106, 97, 118, 97]⟩, .string ⟨#[106, 115]⟩, .string ⟨#[106, 97, 118, 97, 115, 99, 114, 105, 112, 116]⟩, .string ⟨#[109, 106, 115]⟩, .string ⟨#[106, 97, 118, 97, 115, 99, 114, 105, 112, 116]⟩, .string ⟨#[106, 115, 111, 110]⟩, .string ⟨#[106, 115, 111, 110]⟩, .string ⟨#[109, 100]⟩, .string ⟨#[109, 97, 114, 107, 100, 111, 119, 110]⟩, .string ⟨#[112, 121]⟩, .string ⟨#[112, 121, 116, 104, 111, 110]⟩, .string ⟨#[114, 98]⟩, .string ⟨#[114, 117, 98, 121]⟩, .string ⟨#[114, 115]⟩, .string ⟨#[114, 117, 115, 116]⟩, .string ⟨#[115, 104]⟩, .string ⟨#[115, 104, 101, 108, 108]⟩, .string ⟨#[115, 113, 108]⟩, .string ⟨#[115, 113, 108]⟩, .string ⟨#[116, 120, 116]⟩, .string ⟨#[116, 101, 120, 116]⟩, .string ⟨#[116, 115]⟩, .string ⟨#[116, 121, 112, 101, 115, 99, 114, 105, 112, 116]⟩, .string ⟨#[121, 97, 109, 108]⟩, .string ⟨#[121, 97, 109, 108]⟩, .string ⟨#[121, 109, 108]⟩, .string ⟨#[121, 97, 109, 108]⟩]
theorem tab_new (w : World) : TabAt (w.alloc (.cells tabC 41)) w.heap.size := by
  intro i r hr
  have hi : i < 22 := (List.getElem?_eq_some_iff.1 hr).1
  have h1 := cell_of_row (w.alloc (.cells tabC 41)) w.heap.size (i * 2) _ _ _ (heap_alloc_new _ _)
  have h2 := cell_of_row (w.alloc (.cells tabC 41)) w.heap.size (i * 2 + 1) _ _ _ (heap_alloc_new _ _)
  rw [h1, h2]
  match i, hi, hr with
  | 0, _, hr => obtain rfl := Option.some.inj hr; exact ⟨rfl, rfl⟩
  | 1, _, hr => obtain rfl := Option.some.inj hr; exact ⟨rfl, rfl⟩
  | 2, _, hr => obtain rfl := Option.some.inj hr; exact ⟨rfl, rfl⟩
  | 3, _, hr => obtain rfl := Option.some.inj hr; exact ⟨rfl, rfl⟩
  | 4, _, hr => obtain rfl := Option.some.inj hr; exact ⟨rfl, rfl⟩
  | 5, _, hr => obtain rfl := Option.some.inj hr; exact ⟨rfl, rfl⟩
  | 6, _, hr => obtain rfl := Option.some.inj hr; exact ⟨rfl, rfl⟩
  | 7, _, hr => obtain rfl := Option.some.inj hr; exact ⟨rfl, rfl⟩
  | 8, _, hr => obtain rfl := Option.some.inj hr; exact ⟨rfl, rfl⟩
  | 9, _, hr => obtain rfl := Option.some.inj hr; exact ⟨rfl, rfl⟩
  | 10, _, hr => obtain rfl := Option.some.inj hr; exact ⟨rfl, rfl⟩
  | 11, _, hr => obtain rfl := Option.some.inj hr; exact ⟨rfl, rfl⟩
  | 12, _, hr => obtain rfl := Option.some.inj hr; exact ⟨rfl, rfl⟩
  | 13, _, hr => obtain rfl := Option.some.inj hr; exact ⟨rfl, rfl⟩
  | 14, _, hr => obtain rfl := Option.some.inj hr; exact ⟨rfl, rfl⟩
  | 15, _, hr => obtain rfl := Option.some.inj hr; exact ⟨rfl, rfl⟩
  | 16, _, hr => obtain rfl := Option.some.inj hr; exact ⟨rfl, rfl⟩
  | 17, _, hr => obtain rfl := Option.some.inj hr; exact ⟨rfl, rfl⟩
  | 18, _, hr => obtain rfl := Option.some.inj hr; exact ⟨rfl, rfl⟩
  | 19, _, hr => obtain rfl := Option.some.inj hr; exact ⟨rfl, rfl⟩
  | 20, _, hr => obtain rfl := Option.some.inj hr; exact ⟨rfl, rfl⟩
  | 21, _, hr => obtain rfl := Option.some.inj hr; exact ⟨rfl, rfl⟩
  | n + 22, hi, _ => exact absurd hi (by omega)
set_option maxRecDepth 100000 in
set_option maxHeartbeats 2000000 in
theorem refTable_any (w : World) :
    Calls Try.prog 18 #[] w fun e w' => ∃ g, e = .returned (.slice (some ⟨g, 0, none⟩) 22 22) ∧ TabAt w' g ∧ Below w.heap.size w w' := by
  have ht := tab_new w
  have hb := below_alloc w (.cells tabC 41)
  unfold tabC at ht hb
  go_enter Try.func18, Try.ntmps18
  go_wp2_with fail
  go_ret
  exact ⟨_, rfl, ht, hb⟩
end Go.Proofs.Yteignimfggkgnaa
