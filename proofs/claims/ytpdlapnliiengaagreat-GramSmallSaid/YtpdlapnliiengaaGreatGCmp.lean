/-
  Rows of grams, sorted: slices.SortFunc under the closure that compares two grams byte by byte.
-/
import Derived.Test.YtpdlapnliiengaaGreatGAt
import Derived.Test.YtpdlapnliiengaaGreatSortG
import Derived.Shelf.SlSortCmp.NoneTotal
import Derived.Lib.Bytealg
import Derived.Lib.BytesEntry
import Derived.Deep.QuietTactic
import Derived.BigQuiet
import Derived.Deep.RegionWith
namespace Go.Proofs.YtpdlapnliiengaaGreat
open Go.RowKit Go.Shelf Go.Lib Go.Sort

/-- A gram; how two compare. -/
abbrev G24 := Fin 16777216
def ge (x : G24) : List Value := gl x.val
def cfG (x y : G24) : Int := if x.val < y.val then -1 else if y.val < x.val then 1 else 0
theorem ltG (x y : G24) : ltOf cfG x y = decide (x.val < y.val) := by
  unfold ltOf cfG
  by_cases h1 : x.val < y.val
  · simp [h1]
  · by_cases h2 : y.val < x.val <;> simp [h1, h2]
theorem swoG : SWO (ltOf cfG) where
  irrefl x := by rw [ltG]; simp
  trans x y z h1 h2 := by rw [ltG] at *; simp only [decide_eq_true_eq] at *; omega
  ntrans x y z h1 h2 := by rw [ltG] at *; simp only [decide_eq_false_iff_not] at *; omega
theorem totG (x y : G24) (h1 : ltOf cfG x y = false) (h2 : ltOf cfG y x = false) : x = y := by
  rw [ltG] at h1 h2
  simp only [decide_eq_false_iff_not] at h1 h2
  exact Fin.ext (by omega)

/-- The bytes of a gram. -/
def g8 (x : Nat) : List UInt8 := [UInt8.ofNat (x / 65536), UInt8.ofNat (x / 256 % 256), UInt8.ofNat (x % 256)]
theorem u8_lt {a b : Nat} (ha : a < 256) (hb : b < 256) : (UInt8.ofNat a < UInt8.ofNat b) ↔ a < b := by
  rw [UInt8.lt_iff_toNat_lt, UInt8.toNat_ofNat', UInt8.toNat_ofNat', Nat.mod_eq_of_lt ha, Nat.mod_eq_of_lt hb]
theorem cmp_g8 (x y : G24) : compareBytes (g8 x.val) (g8 y.val) = cfG x y := by
  obtain ⟨x, hx⟩ := x
  obtain ⟨y, hy⟩ := y
  have ex : x = x / 65536 * 65536 + x / 256 % 256 * 256 + x % 256 := by have := Nat.div_div_eq_div_mul x 256 256; omega
  have ey : y = y / 65536 * 65536 + y / 256 % 256 * 256 + y % 256 := by have := Nat.div_div_eq_div_mul y 256 256; omega
  have hx0 : x / 65536 < 256 := by omega
  have hy0 : y / 65536 < 256 := by omega
  have hx1 : x / 256 % 256 < 256 := Nat.mod_lt _ (by decide)
  have hy1 : y / 256 % 256 < 256 := Nat.mod_lt _ (by decide)
  have hx2 : x % 256 < 256 := Nat.mod_lt _ (by decide)
  have hy2 : y % 256 < 256 := Nat.mod_lt _ (by decide)
  unfold cfG g8
  simp only
  generalize x / 65536 = a0 at *
  generalize x / 256 % 256 = a1 at *
  generalize x % 256 = a2 at *
  generalize y / 65536 = b0 at *
  generalize y / 256 % 256 = b1 at *
  generalize y % 256 = b2 at *
  simp only [compareBytes, u8_lt hx0 hy0, u8_lt hy0 hx0, u8_lt hx1 hy1, u8_lt hy1 hx1, u8_lt hx2 hy2, u8_lt hy2 hx2]
  subst ex ey
  repeat' split
  all_goals first | rfl | omega

theorem bytesOf3 {P : Program} {W : World} {p c : Nat} {x : Nat} (h : ∀ i v, (gl x)[i]? = some v → W.cell? ⟨p, i, none⟩ = some v) :
    (Extern.Bytes.bytesOf (.slice (some ⟨p, 0, none⟩) 3 c)).run P W = .ok ⟨(g8 x).toArray⟩ W := by
  have hr := Lib.run_loadBytesX (P := P) W [((x / 65536 : Nat) : Int), ((x / 256 % 256 : Nat) : Int), ((x % 256 : Nat) : Int)] ⟨p, 0, none⟩ .empty (fun j y hy => by
    match j, hy with
    | 0, hy => obtain rfl := Option.some.inj hy; exact h 0 _ rfl
    | 1, hy => obtain rfl := Option.some.inj hy; exact h 1 _ rfl
    | 2, hy => obtain rfl := Option.some.inj hy; exact h 2 _ rfl)
  refine hr.trans ?_
  unfold g8
  generalize x / 65536 = a0
  generalize x / 256 % 256 = a1
  generalize x % 256 = a2
  simp [Lib.bytesOf]

theorem compare_run {W : World} {p q c c' : Nat} {x y : G24} (hx : ∀ i v, (gl x.val)[i]? = some v → W.cell? ⟨p, i, none⟩ = some v) (hy : ∀ i v, (gl y.val)[i]? = some v → W.cell? ⟨q, i, none⟩ = some v) :
    (Extern.BytealgCompare.compare #[.slice (some ⟨p, 0, none⟩) 3 c, .slice (some ⟨q, 0, none⟩) 3 c']).run Tryz.prog W = .ok (.int .i64 (cfG x y)) W := by
  change Sem.run _ (do pure (goInt (Extern.BytealgCompare.cmp (← Extern.Bytes.bytesOf (.slice (some ⟨p, 0, none⟩) 3 c)) (← Extern.Bytes.bytesOf (.slice (some ⟨q, 0, none⟩) 3 c'))))) W = _
  simp only [Sem.run_bind, bytesOf3 hx, bytesOf3 hy, Sem.run_pure, Result.andThen]
  rw [Lib.cmp_eq, ← cmp_g8 x y]
  rfl

set_option maxHeartbeats 1000000 in
/-- bytes.Compare at two grams. -/
theorem bcmp_any {W : World} {p q c c' : Nat} {x y : G24} (hx : ∀ i v, (gl x.val)[i]? = some v → W.cell? ⟨p, i, none⟩ = some v) (hy : ∀ i v, (gl y.val)[i]? = some v → W.cell? ⟨q, i, none⟩ = some v) :
    Calls Tryz.prog 34 #[.slice (some ⟨p, 0, none⟩) 3 c, .slice (some ⟨q, 0, none⟩) 3 c'] W fun e w' => e = .returned (.int .i64 (cfG x y)) ∧ w' = W := by
  have hc := compare_run (c := c) (c' := c') hx hy
  have hcall : (callFunc 63 #[.slice (some ⟨p, 0, none⟩) 3 c, .slice (some ⟨q, 0, none⟩) 3 c']).run Tryz.prog W = .ok (.value (.int .i64 (cfG x y))) W := by
    rw [run_callFunc_extern Tryz.func63 (by kernel_rfl) (by kernel_rfl) (by kernel_rfl) (e := Extern.BytealgCompare.compare) (by kernel_rfl), hc]
    rfl
  clear hx hy hc
  generalize cfG x y = r at *
  go_enter Tryz.func34, Tryz.ntmps34
  go_wp2_with fail
  go_ret
  exact ⟨rfl, rfl⟩

theorem gl_cells (w : World) (x : Nat) (t : TypeId) : ∀ i v, (gl x)[i]? = some v → (w.alloc (.cells (gl x).toArray t)).cell? ⟨w.heap.size, i, none⟩ = some v := by
  intro i v h
  match i, h with
  | 0, h => obtain rfl := Option.some.inj h; simp [gl]
  | 1, h => obtain rfl := Option.some.inj h; simp [gl]
  | 2, h => obtain rfl := Option.some.inj h; simp [gl]
set_option maxHeartbeats 1000000 in
/-- The closure. -/
theorem gcmp_any (x y : G24) (W : World) : Calls Tryz.prog 36 #[gv x.val, gv y.val] W fun e w' => e = .returned (.int .i64 (cfG x y)) ∧ ∃ q os', w' = grow (W.drewN q) os' := by
  have hx := gl_cells W x.val 51
  have hy := gl_cells (W.alloc (.cells (gl x.val).toArray 51)) y.val 51
  have hx2 : ∀ i v, (gl x.val)[i]? = some v → ((W.alloc (.cells (gl x.val).toArray 51)).alloc (.cells (gl y.val).toArray 51)).cell? ⟨W.heap.size, i, none⟩ = some v := fun i v h => cell_alloc_l _ (hx i v h)
  have hW : (W.alloc (.cells (gl x.val).toArray 51)).alloc (.cells (gl y.val).toArray 51) = grow W #[.cells (gl x.val).toArray 51, .cells (gl y.val).toArray 51] := by rw [alloc_eq_grow, alloc_eq_grow, grow_grow]; rfl
  have hcon : ∀ V : World, V.heap = ((W.alloc (.cells (gl x.val).toArray 51)).alloc (.cells (gl y.val).toArray 51)).heap → Calls Tryz.prog 34 #[.slice (some ⟨W.heap.size, 0, none⟩) 3 3, .slice (some ⟨W.heap.size + 1, 0, none⟩) 3 3] V fun e w' => e = .returned (.int .i64 (cfG x y)) ∧ w' = V := fun V hV =>
    bcmp_any (fun i v h => (World.cell?_of_block (w := (W.alloc (.cells (gl x.val).toArray 51)).alloc (.cells (gl y.val).toArray 51)) (by rw [hV])).trans (hx2 i v h)) (fun i v h => (World.cell?_of_block (w := (W.alloc (.cells (gl x.val).toArray 51)).alloc (.cells (gl y.val).toArray 51)) (by rw [hV])).trans (by simpa using hy i v h))
  clear hx hy hx2
  unfold gv
  unfold gl at hcon hW ⊢
  generalize cfG x y = r at *
  generalize x.val / 65536 = a0 at *
  generalize x.val / 256 % 256 = a1 at *
  generalize x.val % 256 = a2 at *
  generalize y.val / 65536 = b0 at *
  generalize y.val / 256 % 256 = b1 at *
  generalize y.val % 256 = b2 at *
  have HW := hide hW
  clear hW
  go_enter Tryz.func36, Tryz.ntmps36
  go_wp2_with fail
  go_region_with ((go_at_call 34; refine (hcon _ (by rfl)).mono ?_; rintro e w' ⟨rfl, rfl⟩))
  go_wp2
  go_ret
  exact ⟨rfl, 1, _, by rw [HW.out]; rfl⟩
set_option maxHeartbeats 1000000 in
/-- The same of the other. -/
theorem gcmpP_any (x y : G24) (W : World) : Calls Tryz.prog 33 #[gv x.val, gv y.val] W fun e w' => e = .returned (.int .i64 (cfG x y)) ∧ ∃ q os', w' = grow (W.drewN q) os' := by
  have hx := gl_cells W x.val 51
  have hy := gl_cells (W.alloc (.cells (gl x.val).toArray 51)) y.val 51
  have hx2 : ∀ i v, (gl x.val)[i]? = some v → ((W.alloc (.cells (gl x.val).toArray 51)).alloc (.cells (gl y.val).toArray 51)).cell? ⟨W.heap.size, i, none⟩ = some v := fun i v h => cell_alloc_l _ (hx i v h)
  have hW : (W.alloc (.cells (gl x.val).toArray 51)).alloc (.cells (gl y.val).toArray 51) = grow W #[.cells (gl x.val).toArray 51, .cells (gl y.val).toArray 51] := by rw [alloc_eq_grow, alloc_eq_grow, grow_grow]; rfl
  have hcon : ∀ V : World, V.heap = ((W.alloc (.cells (gl x.val).toArray 51)).alloc (.cells (gl y.val).toArray 51)).heap → Calls Tryz.prog 34 #[.slice (some ⟨W.heap.size, 0, none⟩) 3 3, .slice (some ⟨W.heap.size + 1, 0, none⟩) 3 3] V fun e w' => e = .returned (.int .i64 (cfG x y)) ∧ w' = V := fun V hV =>
    bcmp_any (fun i v h => (World.cell?_of_block (w := (W.alloc (.cells (gl x.val).toArray 51)).alloc (.cells (gl y.val).toArray 51)) (by rw [hV])).trans (hx2 i v h)) (fun i v h => (World.cell?_of_block (w := (W.alloc (.cells (gl x.val).toArray 51)).alloc (.cells (gl y.val).toArray 51)) (by rw [hV])).trans (by simpa using hy i v h))
  clear hx hy hx2
  unfold gv
  unfold gl at hcon hW ⊢
  generalize cfG x y = r at *
  generalize x.val / 65536 = a0 at *
  generalize x.val / 256 % 256 = a1 at *
  generalize x.val % 256 = a2 at *
  generalize y.val / 65536 = b0 at *
  generalize y.val / 256 % 256 = b1 at *
  generalize y.val % 256 = b2 at *
  have HW := hide hW
  clear hW
  go_enter Tryz.func33, Tryz.ntmps33
  go_wp2_with fail
  go_region_with ((go_at_call 34; refine (hcon _ (by rfl)).mono ?_; rintro e w' ⟨rfl, rfl⟩))
  go_wp2
  go_ret
  exact ⟨rfl, 1, _, by rw [HW.out]; rfl⟩

theorem sizeG : ∀ w : World, (Go.sizeOf (Tryz.sortG_ren.t 24)).run Tryz.prog w = .ok 3 w := Tryz.sizeOf51
theorem aggG : ∀ w : World, (isAgg (Tryz.sortG_ren.t 24)).run Tryz.prog w = .ok true w := Tryz.isAgg51
/-- slices.SortFunc. -/
theorem gsort_any (g blk off c : Nat) (d : Array G24) (w : World) (eg : ∀ args w, (callFunc g args).run Tryz.prog w = .ok (.enter g args) w)
    (hcmp : ∀ (x y : G24) (W : World), Calls Tryz.prog g #[gv x.val, gv y.val] W fun e w' => e = .returned (.int .i64 (cfG x y)) ∧ ∃ q os', w' = grow (W.drewN q) os')
    (hH : HoldsK ge 3 w blk off d) (hblk : blk < w.heap.size) (hsz : d.size < 4611686018427387904) :
    Calls Tryz.prog 61 #[.slice (some ⟨blk, off, none⟩) d.size c, .func (.func g) #[] #[]] w fun e w' =>
      e = .returned (.tuple #[]) ∧ ∃ n os, w' = sortWorldK ge 3 w blk off n (d.toList.mergeSort fun x y => !(ltOf cfG) y x).toArray os :=
  AnyQ.slices_SortFunc_total Tryz.sortG 3 aggG sizeG ge (fun _ => rfl) (fun x v hv => by simp [ge, gl] at hv; rcases hv with rfl | rfl | rfl <;> rfl) cfG swoG g #[] blk off c d w eg (fun _ _ _ _ x y => hcmp x y _) hH hblk hsz totG
theorem gsort_none (p : Option Addr) (c : Nat) (v : Value) (w : World) :
    Calls Tryz.prog 61 #[.slice p 0 c, v] w fun e w' => e = .returned (.tuple #[]) ∧ w' = w := AnyF.slices_SortFunc_none Tryz.sortG p c v w
end Go.Proofs.YtpdlapnliiengaaGreat
