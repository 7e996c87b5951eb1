/-
  The kit's LentDocs.
-/
import Derived.Test.YtpmldopbjlnknaaGreatDAwake
import Derived.Test.YtpmldopbjlnknaaGreatFlatMs
import Derived.Test.YtpmldopbjlnknaaGreatRegS
import Derived.Test.YtpmldopbjlnknaaGreatDRefAll
import Derived.Test.YtpmldopbjlnknaaGreatSoloR
import Derived.Test.YtpmldopbjlnknaaGreatAparts2
import Derived.Test.YtpmldopbjlnknaaGreatDOpen
import Derived.Laws.ResultCell
import Derived.Laws.Tables
import Derived.Deep.MidRow
set_option maxHeartbeats 8000000
set_option maxRecDepth 100000
set_option linter.unusedVariables false
set_option linter.unusedSimpArgs false
namespace Go.Proofs.YtpmldopbjlnknaaGreat
open Go.RowKit Go.Shelf
def markD (i : Nat) : DT := ⟨[], [], 0, (markV 1 i : Nat)⟩
def marksD (k : Nat) : List DT := (List.range k).map markD
theorem marksD_succ (k : Nat) : marksD (k + 1) = marksD k ++ [markD k] := by simp [marksD, List.range_succ]
theorem markD_cells (i : Nat) : cellD (markD i) = [.string ⟨#[]⟩, .string ⟨#[]⟩, .int .u32 0, .int .i64 (markV 1 i : Nat)] := rfl
theorem markDoc_any (i : Nat) (w : World) (hi : i ≤ 281474976710656) :
  Calls Tryz.prog 23 #[.int .i64 (1 : Nat), .int .i64 i] w fun e w' => e = .returned (.agg #[.string ⟨#[]⟩, .string ⟨#[]⟩, .int .u32 0, .int .i64 (markV 1 i : Nat)]) ∧ Below w.heap.size w w' := by
 have hm := fun W : World => markVN 1 i W (by omega) hi
 generalize markV 1 i = z at hm ⊢
 have hS : (w.alloc (.cells #[.string ⟨#[]⟩, .string ⟨#[]⟩, .int .u32 0, .int .i64 (z : Nat)] 47)).heap[w.heap.size]? = some (.cells #[.string ⟨#[]⟩, .string ⟨#[]⟩, .int .u32 0, .int .i64 (z : Nat)] 47 (0, 0)) := heap_alloc_new _ _
 have HS := hide hS
 clear hS
 go_enter Tryz.func23, Tryz.ntmps23
 go_wp2_with (go_at_call 56; refine (hm _).mono ?_; rintro e w' ⟨rfl, rfl⟩)
 refine bodyPost_ret_by (results_cell_row rfl _ _ w.heap.size 47 #[.string ⟨#[]⟩, .string ⟨#[]⟩, .int .u32 0, .int .i64 (z : Nat)] (0, 0) _ rfl HS.out Tryz.underlying47 rfl (by kernel_rfl)) rfl ⟨rfl, below_alloc w _⟩
def LentD (W : World) (R : Nat) (ds : List DT) : Prop := W.ownsRow R 47 4 (.slice (some ⟨R, 0, none⟩) (ds.length + 12) (ds.length + 12)) (ds.length + 12) (cellsD (ds ++ marksD 12))
theorem LentD.below {W W' : World} {R : Nat} {ds : List DT} (h : LentD W R ds) (hb : Below W.heap.size W W') : LentD W' R ds := owns_thruS h hb
theorem cells_at {W : World} {R n : Nat} {v : Value} {es : List DT} (h : W.ownsRow R 47 4 v n (cellsD es)) {g : Nat} (hv : v.ownBlock = some g) {i : Nat} {d : DT} (hi : es[i]? = some d) : ∀ j u, (cellD d)[j]? = some u → W.cell? ⟨g, 0 + (i * 4 + j), none⟩ = some u := by
 intro j u hu
 have := World.ownsRow.cells h (g := g) hv _ _ (cellsD_get es i d hi j u hu)
 rw [add_none' _ rfl] at this
 exact this
theorem LentD.docs {W : World} {R : Nat} {ds : List DT} (h : LentD W R ds) : Docs W (some ⟨R, 0, none⟩) ds :=
 .inr ⟨R, 0, rfl, fun i d hi => cells_at h rfl (by rw [List.getElem?_append_left (List.getElem?_eq_some_iff.1 hi).1]; exact hi)⟩
theorem LentD.mark {W : World} {R : Nat} {ds : List DT} (h : LentD W R ds) {j : Nat} (hj : j < 12) : ∀ q u, (cellD (markD j))[q]? = some u → W.cell? ⟨R, 0 + ((ds.length + j) * 4 + q), none⟩ = some u :=
 cells_at h rfl (by rw [List.getElem?_append_right (by omega), Nat.add_sub_cancel_left]; simp [marksD, hj])
theorem cellsD_one (ds : List DT) : ∀ u ∈ cellsD ds, u.oneCell' = true := by
 induction ds with
 | nil => intro u hu; cases hu
 | cons d r ih =>
   intro u hu
   rw [cellsD] at hu
   rcases List.mem_append.1 hu with h | h
   ·exact cellD_one d u h
   ·exact ih u h
theorem Docs.news {w : World} {a : Option Addr} {ds : List DT} (h : Docs w a ds) : ∀ ad, a = some ad → ∀ j u, (cellsD ds)[j]? = some u → w.cell? (ad.add j) = some u := by
 rcases h with rfl | ⟨b, off, rfl, hc⟩
 ·intro ad _ j u hj; simp [cellsD] at hj
 ·intro ad e j u hj
  cases e
  rw [add_none' _ rfl]
  have hlt : j < ds.length * 4 := by rw [← cellsD_length]; exact (List.getElem?_eq_some_iff.1 hj).1
  have hi : j / 4 < ds.length := by omega
  have hd : ds[j / 4]? = some ds[j / 4] := List.getElem?_eq_getElem hi
  have hq : j % 4 < (cellD ds[j / 4]).length := by simp [cellD]; omega
  have h1 := cellsD_get ds (j / 4) _ hd (j % 4) _ (List.getElem?_eq_getElem hq)
  have e2 : j / 4 * 4 + j % 4 = j := by omega
  rw [e2, hj] at h1
  have h2 := hc (j / 4) _ hd (j % 4) _ (List.getElem?_eq_getElem hq)
  rw [e2] at h2
  rw [h2]
  exact h1.symm
theorem lentDocs_any (a : Option Addr) (len cap : Nat) (ds : List DT) (w : World) (hlen : ds.length = len) (hl : len ≤ 20000) (hn : a = none → cap = 0) (hlc : len ≤ cap) (hD : Docs w a ds) :
  Calls Tryz.prog 7 #[.slice a len cap] w fun e w' => e = .returned (.slice (some ⟨w.heap.size, 0, none⟩) len (len + 12)) ∧ LentD w' w.heap.size ds ∧ Below w.heap.size w w' := by
 obtain ⟨i0, hi, hq0, hq1, hq2⟩ := info_partsD info_doc
 have hone := cellsD_one ds
 have hclen : (cellsD ds).length = len * 4 := by rw [cellsD_length, hlen]
 have hnone : a = none → len = 0 ∧ cap = 0 := fun h => by have := hn h; omega
 have hsrc : ∀ W : World, Below w.heap.size w W → ∀ ad, a = some ad → ∀ j u, (cellsD ds)[j]? = some u → W.cell? (ad.add j) = some u := fun W hW => (hD.below hW).news
 have HL := hide hlen
 clear hD hlen
 go_enter Tryz.func7, Tryz.ntmps7
 go_wp2_with (first
  | (at_make; go_must (refine wpList_make_own _ rfl (.const (.int .i64 0)) (.tmp 7) 22 rfl w.heap.size 47 i0 (.agg #[.string ⟨#[]⟩, .string ⟨#[]⟩, .int .u32 0, .int .i64 0]) 4 Tryz.underlying22 hi hq0 hq1 .i64 .i64 _ (len + 12) rfl rfl (by simp) (by rw [hq2]; omega) (by unfold maxLen; omega) (Nat.le_refl _) ?_); intro w1 hown1 hg1; have hb1 := below_grown hg1)
  | (at_builtin; go_must (refine wpList_append_fits_any _ rfl (.tmp 9) (.tmp 10) 22 rfl w.heap.size 47 i0 4 Tryz.underlying22 hi hq1 w.heap.size 0 (len + 12) [] rfl hown1 a len cap (cellsD ds) rfl hclen hnone (hsrc w1 hb1) hone (by omega) ?_); intro w2 hown2 hg2))
 have hb2 : Below w.heap.size w w2 := hb1.grown hg2 hb1.size (fun k e => by cases e; exact Nat.le_refl _)
 simp only [List.nil_append, Nat.zero_add] at hown2
 clear hown1 hg1 hg2 hsrc hone hclen hnone
 go_loopg [3, 4] 12 (fun q s3 s4 wr => ∃ k : Nat, k + q = 12 ∧ s4 = .int .i64 k ∧ s3 = .slice (some ⟨w.heap.size, 0, none⟩) (len + k) (len + 12) ∧ wr.ownsRow w.heap.size 47 4 (.slice (some ⟨w.heap.size, 0, none⟩) (len + k) (len + 12)) (len + k) (cellsD (ds ++ marksD k)) ∧ Below w.heap.size w wr)
 case atStart => exact ⟨0, by omega, rfl, by simp, by simpa [marksD] using hown2, hb2⟩
 case round =>
  obtain ⟨k, hkq, rfl, rfl, hown, hbr⟩ := hrel
  have HB := hide hbr
  clear hown2 hb2
  cases gk with
  | zero =>
    obtain rfl : k = 12 := by omega
    have HO := hide hown
    have hk1 : (len : Int) ≤ (len : Int) + 12 := by omega
    clear hown hbr hi hq0 hq1 hq2
    go_wp2
    go_ret
    refine ⟨rfl, ?_, HB.out⟩
    unfold LentD
    rw [HL.out]
    exact HO.out
  | succ q =>
    have hkz : (k : Int) < 12 := by omega
    have hm := fun W : World => markDoc_any k W (by omega)
    have HO := hide hown
    clear hown hbr
    go_wp2_with (first
     | (go_at_call 23; refine (hm _).mono ?_; rintro e w' ⟨rfl, hbm⟩
        have hba := below_step hbm (.cells #[.string ⟨#[]⟩, .string ⟨#[]⟩, .int .u32 0, .int .i64 (markV 1 k : Nat)] 47)
        have hown := owns_thruS HO.out hba
        have hnw := doc_news (d := markD k) (heap_alloc_new w' (.cells #[.string ⟨#[]⟩, .string ⟨#[]⟩, .int .u32 0, .int .i64 (markV 1 k : Nat)] 47))
        have HB3 := hide (HB.out.trans (hba.mono HB.out.size))
        clear hbm hba)
     | (at_builtin; go_must (refine wpList_append_fits _ rfl (.tmp 16) (.tmp 19) 22 rfl w.heap.size 47 i0 4 Tryz.underlying22 hi hq1 w.heap.size (len + k) (len + 12) (cellsD (ds ++ marksD k)) rfl hown ⟨w'.heap.size, 0, none⟩ 1 1 (cellD (markD k)) rfl rfl hnw (cellD_one _) (by omega) ?_); intro w3 hown3 hg3))
    have H3 := hide (HB3.out.grown hg3 HB3.out.size (fun k e => by cases e; exact Nat.le_refl _))
    rw [← cellsD_snoc, List.append_assoc, ← marksD_succ] at hown3
    have HO3 := hide hown3
    clear hown3 hg3 hown hnw
    go_roundg q
    case measure => omega
    case rel => exact ⟨k + 1, by omega, by go_num, rfl, HO3.out, H3.out⟩
open Go.RowKit Go.Shelf
abbrev ddo5_o0 : Oper := ⟨some 18, .move (.tmp 5), 3, "count.go:79", #[], none⟩
abbrev ddo5_o1 : Oper := ⟨some 19, .binOp .add 3 (.tmp 18) (.const (.int .i64 1)) 3, 3, "count.go:79", #[⟨0, .data⟩], none⟩
abbrev ddo5_o2 : Oper := ⟨some 20, .move (.tmp 0), 22, "count.go:79", #[], none⟩
abbrev ddo5_o3 : Oper := ⟨some 21, .move (.tmp 6), 3, "count.go:79", #[], none⟩
abbrev ddo5_o4 : Oper := ⟨some 22, .indexAddr 22 (.tmp 20) (.tmp 21), 0, "count.go:79", #[⟨2, .data⟩, ⟨3, .data⟩], none⟩
abbrev ddo5_o5 : Oper := ⟨some 23, .fieldAddr 47 (.tmp 22) 0, 0, "count.go:79", #[⟨4, .data⟩], none⟩
abbrev ddo5_o6 : Oper := ⟨some 24, .load 9 (.tmp 23), 9, "count.go:79", #[⟨5, .data⟩], none⟩
abbrev ddo5_o7 : Oper := ⟨some 25, .call ⟨.builtin .len, #[.tmp 24], #[9]⟩, 3, "count.go:79", #[⟨6, .data⟩], none⟩
abbrev ddo5_o8 : Oper := ⟨some 26, .binOp .add 3 (.tmp 19) (.tmp 25) 3, 3, "count.go:79", #[⟨1, .data⟩, ⟨7, .data⟩], none⟩
abbrev ddo5_o9 : Oper := ⟨some 27, .move (.tmp 0), 22, "count.go:79", #[], none⟩
abbrev ddo5_o10 : Oper := ⟨some 28, .move (.tmp 6), 3, "count.go:79", #[], none⟩
abbrev ddo5_o11 : Oper := ⟨some 29, .indexAddr 22 (.tmp 27) (.tmp 28), 0, "count.go:79", #[⟨9, .data⟩, ⟨10, .data⟩], none⟩
abbrev ddo5_o12 : Oper := ⟨some 30, .fieldAddr 47 (.tmp 29) 1, 0, "count.go:79", #[⟨11, .data⟩], none⟩
abbrev ddo5_o13 : Oper := ⟨some 31, .load 9 (.tmp 30), 9, "count.go:79", #[⟨12, .data⟩], none⟩
abbrev ddo5_o14 : Oper := ⟨some 32, .call ⟨.builtin .len, #[.tmp 31], #[9]⟩, 3, "count.go:79", #[⟨13, .data⟩], none⟩
abbrev ddo5_o15 : Oper := ⟨some 33, .binOp .add 3 (.tmp 26) (.tmp 32) 3, 3, "count.go:79", #[⟨8, .data⟩, ⟨14, .data⟩], none⟩
abbrev ddo5_o16 : Oper := ⟨some 5, .assign (.tmp 33), 3, "count.go:79", #[⟨15, .data⟩, ⟨0, .phase⟩, ⟨1, .phase⟩, ⟨2, .phase⟩, ⟨3, .phase⟩, ⟨4, .phase⟩, ⟨5, .phase⟩, ⟨6, .phase⟩, ⟨7, .phase⟩, ⟨8, .phase⟩, ⟨9, .phase⟩, ⟨10, .phase⟩, ⟨11, .phase⟩, ⟨12, .phase⟩, ⟨13, .phase⟩, ⟨14, .phase⟩, ⟨15, .phase⟩], none⟩
def ddo5_ops : Array Oper := #[ddo5_o0, ddo5_o1, ddo5_o2, ddo5_o3, ddo5_o4, ddo5_o5, ddo5_o6, ddo5_o7, ddo5_o8, ddo5_o9, ddo5_o10, ddo5_o11, ddo5_o12, ddo5_o13, ddo5_o14, ddo5_o15, ddo5_o16]
abbrev ddo5_mem (s : Nat) : Prop := s ∈ [18, 19, 20, 21, 22, 23, 24, 25, 26, 27, 28, 29, 30, 31, 32, 33]
theorem ddo5_slots : ∀ j, j < 16 → ddo5_mem (slotOf ddo5_ops j) := by
 intro j hj
 match j, hj with
 | 0, _ => exact (by decide : ddo5_mem 18)
 | 1, _ => exact (by decide : ddo5_mem 19)
 | 2, _ => exact (by decide : ddo5_mem 20)
 | 3, _ => exact (by decide : ddo5_mem 21)
 | 4, _ => exact (by decide : ddo5_mem 22)
 | 5, _ => exact (by decide : ddo5_mem 23)
 | 6, _ => exact (by decide : ddo5_mem 24)
 | 7, _ => exact (by decide : ddo5_mem 25)
 | 8, _ => exact (by decide : ddo5_mem 26)
 | 9, _ => exact (by decide : ddo5_mem 27)
 | 10, _ => exact (by decide : ddo5_mem 28)
 | 11, _ => exact (by decide : ddo5_mem 29)
 | 12, _ => exact (by decide : ddo5_mem 30)
 | 13, _ => exact (by decide : ddo5_mem 31)
 | 14, _ => exact (by decide : ddo5_mem 32)
 | 15, _ => exact (by decide : ddo5_mem 33)
 | k + 16, hj => omega
def ddo5_val (gD oD n cD i c : Nat) (P L : List UInt8) : Nat → Value → World → Prop
 | 0, v, w => v = .int .i64 (c : Nat)
 | 1, v, w => v = .int .i64 ((c : Int) + 1)
 | 2, v, w => v = .slice (some ⟨gD, oD, none⟩) n cD
 | 3, v, w => v = .int .i64 (i : Nat)
 | 4, v, w => v = .pointer (some ⟨gD, oD + i * 4, none⟩)
 | 5, v, w => v = .pointer (some ⟨gD, oD + i * 4, none⟩)
 | 6, v, w => v = by8 P
 | 7, v, w => v = .int .i64 (P.length : Nat)
 | 8, v, w => v = .int .i64 ((c : Int) + 1 + (P.length : Nat))
 | 9, v, w => v = .slice (some ⟨gD, oD, none⟩) n cD
 | 10, v, w => v = .int .i64 (i : Nat)
 | 11, v, w => v = .pointer (some ⟨gD, oD + i * 4, none⟩)
 | 12, v, w => v = .pointer (some ⟨gD, oD + i * 4 + 1, none⟩)
 | 13, v, w => v = by8 L
 | 14, v, w => v = .int .i64 (L.length : Nat)
 | 15, v, w => v = .int .i64 ((c : Int) + 1 + (P.length : Nat) + (L.length : Nat))
 | _, _, _ => True
theorem ddo5_below (gD oD n cD i c : Nat) (P L : List UInt8) (w w' : World) (hb : Below w.heap.size w w') : ∀ j v, ddo5_val gD oD n cD i c P L j v w → ddo5_val gD oD n cD i c P L j v w' := by
 intro j v h
 match j, h with
 | 0, h | 1, h | 2, h | 3, h | 4, h | 5, h | 6, h | 7, h | 8, h | 9, h | 10, h | 11, h | 12, h | 13, h | 14, h | 15, h => exact h
 | _ + 16, h => exact h
def ddo5_H (Fc : Fence) (gD oD n cD i c : Nat) (P L : List UInt8) (df : List Deferred) (w0 : World) (x : Act) (w : World) : Prop :=
 (Wide Fc) ∧ (i < n) ∧ (c ≤ 4000) ∧ (P.length ≤ 140737488351232) ∧ (L.length ≤ 140737488351232) ∧ (w0.cell? ⟨gD, oD + i * 4, none⟩ = some (by8 P)) ∧ (w0.cell? ⟨gD, oD + i * 4 + 1, none⟩ = some (by8 L)) ∧ (Below w0.heap.size w0 w) ∧ (x.defers = df) ∧ (x.tmps.getD 0 undef = .slice (some ⟨gD, oD, none⟩) n cD) ∧ (x.tmps.getD 5 undef = .int .i64 (c : Nat)) ∧ (x.tmps.getD 6 undef = .int .i64 (i : Nat))
section
set_option maxRecDepth 100000
set_option maxHeartbeats 2000000
variable {Fc : Fence} {nC : Nat} {gD oD n cD i c : Nat} {P L : List UInt8} {Q : Exit → Act → World → Prop} {df : List Deferred} {w0 : World} {x : Act} {w : World}
theorem ddo5_s0 (H : ddo5_H Fc gD oD n cD i c P L df w0 x w) : Stp Fc nC Tryz.prog ddo5_ops Q 0 18 (ddo5_val gD oD n cD i c P L 0) x w := by
 (obtain ⟨hF, hi, hc, hp, hl, h0, h1, hB, hdef, u0, u5, u6⟩ := H; have ho : ddo5_ops[0]? = some ddo5_o0 := rfl; simp only [Array.getD_eq_getD_getElem?] at u0 u5 u6)
 (refine wpOpIn_plain ho rfl (oper_inK hF.fn (fun K hK => ?_)); clear ho; rw [Oper.semAt_plain Fc _ _ (by intro c h; cases h)]; simp only [ddo5_o0]; go_simp)
 exact hK _ _ ⟨_, act_putD x hdef _ _, rfl, Below.refl _ _⟩
theorem ddo5_s1 (H : ddo5_H Fc gD oD n cD i c P L df w0 x w) (p0 : ddo5_val gD oD n cD i c P L 0 (x.tmps.getD 18 undef) w) : Stp Fc nC Tryz.prog ddo5_ops Q 1 19 (ddo5_val gD oD n cD i c P L 1) x w := by
 (obtain ⟨hF, hi, hc, hp, hl, h0, h1, hB, hdef, u0, u5, u6⟩ := H; have ho : ddo5_ops[1]? = some ddo5_o1 := rfl; simp only [Array.getD_eq_getD_getElem?] at u0 u5 u6)
 have q0 : Array.getD (Act.tmps x) 18 undef = .int .i64 (c : Nat) := p0
 simp only [Array.getD_eq_getD_getElem?] at q0
 have m := IntWalk.i64_in ((c : Int) + 1) (by omega)
 (refine wpOpIn_plain ho rfl (oper_inK hF.fn (fun K hK => ?_)); clear ho; rw [Oper.semAt_plain Fc _ _ (by intro c h; cases h)]; simp only [ddo5_o1]; go_simp)
 exact hK _ _ ⟨_, act_putD x hdef _ _, rfl, Below.refl _ _⟩
theorem ddo5_s2 (H : ddo5_H Fc gD oD n cD i c P L df w0 x w) : Stp Fc nC Tryz.prog ddo5_ops Q 2 20 (ddo5_val gD oD n cD i c P L 2) x w := by
 (obtain ⟨hF, hi, hc, hp, hl, h0, h1, hB, hdef, u0, u5, u6⟩ := H; have ho : ddo5_ops[2]? = some ddo5_o2 := rfl; simp only [Array.getD_eq_getD_getElem?] at u0 u5 u6)
 (refine wpOpIn_plain ho rfl (oper_inK hF.fn (fun K hK => ?_)); clear ho; rw [Oper.semAt_plain Fc _ _ (by intro c h; cases h)]; simp only [ddo5_o2]; go_simp)
 exact hK _ _ ⟨_, act_putD x hdef _ _, rfl, Below.refl _ _⟩
theorem ddo5_s3 (H : ddo5_H Fc gD oD n cD i c P L df w0 x w) : Stp Fc nC Tryz.prog ddo5_ops Q 3 21 (ddo5_val gD oD n cD i c P L 3) x w := by
 (obtain ⟨hF, hi, hc, hp, hl, h0, h1, hB, hdef, u0, u5, u6⟩ := H; have ho : ddo5_ops[3]? = some ddo5_o3 := rfl; simp only [Array.getD_eq_getD_getElem?] at u0 u5 u6)
 (refine wpOpIn_plain ho rfl (oper_inK hF.fn (fun K hK => ?_)); clear ho; rw [Oper.semAt_plain Fc _ _ (by intro c h; cases h)]; simp only [ddo5_o3]; go_simp)
 exact hK _ _ ⟨_, act_putD x hdef _ _, rfl, Below.refl _ _⟩
theorem ddo5_s4 (H : ddo5_H Fc gD oD n cD i c P L df w0 x w) (p2 : ddo5_val gD oD n cD i c P L 2 (x.tmps.getD 20 undef) w) (p3 : ddo5_val gD oD n cD i c P L 3 (x.tmps.getD 21 undef) w) : Stp Fc nC Tryz.prog ddo5_ops Q 4 22 (ddo5_val gD oD n cD i c P L 4) x w := by
 (obtain ⟨hF, hi, hc, hp, hl, h0, h1, hB, hdef, u0, u5, u6⟩ := H; have ho : ddo5_ops[4]? = some ddo5_o4 := rfl; simp only [Array.getD_eq_getD_getElem?] at u0 u5 u6)
 have q2 : Array.getD (Act.tmps x) 20 undef = .slice (some ⟨gD, oD, none⟩) n cD := p2
 have q3 : Array.getD (Act.tmps x) 21 undef = .int .i64 (i : Nat) := p3
 simp only [Array.getD_eq_getD_getElem?] at q2 q3
 have i0 : (0 : Int) ≤ (i : Int) := by omega
 have i1 : (i : Int) < (n : Int) := by omega
 (refine wpOpIn_plain ho rfl (oper_inK hF.fn (fun K hK => ?_)); clear ho; rw [Oper.semAt_plain Fc _ _ (by intro c h; cases h)]; simp only [ddo5_o4]; go_simp)
 exact hK _ _ ⟨_, act_putD x hdef _ _, rfl, Below.refl _ _⟩
theorem ddo5_s5 (H : ddo5_H Fc gD oD n cD i c P L df w0 x w) (p4 : ddo5_val gD oD n cD i c P L 4 (x.tmps.getD 22 undef) w) : Stp Fc nC Tryz.prog ddo5_ops Q 5 23 (ddo5_val gD oD n cD i c P L 5) x w := by
 (obtain ⟨hF, hi, hc, hp, hl, h0, h1, hB, hdef, u0, u5, u6⟩ := H; have ho : ddo5_ops[5]? = some ddo5_o5 := rfl; simp only [Array.getD_eq_getD_getElem?] at u0 u5 u6)
 have q4 : Array.getD (Act.tmps x) 22 undef = .pointer (some ⟨gD, oD + i * 4, none⟩) := p4
 simp only [Array.getD_eq_getD_getElem?] at q4
 (refine wpOpIn_plain ho rfl (oper_inK hF.fn (fun K hK => ?_)); clear ho; rw [Oper.semAt_plain Fc _ _ (by intro c h; cases h)]; simp only [ddo5_o5]; go_simp)
 exact hK _ _ ⟨_, act_putD x hdef _ _, rfl, Below.refl _ _⟩
theorem ddo5_s6 (H : ddo5_H Fc gD oD n cD i c P L df w0 x w) (p5 : ddo5_val gD oD n cD i c P L 5 (x.tmps.getD 23 undef) w) : Stp Fc nC Tryz.prog ddo5_ops Q 6 24 (ddo5_val gD oD n cD i c P L 6) x w := by
 (obtain ⟨hF, hi, hc, hp, hl, h0, h1, hB, hdef, u0, u5, u6⟩ := H; have ho : ddo5_ops[6]? = some ddo5_o6 := rfl; simp only [Array.getD_eq_getD_getElem?] at u0 u5 u6)
 have q5 : Array.getD (Act.tmps x) 23 undef = .pointer (some ⟨gD, oD + i * 4, none⟩) := p5
 simp only [Array.getD_eq_getD_getElem?] at q5
 have m := cell_thru h0 hB
 (refine wpOpIn_plain ho rfl (oper_inK hF.fn (fun K hK => ?_)); clear ho; rw [Oper.semAt_plain Fc _ _ (by intro c h; cases h)]; simp only [ddo5_o6]; go_simp)
 exact hK _ _ ⟨_, act_putD x hdef _ _, rfl, Below.refl _ _⟩
theorem ddo5_s7 (H : ddo5_H Fc gD oD n cD i c P L df w0 x w) (p6 : ddo5_val gD oD n cD i c P L 6 (x.tmps.getD 24 undef) w) : Stp Fc nC Tryz.prog ddo5_ops Q 7 25 (ddo5_val gD oD n cD i c P L 7) x w := by
 (obtain ⟨hF, hi, hc, hp, hl, h0, h1, hB, hdef, u0, u5, u6⟩ := H; have ho : ddo5_ops[7]? = some ddo5_o7 := rfl; simp only [Array.getD_eq_getD_getElem?] at u0 u5 u6)
 have q6 : Array.getD (Act.tmps x) 24 undef = by8 P := p6
 simp only [Array.getD_eq_getD_getElem?] at q6
 unfold by8 at q6
 (refine wpOpIn_plain ho rfl (oper_inK hF.fn (fun K hK => ?_)); clear ho; rw [Oper.semAt_plain Fc _ _ (by intro c h; cases h)]; simp only [ddo5_o7]; go_simp)
 exact hK _ _ ⟨.int .i64 (P.length : Nat), act_putD x hdef _ _, rfl, Below.refl _ _⟩
theorem ddo5_s8 (H : ddo5_H Fc gD oD n cD i c P L df w0 x w) (p1 : ddo5_val gD oD n cD i c P L 1 (x.tmps.getD 19 undef) w) (p7 : ddo5_val gD oD n cD i c P L 7 (x.tmps.getD 25 undef) w) : Stp Fc nC Tryz.prog ddo5_ops Q 8 26 (ddo5_val gD oD n cD i c P L 8) x w := by
 (obtain ⟨hF, hi, hc, hp, hl, h0, h1, hB, hdef, u0, u5, u6⟩ := H; have ho : ddo5_ops[8]? = some ddo5_o8 := rfl; simp only [Array.getD_eq_getD_getElem?] at u0 u5 u6)
 have q1 : Array.getD (Act.tmps x) 19 undef = .int .i64 ((c : Int) + 1) := p1
 have q7 : Array.getD (Act.tmps x) 25 undef = .int .i64 (P.length : Nat) := p7
 simp only [Array.getD_eq_getD_getElem?] at q1 q7
 have m := IntWalk.i64_in ((c : Int) + 1 + (P.length : Nat)) (by omega)
 (refine wpOpIn_plain ho rfl (oper_inK hF.fn (fun K hK => ?_)); clear ho; rw [Oper.semAt_plain Fc _ _ (by intro c h; cases h)]; simp only [ddo5_o8]; go_simp)
 exact hK _ _ ⟨_, act_putD x hdef _ _, rfl, Below.refl _ _⟩
theorem ddo5_s9 (H : ddo5_H Fc gD oD n cD i c P L df w0 x w) : Stp Fc nC Tryz.prog ddo5_ops Q 9 27 (ddo5_val gD oD n cD i c P L 9) x w := by
 (obtain ⟨hF, hi, hc, hp, hl, h0, h1, hB, hdef, u0, u5, u6⟩ := H; have ho : ddo5_ops[9]? = some ddo5_o9 := rfl; simp only [Array.getD_eq_getD_getElem?] at u0 u5 u6)
 (refine wpOpIn_plain ho rfl (oper_inK hF.fn (fun K hK => ?_)); clear ho; rw [Oper.semAt_plain Fc _ _ (by intro c h; cases h)]; simp only [ddo5_o9]; go_simp)
 exact hK _ _ ⟨_, act_putD x hdef _ _, rfl, Below.refl _ _⟩
theorem ddo5_s10 (H : ddo5_H Fc gD oD n cD i c P L df w0 x w) : Stp Fc nC Tryz.prog ddo5_ops Q 10 28 (ddo5_val gD oD n cD i c P L 10) x w := by
 (obtain ⟨hF, hi, hc, hp, hl, h0, h1, hB, hdef, u0, u5, u6⟩ := H; have ho : ddo5_ops[10]? = some ddo5_o10 := rfl; simp only [Array.getD_eq_getD_getElem?] at u0 u5 u6)
 (refine wpOpIn_plain ho rfl (oper_inK hF.fn (fun K hK => ?_)); clear ho; rw [Oper.semAt_plain Fc _ _ (by intro c h; cases h)]; simp only [ddo5_o10]; go_simp)
 exact hK _ _ ⟨_, act_putD x hdef _ _, rfl, Below.refl _ _⟩
theorem ddo5_s11 (H : ddo5_H Fc gD oD n cD i c P L df w0 x w) (p9 : ddo5_val gD oD n cD i c P L 9 (x.tmps.getD 27 undef) w) (p10 : ddo5_val gD oD n cD i c P L 10 (x.tmps.getD 28 undef) w) : Stp Fc nC Tryz.prog ddo5_ops Q 11 29 (ddo5_val gD oD n cD i c P L 11) x w := by
 (obtain ⟨hF, hi, hc, hp, hl, h0, h1, hB, hdef, u0, u5, u6⟩ := H; have ho : ddo5_ops[11]? = some ddo5_o11 := rfl; simp only [Array.getD_eq_getD_getElem?] at u0 u5 u6)
 have q9 : Array.getD (Act.tmps x) 27 undef = .slice (some ⟨gD, oD, none⟩) n cD := p9
 have q10 : Array.getD (Act.tmps x) 28 undef = .int .i64 (i : Nat) := p10
 simp only [Array.getD_eq_getD_getElem?] at q9 q10
 have i0 : (0 : Int) ≤ (i : Int) := by omega
 have i1 : (i : Int) < (n : Int) := by omega
 (refine wpOpIn_plain ho rfl (oper_inK hF.fn (fun K hK => ?_)); clear ho; rw [Oper.semAt_plain Fc _ _ (by intro c h; cases h)]; simp only [ddo5_o11]; go_simp)
 exact hK _ _ ⟨_, act_putD x hdef _ _, rfl, Below.refl _ _⟩
theorem ddo5_s12 (H : ddo5_H Fc gD oD n cD i c P L df w0 x w) (p11 : ddo5_val gD oD n cD i c P L 11 (x.tmps.getD 29 undef) w) : Stp Fc nC Tryz.prog ddo5_ops Q 12 30 (ddo5_val gD oD n cD i c P L 12) x w := by
 (obtain ⟨hF, hi, hc, hp, hl, h0, h1, hB, hdef, u0, u5, u6⟩ := H; have ho : ddo5_ops[12]? = some ddo5_o12 := rfl; simp only [Array.getD_eq_getD_getElem?] at u0 u5 u6)
 have q11 : Array.getD (Act.tmps x) 29 undef = .pointer (some ⟨gD, oD + i * 4, none⟩) := p11
 simp only [Array.getD_eq_getD_getElem?] at q11
 (refine wpOpIn_plain ho rfl (oper_inK hF.fn (fun K hK => ?_)); clear ho; rw [Oper.semAt_plain Fc _ _ (by intro c h; cases h)]; simp only [ddo5_o12]; go_simp)
 exact hK _ _ ⟨_, act_putD x hdef _ _, rfl, Below.refl _ _⟩
theorem ddo5_s13 (H : ddo5_H Fc gD oD n cD i c P L df w0 x w) (p12 : ddo5_val gD oD n cD i c P L 12 (x.tmps.getD 30 undef) w) : Stp Fc nC Tryz.prog ddo5_ops Q 13 31 (ddo5_val gD oD n cD i c P L 13) x w := by
 (obtain ⟨hF, hi, hc, hp, hl, h0, h1, hB, hdef, u0, u5, u6⟩ := H; have ho : ddo5_ops[13]? = some ddo5_o13 := rfl; simp only [Array.getD_eq_getD_getElem?] at u0 u5 u6)
 have q12 : Array.getD (Act.tmps x) 30 undef = .pointer (some ⟨gD, oD + i * 4 + 1, none⟩) := p12
 simp only [Array.getD_eq_getD_getElem?] at q12
 have m := cell_thru h1 hB
 (refine wpOpIn_plain ho rfl (oper_inK hF.fn (fun K hK => ?_)); clear ho; rw [Oper.semAt_plain Fc _ _ (by intro c h; cases h)]; simp only [ddo5_o13]; go_simp)
 exact hK _ _ ⟨_, act_putD x hdef _ _, rfl, Below.refl _ _⟩
theorem ddo5_s14 (H : ddo5_H Fc gD oD n cD i c P L df w0 x w) (p13 : ddo5_val gD oD n cD i c P L 13 (x.tmps.getD 31 undef) w) : Stp Fc nC Tryz.prog ddo5_ops Q 14 32 (ddo5_val gD oD n cD i c P L 14) x w := by
 (obtain ⟨hF, hi, hc, hp, hl, h0, h1, hB, hdef, u0, u5, u6⟩ := H; have ho : ddo5_ops[14]? = some ddo5_o14 := rfl; simp only [Array.getD_eq_getD_getElem?] at u0 u5 u6)
 have q13 : Array.getD (Act.tmps x) 31 undef = by8 L := p13
 simp only [Array.getD_eq_getD_getElem?] at q13
 unfold by8 at q13
 (refine wpOpIn_plain ho rfl (oper_inK hF.fn (fun K hK => ?_)); clear ho; rw [Oper.semAt_plain Fc _ _ (by intro c h; cases h)]; simp only [ddo5_o14]; go_simp)
 exact hK _ _ ⟨.int .i64 (L.length : Nat), act_putD x hdef _ _, rfl, Below.refl _ _⟩
theorem ddo5_s15 (H : ddo5_H Fc gD oD n cD i c P L df w0 x w) (p8 : ddo5_val gD oD n cD i c P L 8 (x.tmps.getD 26 undef) w) (p14 : ddo5_val gD oD n cD i c P L 14 (x.tmps.getD 32 undef) w) : Stp Fc nC Tryz.prog ddo5_ops Q 15 33 (ddo5_val gD oD n cD i c P L 15) x w := by
 (obtain ⟨hF, hi, hc, hp, hl, h0, h1, hB, hdef, u0, u5, u6⟩ := H; have ho : ddo5_ops[15]? = some ddo5_o15 := rfl; simp only [Array.getD_eq_getD_getElem?] at u0 u5 u6)
 have q8 : Array.getD (Act.tmps x) 26 undef = .int .i64 ((c : Int) + 1 + (P.length : Nat)) := p8
 have q14 : Array.getD (Act.tmps x) 32 undef = .int .i64 (L.length : Nat) := p14
 simp only [Array.getD_eq_getD_getElem?] at q8 q14
 have m := IntWalk.i64_in ((c : Int) + 1 + (P.length : Nat) + (L.length : Nat)) (by omega)
 (refine wpOpIn_plain ho rfl (oper_inK hF.fn (fun K hK => ?_)); clear ho; rw [Oper.semAt_plain Fc _ _ (by intro c h; cases h)]; simp only [ddo5_o15]; go_simp)
 exact hK _ _ ⟨_, act_putD x hdef _ _, rfl, Below.refl _ _⟩
end
section
theorem ddo5 {Fc : Fence} (hF : Wide Fc) {nC : Nat} (gD oD n cD i c : Nat) (P L : List UInt8) (Q : Exit → Act → World → Prop) (t0 : Array Value) (df : List Deferred) (w0 : World) (ht : t0.size = 35)
  (hs0 : t0.getD 0 undef = .slice (some ⟨gD, oD, none⟩) n cD) (hs5 : t0.getD 5 undef = .int .i64 (c : Nat)) (hs6 : t0.getD 6 undef = .int .i64 (i : Nat))
  (hi : i < n) (hc : c ≤ 4000) (hp : P.length ≤ 140737488351232) (hl : L.length ≤ 140737488351232) (h0 : w0.cell? ⟨gD, oD + i * 4, none⟩ = some (by8 P)) (h1 : w0.cell? ⟨gD, oD + i * 4 + 1, none⟩ = some (by8 L))
  (hQ : ∀ (vs : Nat → Value) (w : World), Below w0.heap.size w0 w → (vs 33 = .int .i64 ((c : Int) + 1 + (P.length : Nat) + (L.length : Nat))) → wpOpIn Fc nC Tryz.prog ddo5_ops Q 16 (Q .normal) { tmps := [18, 19, 20, 21, 22, 23, 24, 25, 26, 27, 28, 29, 30, 31, 32, 33].foldl (fun y d => y.setIfInBounds d (vs d)) t0, defers := df } w) :
  (Code.region 5 ddo5_ops true).wpIn Fc nC Tryz.prog Q { tmps := t0, defers := df } w0 := by
 refine wpIn_region_tail 16 (by decide) (by kernel_rfl) (fun a b => Below a.heap.size a b) (ddo5_val gD oD n cD i c P L) t0 df w0 (by rw [ht]; kernel_rfl) (by kernel_rfl) (by kernel_rfl) (by kernel_rfl) ((Below.refl _ _).drew) (fun _ _ _ h k => h.trans (k.mono h.size)) (ddo5_below gD oD n cD i c P L) ?_ ?_
 ·intro j o ho hj x w hB hdef hsz hs hdeps
  have hs' : ∀ s, ¬ ddo5_mem s → x.tmps.getD s undef = t0.getD s undef := fun s hn => hs s (fun j hj e => hn (by rw [e]; exact ddo5_slots j hj))
  have u0 := (hs' 0 (by decide)).trans hs0
  have u5 := (hs' 5 (by decide)).trans hs5
  have u6 := (hs' 6 (by decide)).trans hs6
  have H : ddo5_H Fc gD oD n cD i c P L df w0 x w := ⟨hF, hi, hc, hp, hl, h0, h1, hB, hdef, u0, u5, u6⟩
  match j, ho, hj with
  | 0, ho, _ =>
    (have e : o = ddo5_o0 := (Option.some.inj ho).symm; subst e)
    exact ddo5_s0 H 
  | 1, ho, _ =>
    (have e : o = ddo5_o1 := (Option.some.inj ho).symm; subst e)
    exact ddo5_s1 H (hdeps ⟨0, .data⟩ (by simp) rfl)
  | 2, ho, _ =>
    (have e : o = ddo5_o2 := (Option.some.inj ho).symm; subst e)
    exact ddo5_s2 H 
  | 3, ho, _ =>
    (have e : o = ddo5_o3 := (Option.some.inj ho).symm; subst e)
    exact ddo5_s3 H 
  | 4, ho, _ =>
    (have e : o = ddo5_o4 := (Option.some.inj ho).symm; subst e)
    exact ddo5_s4 H (hdeps ⟨2, .data⟩ (by simp) rfl) (hdeps ⟨3, .data⟩ (by simp) rfl)
  | 5, ho, _ =>
    (have e : o = ddo5_o5 := (Option.some.inj ho).symm; subst e)
    exact ddo5_s5 H (hdeps ⟨4, .data⟩ (by simp) rfl)
  | 6, ho, _ =>
    (have e : o = ddo5_o6 := (Option.some.inj ho).symm; subst e)
    exact ddo5_s6 H (hdeps ⟨5, .data⟩ (by simp) rfl)
  | 7, ho, _ =>
    (have e : o = ddo5_o7 := (Option.some.inj ho).symm; subst e)
    exact ddo5_s7 H (hdeps ⟨6, .data⟩ (by simp) rfl)
  | 8, ho, _ =>
    (have e : o = ddo5_o8 := (Option.some.inj ho).symm; subst e)
    exact ddo5_s8 H (hdeps ⟨1, .data⟩ (by simp) rfl) (hdeps ⟨7, .data⟩ (by simp) rfl)
  | 9, ho, _ =>
    (have e : o = ddo5_o9 := (Option.some.inj ho).symm; subst e)
    exact ddo5_s9 H 
  | 10, ho, _ =>
    (have e : o = ddo5_o10 := (Option.some.inj ho).symm; subst e)
    exact ddo5_s10 H 
  | 11, ho, _ =>
    (have e : o = ddo5_o11 := (Option.some.inj ho).symm; subst e)
    exact ddo5_s11 H (hdeps ⟨9, .data⟩ (by simp) rfl) (hdeps ⟨10, .data⟩ (by simp) rfl)
  | 12, ho, _ =>
    (have e : o = ddo5_o12 := (Option.some.inj ho).symm; subst e)
    exact ddo5_s12 H (hdeps ⟨11, .data⟩ (by simp) rfl)
  | 13, ho, _ =>
    (have e : o = ddo5_o13 := (Option.some.inj ho).symm; subst e)
    exact ddo5_s13 H (hdeps ⟨12, .data⟩ (by simp) rfl)
  | 14, ho, _ =>
    (have e : o = ddo5_o14 := (Option.some.inj ho).symm; subst e)
    exact ddo5_s14 H (hdeps ⟨13, .data⟩ (by simp) rfl)
  | 15, ho, _ =>
    (have e : o = ddo5_o15 := (Option.some.inj ho).symm; subst e)
    exact ddo5_s15 H (hdeps ⟨8, .data⟩ (by simp) rfl) (hdeps ⟨14, .data⟩ (by simp) rfl)
  | k + 16, _, hj => omega
 ·intro x w hB hdef hsz hs hv
  have hx := frame_sets x.tmps t0 hsz [18, 19, 20, 21, 22, 23, 24, 25, 26, 27, 28, 29, 30, 31, 32, 33] (fun s hn => hs s (fun j hj e => hn (by rw [e]; exact ddo5_slots j hj)))
  have hq := hQ (fun d => x.tmps.getD d undef) w hB (hv 15 (by decide))
  obtain ⟨T, Df⟩ := x
  dsimp only at hx hdef hq
  subst hdef
  rw [← hx] at hq
  exact hq
end
abbrev dkd7_o0 : Oper := ⟨some 23, .move (.tmp 6), 3, "lent.go:456", #[], none⟩
abbrev dkd7_o1 : Oper := ⟨some 24, .move (.tmp 1), 22, "lent.go:456", #[], none⟩
abbrev dkd7_o2 : Oper := ⟨some 25, .call ⟨.builtin .len, #[.tmp 24], #[22]⟩, 3, "lent.go:456", #[⟨1, .data⟩], none⟩
abbrev dkd7_o3 : Oper := ⟨some 26, .binOp .lss 3 (.tmp 23) (.tmp 25) 3, 4, "lent.go:456", #[⟨0, .data⟩, ⟨2, .data⟩], none⟩
abbrev dkd7_o4 : Oper := ⟨some 27, .move (.tmp 26), 4, "lent.go:456", #[⟨3, .data⟩], none⟩
abbrev dkd7_o5 : Oper := ⟨some 28, .move (.tmp 5), 22, "lent.go:456", #[⟨4, .guard⟩], some (4, true)⟩
abbrev dkd7_o6 : Oper := ⟨some 29, .move (.tmp 6), 3, "lent.go:456", #[⟨4, .guard⟩], some (4, true)⟩
abbrev dkd7_o7 : Oper := ⟨some 30, .indexAddr 22 (.tmp 28) (.tmp 29), 0, "lent.go:456", #[⟨5, .data⟩, ⟨6, .data⟩, ⟨4, .guard⟩], some (4, true)⟩
abbrev dkd7_o8 : Oper := ⟨some 31, .load 47 (.tmp 30), 47, "lent.go:456", #[⟨7, .data⟩, ⟨4, .guard⟩], some (4, true)⟩
abbrev dkd7_o9 : Oper := ⟨some 32, .move (.tmp 1), 22, "lent.go:456", #[⟨4, .guard⟩], some (4, true)⟩
abbrev dkd7_o10 : Oper := ⟨some 33, .move (.tmp 6), 3, "lent.go:456", #[⟨4, .guard⟩], some (4, true)⟩
abbrev dkd7_o11 : Oper := ⟨some 34, .indexAddr 22 (.tmp 32) (.tmp 33), 0, "lent.go:456", #[⟨9, .data⟩, ⟨10, .data⟩, ⟨4, .guard⟩], some (4, true)⟩
abbrev dkd7_o12 : Oper := ⟨some 35, .load 47 (.tmp 34), 47, "lent.go:456", #[⟨11, .data⟩, ⟨4, .guard⟩], some (4, true)⟩
abbrev dkd7_o13 : Oper := ⟨some 36, .binOp .eql 47 (.tmp 31) (.tmp 35) 47, 4, "lent.go:456", #[⟨8, .data⟩, ⟨12, .data⟩, ⟨4, .guard⟩], some (4, true)⟩
abbrev dkd7_o14 : Oper := ⟨some 37, .unOp .not 4 (.tmp 36), 4, "lent.go:456", #[⟨13, .data⟩, ⟨4, .guard⟩], some (4, true)⟩
abbrev dkd7_o15 : Oper := ⟨some 38, .pick (.tmp 27) (.tmp 37) (.const (.bool false)), 4, "lent.go:456", #[⟨4, .data⟩, ⟨14, .data⟩], none⟩
abbrev dkd7_o16 : Oper := ⟨some 39, .move (.tmp 38), 4, "lent.go:456", #[⟨15, .data⟩, ⟨4, .chain⟩], none⟩
abbrev dkd7_o17 : Oper := ⟨some 40, .move (.tmp 6), 3, "lent.go:456", #[⟨16, .guard⟩], some (16, false)⟩
abbrev dkd7_o18 : Oper := ⟨some 41, .move (.tmp 1), 22, "lent.go:456", #[⟨16, .guard⟩], some (16, false)⟩
abbrev dkd7_o19 : Oper := ⟨some 42, .call ⟨.builtin .len, #[.tmp 41], #[22]⟩, 3, "lent.go:456", #[⟨18, .data⟩, ⟨16, .guard⟩], some (16, false)⟩
abbrev dkd7_o20 : Oper := ⟨some 43, .binOp .geq 3 (.tmp 40) (.tmp 42) 3, 4, "lent.go:456", #[⟨17, .data⟩, ⟨19, .data⟩, ⟨16, .guard⟩], some (16, false)⟩
abbrev dkd7_o21 : Oper := ⟨some 44, .move (.tmp 43), 4, "lent.go:456", #[⟨20, .data⟩, ⟨16, .chain⟩, ⟨16, .guard⟩], some (16, false)⟩
abbrev dkd7_o22 : Oper := ⟨some 45, .move (.tmp 5), 22, "lent.go:456", #[⟨21, .guard⟩], some (21, true)⟩
abbrev dkd7_o23 : Oper := ⟨some 46, .move (.tmp 6), 3, "lent.go:456", #[⟨21, .guard⟩], some (21, true)⟩
abbrev dkd7_o24 : Oper := ⟨some 47, .indexAddr 22 (.tmp 45) (.tmp 46), 0, "lent.go:456", #[⟨22, .data⟩, ⟨23, .data⟩, ⟨21, .guard⟩], some (21, true)⟩
abbrev dkd7_o25 : Oper := ⟨some 48, .load 47 (.tmp 47), 47, "lent.go:456", #[⟨24, .data⟩, ⟨21, .guard⟩], some (21, true)⟩
abbrev dkd7_o26 : Oper := ⟨some 49, .move (.tmp 6), 3, "lent.go:456", #[⟨21, .guard⟩], some (21, true)⟩
abbrev dkd7_o27 : Oper := ⟨some 50, .move (.tmp 1), 22, "lent.go:456", #[⟨21, .guard⟩], some (21, true)⟩
abbrev dkd7_o28 : Oper := ⟨some 51, .call ⟨.builtin .len, #[.tmp 50], #[22]⟩, 3, "lent.go:456", #[⟨27, .data⟩, ⟨21, .guard⟩], some (21, true)⟩
abbrev dkd7_o29 : Oper := ⟨some 52, .binOp .sub 3 (.tmp 49) (.tmp 51) 3, 3, "lent.go:456", #[⟨26, .data⟩, ⟨28, .data⟩, ⟨21, .guard⟩], some (21, true)⟩
abbrev dkd7_o30 : Oper := ⟨some 53, .call ⟨.value (.func 23), #[.const (.int .i64 1), .tmp 52], #[3, 3]⟩, 47, "lent.go:456", #[⟨29, .data⟩, ⟨21, .chain⟩, ⟨21, .guard⟩], some (21, true)⟩
abbrev dkd7_o31 : Oper := ⟨some 54, .binOp .eql 47 (.tmp 48) (.tmp 53) 47, 4, "lent.go:456", #[⟨25, .data⟩, ⟨30, .data⟩, ⟨21, .guard⟩], some (21, true)⟩
abbrev dkd7_o32 : Oper := ⟨some 55, .unOp .not 4 (.tmp 54), 4, "lent.go:456", #[⟨31, .data⟩, ⟨21, .guard⟩], some (21, true)⟩
abbrev dkd7_o33 : Oper := ⟨some 56, .pick (.tmp 44) (.tmp 55) (.const (.bool false)), 4, "lent.go:456", #[⟨21, .data⟩, ⟨32, .data⟩, ⟨16, .guard⟩], some (16, false)⟩
abbrev dkd7_o34 : Oper := ⟨some 57, .pick (.tmp 39) (.const (.bool true)) (.tmp 56), 4, "lent.go:456", #[⟨16, .data⟩, ⟨33, .data⟩], none⟩
def dkd7_ops : Array Oper := #[dkd7_o0, dkd7_o1, dkd7_o2, dkd7_o3, dkd7_o4, dkd7_o5, dkd7_o6, dkd7_o7, dkd7_o8, dkd7_o9, dkd7_o10, dkd7_o11, dkd7_o12, dkd7_o13, dkd7_o14, dkd7_o15, dkd7_o16, dkd7_o17, dkd7_o18, dkd7_o19, dkd7_o20, dkd7_o21, dkd7_o22, dkd7_o23, dkd7_o24, dkd7_o25, dkd7_o26, dkd7_o27, dkd7_o28, dkd7_o29, dkd7_o30, dkd7_o31, dkd7_o32, dkd7_o33, dkd7_o34]
abbrev dkd7_mem (s : Nat) : Prop := s ∈ [23, 24, 25, 26, 27, 28, 29, 30, 31, 32, 33, 34, 35, 36, 37, 38, 39, 40, 41, 42, 43, 44, 45, 46, 47, 48, 49, 50, 51, 52, 53, 54, 55, 56, 57]
theorem dkd7_slots : ∀ j, j < 35 → dkd7_mem (slotOf dkd7_ops j) := by
 intro j hj
 match j, hj with
 | 0, _ => exact (by decide : dkd7_mem 23)
 | 1, _ => exact (by decide : dkd7_mem 24)
 | 2, _ => exact (by decide : dkd7_mem 25)
 | 3, _ => exact (by decide : dkd7_mem 26)
 | 4, _ => exact (by decide : dkd7_mem 27)
 | 5, _ => exact (by decide : dkd7_mem 28)
 | 6, _ => exact (by decide : dkd7_mem 29)
 | 7, _ => exact (by decide : dkd7_mem 30)
 | 8, _ => exact (by decide : dkd7_mem 31)
 | 9, _ => exact (by decide : dkd7_mem 32)
 | 10, _ => exact (by decide : dkd7_mem 33)
 | 11, _ => exact (by decide : dkd7_mem 34)
 | 12, _ => exact (by decide : dkd7_mem 35)
 | 13, _ => exact (by decide : dkd7_mem 36)
 | 14, _ => exact (by decide : dkd7_mem 37)
 | 15, _ => exact (by decide : dkd7_mem 38)
 | 16, _ => exact (by decide : dkd7_mem 39)
 | 17, _ => exact (by decide : dkd7_mem 40)
 | 18, _ => exact (by decide : dkd7_mem 41)
 | 19, _ => exact (by decide : dkd7_mem 42)
 | 20, _ => exact (by decide : dkd7_mem 43)
 | 21, _ => exact (by decide : dkd7_mem 44)
 | 22, _ => exact (by decide : dkd7_mem 45)
 | 23, _ => exact (by decide : dkd7_mem 46)
 | 24, _ => exact (by decide : dkd7_mem 47)
 | 25, _ => exact (by decide : dkd7_mem 48)
 | 26, _ => exact (by decide : dkd7_mem 49)
 | 27, _ => exact (by decide : dkd7_mem 50)
 | 28, _ => exact (by decide : dkd7_mem 51)
 | 29, _ => exact (by decide : dkd7_mem 52)
 | 30, _ => exact (by decide : dkd7_mem 53)
 | 31, _ => exact (by decide : dkd7_mem 54)
 | 32, _ => exact (by decide : dkd7_mem 55)
 | 33, _ => exact (by decide : dkd7_mem 56)
 | 34, _ => exact (by decide : dkd7_mem 57)
 | k + 35, hj => omega
def dkdA_val (gR oR m cR gB oB n cA i : Nat) (d : DT) : Nat → Value → World → Prop
 | 0, v, w => v = .int .i64 (i : Nat)
 | 1, v, w => v = .slice (some ⟨gB, oB, none⟩) n cA
 | 2, v, w => v = .int .i64 (n : Nat)
 | 3, v, w => v = .bool true
 | 4, v, w => v = .bool true
 | 5, v, w => v = .slice (some ⟨gR, oR, none⟩) m cR
 | 6, v, w => v = .int .i64 (i : Nat)
 | 7, v, w => v = .pointer (some ⟨gR, oR + i * 4, none⟩)
 | 8, v, w => v = .agg #[by8 d.P, by8 d.L, .int .u32 (d.S : Nat), .int .i64 d.Z]
 | 9, v, w => v = .slice (some ⟨gB, oB, none⟩) n cA
 | 10, v, w => v = .int .i64 (i : Nat)
 | 11, v, w => v = .pointer (some ⟨gB, oB + i * 4, none⟩)
 | 12, v, w => v = .agg #[by8 d.P, by8 d.L, .int .u32 (d.S : Nat), .int .i64 d.Z]
 | 13, v, w => v = .bool true
 | 14, v, w | 15, v, w | 16, v, w => v = .bool false
 | 17, v, w => v = .int .i64 (i : Nat)
 | 18, v, w => v = .slice (some ⟨gB, oB, none⟩) n cA
 | 19, v, w => v = .int .i64 (n : Nat)
 | 20, v, w => v = .bool false
 | 21, v, w => v = .bool false
 | 22, v, w | 23, v, w | 24, v, w | 25, v, w | 26, v, w | 27, v, w | 28, v, w | 29, v, w | 30, v, w | 31, v, w | 32, v, w => v = undef
 | 33, v, w => v = .bool false
 | 34, v, w => v = .bool false
 | _, _, _ => True
theorem dkdA_below (gR oR m cR gB oB n cA i : Nat) (d : DT) (w w' : World) (hb : Below w.heap.size w w') : ∀ j v, dkdA_val gR oR m cR gB oB n cA i d j v w → dkdA_val gR oR m cR gB oB n cA i d j v w' := by
 intro j v h
 match j, h with
 | 0, h | 1, h | 2, h | 3, h | 4, h | 5, h | 6, h | 7, h | 8, h | 9, h | 10, h | 11, h | 12, h | 13, h | 14, h | 15, h | 16, h | 17, h | 18, h | 19, h | 20, h | 21, h | 22, h | 23, h | 24, h | 25, h | 26, h | 27, h | 28, h | 29, h | 30, h | 31, h | 32, h | 33, h | 34, h => exact h
 | _ + 35, h => exact h
def dkdA_H (Fc : Fence) (gR oR m cR gB oB n cA i : Nat) (d : DT) (df : List Deferred) (w0 : World) (x : Act) (w : World) : Prop :=
 (Wide Fc) ∧ (Hid (i < n ∧ i < m ∧ m ≤ 20000)) ∧ (w0.cell? ⟨gR, oR + i * 4, none⟩ = some (by8 d.P)) ∧ (w0.cell? ⟨gR, oR + i * 4 + 1, none⟩ = some (by8 d.L)) ∧ (w0.cell? ⟨gR, oR + i * 4 + 2, none⟩ = some (.int .u32 (d.S : Nat))) ∧ (w0.cell? ⟨gR, oR + i * 4 + 3, none⟩ = some (.int .i64 d.Z)) ∧ (w0.cell? ⟨gB, oB + i * 4, none⟩ = some (by8 d.P)) ∧ (w0.cell? ⟨gB, oB + i * 4 + 1, none⟩ = some (by8 d.L)) ∧ (w0.cell? ⟨gB, oB + i * 4 + 2, none⟩ = some (.int .u32 (d.S : Nat))) ∧ (w0.cell? ⟨gB, oB + i * 4 + 3, none⟩ = some (.int .i64 d.Z)) ∧ (Below w0.heap.size w0 w) ∧ (x.defers = df) ∧ (x.tmps.getD 1 undef = .slice (some ⟨gB, oB, none⟩) n cA) ∧ (x.tmps.getD 5 undef = .slice (some ⟨gR, oR, none⟩) m cR) ∧ (x.tmps.getD 6 undef = .int .i64 (i : Nat))
section
set_option maxRecDepth 100000
set_option maxHeartbeats 2000000
variable {Fc : Fence} {nC : Nat} {gR oR m cR gB oB n cA i : Nat} {d : DT} {Q : Exit → Act → World → Prop} {df : List Deferred} {w0 : World} {x : Act} {w : World}
theorem dkdA_s0 (H : dkdA_H Fc gR oR m cR gB oB n cA i d df w0 x w) : Stp Fc nC Tryz.prog dkd7_ops Q 0 23 (dkdA_val gR oR m cR gB oB n cA i d 0) x w := by
 (obtain ⟨hF, hk, x0, x1, x2, x3, y0, y1, y2, y3, hB, hdef, u1, u5, u6⟩ := H; have ho : dkd7_ops[0]? = some dkd7_o0 := rfl; simp only [Array.getD_eq_getD_getElem?] at u1 u5 u6)
 (refine wpOpIn_plain ho rfl (oper_inK hF.fn (fun K hK => ?_)); clear ho; rw [Oper.semAt_plain Fc _ _ (by intro c h; cases h)]; simp only [dkd7_o0]; go_simp)
 exact hK _ _ ⟨_, act_putD x hdef _ _, rfl, Below.refl _ _⟩
theorem dkdA_s1 (H : dkdA_H Fc gR oR m cR gB oB n cA i d df w0 x w) : Stp Fc nC Tryz.prog dkd7_ops Q 1 24 (dkdA_val gR oR m cR gB oB n cA i d 1) x w := by
 (obtain ⟨hF, hk, x0, x1, x2, x3, y0, y1, y2, y3, hB, hdef, u1, u5, u6⟩ := H; have ho : dkd7_ops[1]? = some dkd7_o1 := rfl; simp only [Array.getD_eq_getD_getElem?] at u1 u5 u6)
 (refine wpOpIn_plain ho rfl (oper_inK hF.fn (fun K hK => ?_)); clear ho; rw [Oper.semAt_plain Fc _ _ (by intro c h; cases h)]; simp only [dkd7_o1]; go_simp)
 exact hK _ _ ⟨_, act_putD x hdef _ _, rfl, Below.refl _ _⟩
theorem dkdA_s2 (H : dkdA_H Fc gR oR m cR gB oB n cA i d df w0 x w) (p1 : dkdA_val gR oR m cR gB oB n cA i d 1 (x.tmps.getD 24 undef) w) : Stp Fc nC Tryz.prog dkd7_ops Q 2 25 (dkdA_val gR oR m cR gB oB n cA i d 2) x w := by
 (obtain ⟨hF, hk, x0, x1, x2, x3, y0, y1, y2, y3, hB, hdef, u1, u5, u6⟩ := H; have ho : dkd7_ops[2]? = some dkd7_o2 := rfl; simp only [Array.getD_eq_getD_getElem?] at u1 u5 u6)
 have q1 : Array.getD (Act.tmps x) 24 undef = .slice (some ⟨gB, oB, none⟩) n cA := p1
 simp only [Array.getD_eq_getD_getElem?] at q1
 (refine wpOpIn_plain ho rfl (oper_inK hF.fn (fun K hK => ?_)); clear ho; rw [Oper.semAt_plain Fc _ _ (by intro c h; cases h)]; simp only [dkd7_o2]; go_simp)
 exact hK _ _ ⟨_, act_putD x hdef _ _, rfl, Below.refl _ _⟩
theorem dkdA_s3 (H : dkdA_H Fc gR oR m cR gB oB n cA i d df w0 x w) (p0 : dkdA_val gR oR m cR gB oB n cA i d 0 (x.tmps.getD 23 undef) w) (p2 : dkdA_val gR oR m cR gB oB n cA i d 2 (x.tmps.getD 25 undef) w) : Stp Fc nC Tryz.prog dkd7_ops Q 3 26 (dkdA_val gR oR m cR gB oB n cA i d 3) x w := by
 (obtain ⟨hF, hk, x0, x1, x2, x3, y0, y1, y2, y3, hB, hdef, u1, u5, u6⟩ := H; have ho : dkd7_ops[3]? = some dkd7_o3 := rfl; simp only [Array.getD_eq_getD_getElem?] at u1 u5 u6)
 have q0 : Array.getD (Act.tmps x) 23 undef = .int .i64 (i : Nat) := p0
 have q2 : Array.getD (Act.tmps x) 25 undef = .int .i64 (n : Nat) := p2
 simp only [Array.getD_eq_getD_getElem?] at q0 q2
 have r1 : (i : Int) < (n : Int) := by have := hk.out; omega
 (refine wpOpIn_plain ho rfl (oper_inK hF.fn (fun K hK => ?_)); clear ho; rw [Oper.semAt_plain Fc _ _ (by intro c h; cases h)]; simp only [dkd7_o3]; go_simp)
 exact hK _ _ ⟨_, act_putD x hdef _ _, rfl, Below.refl _ _⟩
theorem dkdA_s4 (H : dkdA_H Fc gR oR m cR gB oB n cA i d df w0 x w) (p3 : dkdA_val gR oR m cR gB oB n cA i d 3 (x.tmps.getD 26 undef) w) : Stp Fc nC Tryz.prog dkd7_ops Q 4 27 (dkdA_val gR oR m cR gB oB n cA i d 4) x w := by
 (obtain ⟨hF, hk, x0, x1, x2, x3, y0, y1, y2, y3, hB, hdef, u1, u5, u6⟩ := H; have ho : dkd7_ops[4]? = some dkd7_o4 := rfl; simp only [Array.getD_eq_getD_getElem?] at u1 u5 u6)
 have q3 : Array.getD (Act.tmps x) 26 undef = .bool true := p3
 simp only [Array.getD_eq_getD_getElem?] at q3
 (refine wpOpIn_plain ho rfl (oper_inK hF.fn (fun K hK => ?_)); clear ho; rw [Oper.semAt_plain Fc _ _ (by intro c h; cases h)]; simp only [dkd7_o4]; go_simp)
 exact hK _ _ ⟨_, act_putD x hdef _ _, rfl, Below.refl _ _⟩
theorem dkdA_s5 (H : dkdA_H Fc gR oR m cR gB oB n cA i d df w0 x w) (p4 : dkdA_val gR oR m cR gB oB n cA i d 4 (x.tmps.getD 27 undef) w) : Stp Fc nC Tryz.prog dkd7_ops Q 5 28 (dkdA_val gR oR m cR gB oB n cA i d 5) x w := by
 (obtain ⟨hF, hk, x0, x1, x2, x3, y0, y1, y2, y3, hB, hdef, u1, u5, u6⟩ := H; have ho : dkd7_ops[5]? = some dkd7_o5 := rfl; simp only [Array.getD_eq_getD_getElem?] at u1 u5 u6)
 have q4 : Array.getD (Act.tmps x) 27 undef = .bool true := p4
 simp only [Array.getD_eq_getD_getElem?] at q4
 (have e4 : (dkd7_ops[4]?.bind fun x => x.dst) = some 27 := rfl; have g4 := get_someT q4 (fun h => by cases h))
 (refine wpOpIn_stepT hF ho (fun K hK => ?_); clear ho; rw [Oper.semAt_plain Fc _ _ (by intro c h; cases h)]; simp only [dkd7_o5]; go_simp)
 exact hK _ _ ⟨_, act_putD x hdef _ _, rfl, Below.refl _ _⟩
theorem dkdA_s6 (H : dkdA_H Fc gR oR m cR gB oB n cA i d df w0 x w) (p4 : dkdA_val gR oR m cR gB oB n cA i d 4 (x.tmps.getD 27 undef) w) : Stp Fc nC Tryz.prog dkd7_ops Q 6 29 (dkdA_val gR oR m cR gB oB n cA i d 6) x w := by
 (obtain ⟨hF, hk, x0, x1, x2, x3, y0, y1, y2, y3, hB, hdef, u1, u5, u6⟩ := H; have ho : dkd7_ops[6]? = some dkd7_o6 := rfl; simp only [Array.getD_eq_getD_getElem?] at u1 u5 u6)
 have q4 : Array.getD (Act.tmps x) 27 undef = .bool true := p4
 simp only [Array.getD_eq_getD_getElem?] at q4
 (have e4 : (dkd7_ops[4]?.bind fun x => x.dst) = some 27 := rfl; have g4 := get_someT q4 (fun h => by cases h))
 (refine wpOpIn_stepT hF ho (fun K hK => ?_); clear ho; rw [Oper.semAt_plain Fc _ _ (by intro c h; cases h)]; simp only [dkd7_o6]; go_simp)
 exact hK _ _ ⟨_, act_putD x hdef _ _, rfl, Below.refl _ _⟩
theorem dkdA_s7 (H : dkdA_H Fc gR oR m cR gB oB n cA i d df w0 x w) (p5 : dkdA_val gR oR m cR gB oB n cA i d 5 (x.tmps.getD 28 undef) w) (p6 : dkdA_val gR oR m cR gB oB n cA i d 6 (x.tmps.getD 29 undef) w) (p4 : dkdA_val gR oR m cR gB oB n cA i d 4 (x.tmps.getD 27 undef) w) : Stp Fc nC Tryz.prog dkd7_ops Q 7 30 (dkdA_val gR oR m cR gB oB n cA i d 7) x w := by
 (obtain ⟨hF, hk, x0, x1, x2, x3, y0, y1, y2, y3, hB, hdef, u1, u5, u6⟩ := H; have ho : dkd7_ops[7]? = some dkd7_o7 := rfl; simp only [Array.getD_eq_getD_getElem?] at u1 u5 u6)
 have q5 : Array.getD (Act.tmps x) 28 undef = .slice (some ⟨gR, oR, none⟩) m cR := p5
 have q6 : Array.getD (Act.tmps x) 29 undef = .int .i64 (i : Nat) := p6
 have q4 : Array.getD (Act.tmps x) 27 undef = .bool true := p4
 simp only [Array.getD_eq_getD_getElem?] at q5 q6 q4
 (have e4 : (dkd7_ops[4]?.bind fun x => x.dst) = some 27 := rfl; have g4 := get_someT q4 (fun h => by cases h))
 have r0 : (0 : Int) ≤ (i : Int) := by have := hk.out; omega
 have r1 : (i : Int) < (m : Int) := by have := hk.out; omega
 (refine wpOpIn_stepT hF ho (fun K hK => ?_); clear ho; rw [Oper.semAt_plain Fc _ _ (by intro c h; cases h)]; simp only [dkd7_o7]; go_simp)
 exact hK _ _ ⟨_, act_putD x hdef _ _, rfl, Below.refl _ _⟩
theorem dkdA_s8 (H : dkdA_H Fc gR oR m cR gB oB n cA i d df w0 x w) (p7 : dkdA_val gR oR m cR gB oB n cA i d 7 (x.tmps.getD 30 undef) w) (p4 : dkdA_val gR oR m cR gB oB n cA i d 4 (x.tmps.getD 27 undef) w) : Stp Fc nC Tryz.prog dkd7_ops Q 8 31 (dkdA_val gR oR m cR gB oB n cA i d 8) x w := by
 (obtain ⟨hF, hk, x0, x1, x2, x3, y0, y1, y2, y3, hB, hdef, u1, u5, u6⟩ := H; have ho : dkd7_ops[8]? = some dkd7_o8 := rfl; simp only [Array.getD_eq_getD_getElem?] at u1 u5 u6)
 have q7 : Array.getD (Act.tmps x) 30 undef = .pointer (some ⟨gR, oR + i * 4, none⟩) := p7
 have q4 : Array.getD (Act.tmps x) 27 undef = .bool true := p4
 simp only [Array.getD_eq_getD_getElem?] at q7 q4
 (have e4 : (dkd7_ops[4]?.bind fun x => x.dst) = some 27 := rfl; have g4 := get_someT q4 (fun h => by cases h))
 have m0 := cell_thru x0 hB
 have m1 := cell_thru x1 hB
 have m2 := cell_thru x2 hB
 have m3 := cell_thru x3 hB
 unfold by8 at *
 (refine wpOpIn_stepT hF ho (fun K hK => ?_); clear ho; rw [Oper.semAt_plain Fc _ _ (by intro c h; cases h)]; simp only [dkd7_o8]; go_simp)
 exact hK _ _ ⟨_, act_putD x hdef _ _, rfl, Below.refl _ _⟩
theorem dkdA_s9 (H : dkdA_H Fc gR oR m cR gB oB n cA i d df w0 x w) (p4 : dkdA_val gR oR m cR gB oB n cA i d 4 (x.tmps.getD 27 undef) w) : Stp Fc nC Tryz.prog dkd7_ops Q 9 32 (dkdA_val gR oR m cR gB oB n cA i d 9) x w := by
 (obtain ⟨hF, hk, x0, x1, x2, x3, y0, y1, y2, y3, hB, hdef, u1, u5, u6⟩ := H; have ho : dkd7_ops[9]? = some dkd7_o9 := rfl; simp only [Array.getD_eq_getD_getElem?] at u1 u5 u6)
 have q4 : Array.getD (Act.tmps x) 27 undef = .bool true := p4
 simp only [Array.getD_eq_getD_getElem?] at q4
 (have e4 : (dkd7_ops[4]?.bind fun x => x.dst) = some 27 := rfl; have g4 := get_someT q4 (fun h => by cases h))
 (refine wpOpIn_stepT hF ho (fun K hK => ?_); clear ho; rw [Oper.semAt_plain Fc _ _ (by intro c h; cases h)]; simp only [dkd7_o9]; go_simp)
 exact hK _ _ ⟨_, act_putD x hdef _ _, rfl, Below.refl _ _⟩
theorem dkdA_s10 (H : dkdA_H Fc gR oR m cR gB oB n cA i d df w0 x w) (p4 : dkdA_val gR oR m cR gB oB n cA i d 4 (x.tmps.getD 27 undef) w) : Stp Fc nC Tryz.prog dkd7_ops Q 10 33 (dkdA_val gR oR m cR gB oB n cA i d 10) x w := by
 (obtain ⟨hF, hk, x0, x1, x2, x3, y0, y1, y2, y3, hB, hdef, u1, u5, u6⟩ := H; have ho : dkd7_ops[10]? = some dkd7_o10 := rfl; simp only [Array.getD_eq_getD_getElem?] at u1 u5 u6)
 have q4 : Array.getD (Act.tmps x) 27 undef = .bool true := p4
 simp only [Array.getD_eq_getD_getElem?] at q4
 (have e4 : (dkd7_ops[4]?.bind fun x => x.dst) = some 27 := rfl; have g4 := get_someT q4 (fun h => by cases h))
 (refine wpOpIn_stepT hF ho (fun K hK => ?_); clear ho; rw [Oper.semAt_plain Fc _ _ (by intro c h; cases h)]; simp only [dkd7_o10]; go_simp)
 exact hK _ _ ⟨_, act_putD x hdef _ _, rfl, Below.refl _ _⟩
theorem dkdA_s11 (H : dkdA_H Fc gR oR m cR gB oB n cA i d df w0 x w) (p9 : dkdA_val gR oR m cR gB oB n cA i d 9 (x.tmps.getD 32 undef) w) (p10 : dkdA_val gR oR m cR gB oB n cA i d 10 (x.tmps.getD 33 undef) w) (p4 : dkdA_val gR oR m cR gB oB n cA i d 4 (x.tmps.getD 27 undef) w) : Stp Fc nC Tryz.prog dkd7_ops Q 11 34 (dkdA_val gR oR m cR gB oB n cA i d 11) x w := by
 (obtain ⟨hF, hk, x0, x1, x2, x3, y0, y1, y2, y3, hB, hdef, u1, u5, u6⟩ := H; have ho : dkd7_ops[11]? = some dkd7_o11 := rfl; simp only [Array.getD_eq_getD_getElem?] at u1 u5 u6)
 have q9 : Array.getD (Act.tmps x) 32 undef = .slice (some ⟨gB, oB, none⟩) n cA := p9
 have q10 : Array.getD (Act.tmps x) 33 undef = .int .i64 (i : Nat) := p10
 have q4 : Array.getD (Act.tmps x) 27 undef = .bool true := p4
 simp only [Array.getD_eq_getD_getElem?] at q9 q10 q4
 (have e4 : (dkd7_ops[4]?.bind fun x => x.dst) = some 27 := rfl; have g4 := get_someT q4 (fun h => by cases h))
 have r0 : (0 : Int) ≤ (i : Int) := by have := hk.out; omega
 have r1 : (i : Int) < (n : Int) := by have := hk.out; omega
 (refine wpOpIn_stepT hF ho (fun K hK => ?_); clear ho; rw [Oper.semAt_plain Fc _ _ (by intro c h; cases h)]; simp only [dkd7_o11]; go_simp)
 exact hK _ _ ⟨_, act_putD x hdef _ _, rfl, Below.refl _ _⟩
theorem dkdA_s12 (H : dkdA_H Fc gR oR m cR gB oB n cA i d df w0 x w) (p11 : dkdA_val gR oR m cR gB oB n cA i d 11 (x.tmps.getD 34 undef) w) (p4 : dkdA_val gR oR m cR gB oB n cA i d 4 (x.tmps.getD 27 undef) w) : Stp Fc nC Tryz.prog dkd7_ops Q 12 35 (dkdA_val gR oR m cR gB oB n cA i d 12) x w := by
 (obtain ⟨hF, hk, x0, x1, x2, x3, y0, y1, y2, y3, hB, hdef, u1, u5, u6⟩ := H; have ho : dkd7_ops[12]? = some dkd7_o12 := rfl; simp only [Array.getD_eq_getD_getElem?] at u1 u5 u6)
 have q11 : Array.getD (Act.tmps x) 34 undef = .pointer (some ⟨gB, oB + i * 4, none⟩) := p11
 have q4 : Array.getD (Act.tmps x) 27 undef = .bool true := p4
 simp only [Array.getD_eq_getD_getElem?] at q11 q4
 (have e4 : (dkd7_ops[4]?.bind fun x => x.dst) = some 27 := rfl; have g4 := get_someT q4 (fun h => by cases h))
 have m0 := cell_thru y0 hB
 have m1 := cell_thru y1 hB
 have m2 := cell_thru y2 hB
 have m3 := cell_thru y3 hB
 unfold by8 at *
 (refine wpOpIn_stepT hF ho (fun K hK => ?_); clear ho; rw [Oper.semAt_plain Fc _ _ (by intro c h; cases h)]; simp only [dkd7_o12]; go_simp)
 exact hK _ _ ⟨_, act_putD x hdef _ _, rfl, Below.refl _ _⟩
theorem dkdA_s13 (H : dkdA_H Fc gR oR m cR gB oB n cA i d df w0 x w) (p8 : dkdA_val gR oR m cR gB oB n cA i d 8 (x.tmps.getD 31 undef) w) (p12 : dkdA_val gR oR m cR gB oB n cA i d 12 (x.tmps.getD 35 undef) w) (p4 : dkdA_val gR oR m cR gB oB n cA i d 4 (x.tmps.getD 27 undef) w) : Stp Fc nC Tryz.prog dkd7_ops Q 13 36 (dkdA_val gR oR m cR gB oB n cA i d 13) x w := by
 (obtain ⟨hF, hk, x0, x1, x2, x3, y0, y1, y2, y3, hB, hdef, u1, u5, u6⟩ := H; have ho : dkd7_ops[13]? = some dkd7_o13 := rfl; simp only [Array.getD_eq_getD_getElem?] at u1 u5 u6)
 have q8 : Array.getD (Act.tmps x) 31 undef = .agg #[by8 d.P, by8 d.L, .int .u32 (d.S : Nat), .int .i64 d.Z] := p8
 have q12 : Array.getD (Act.tmps x) 35 undef = .agg #[by8 d.P, by8 d.L, .int .u32 (d.S : Nat), .int .i64 d.Z] := p12
 have q4 : Array.getD (Act.tmps x) 27 undef = .bool true := p4
 simp only [Array.getD_eq_getD_getElem?] at q8 q12 q4
 (have e4 : (dkd7_ops[4]?.bind fun x => x.dst) = some 27 := rfl; have g4 := get_someT q4 (fun h => by cases h))
 unfold by8 at q8 q12
 have mP : (d.P == d.P) = true := beq_self_eq_true _
 have mL : (d.L == d.L) = true := beq_self_eq_true _
 (refine wpOpIn_stepT hF ho (fun K hK => ?_); clear ho; rw [Oper.semAt_plain Fc _ _ (by intro c h; cases h)]; simp only [dkd7_o13]; go_simp)
 exact hK _ _ ⟨_, act_putD x hdef _ _, rfl, Below.refl _ _⟩
theorem dkdA_s14 (H : dkdA_H Fc gR oR m cR gB oB n cA i d df w0 x w) (p13 : dkdA_val gR oR m cR gB oB n cA i d 13 (x.tmps.getD 36 undef) w) (p4 : dkdA_val gR oR m cR gB oB n cA i d 4 (x.tmps.getD 27 undef) w) : Stp Fc nC Tryz.prog dkd7_ops Q 14 37 (dkdA_val gR oR m cR gB oB n cA i d 14) x w := by
 (obtain ⟨hF, hk, x0, x1, x2, x3, y0, y1, y2, y3, hB, hdef, u1, u5, u6⟩ := H; have ho : dkd7_ops[14]? = some dkd7_o14 := rfl; simp only [Array.getD_eq_getD_getElem?] at u1 u5 u6)
 have q13 : Array.getD (Act.tmps x) 36 undef = .bool true := p13
 have q4 : Array.getD (Act.tmps x) 27 undef = .bool true := p4
 simp only [Array.getD_eq_getD_getElem?] at q13 q4
 (have e4 : (dkd7_ops[4]?.bind fun x => x.dst) = some 27 := rfl; have g4 := get_someT q4 (fun h => by cases h))
 (refine wpOpIn_stepT hF ho (fun K hK => ?_); clear ho; rw [Oper.semAt_plain Fc _ _ (by intro c h; cases h)]; simp only [dkd7_o14]; go_simp)
 exact hK _ _ ⟨_, act_putD x hdef _ _, rfl, Below.refl _ _⟩
theorem dkdA_s15 (H : dkdA_H Fc gR oR m cR gB oB n cA i d df w0 x w) (p4 : dkdA_val gR oR m cR gB oB n cA i d 4 (x.tmps.getD 27 undef) w) (p14 : dkdA_val gR oR m cR gB oB n cA i d 14 (x.tmps.getD 37 undef) w) : Stp Fc nC Tryz.prog dkd7_ops Q 15 38 (dkdA_val gR oR m cR gB oB n cA i d 15) x w := by
 (obtain ⟨hF, hk, x0, x1, x2, x3, y0, y1, y2, y3, hB, hdef, u1, u5, u6⟩ := H; have ho : dkd7_ops[15]? = some dkd7_o15 := rfl; simp only [Array.getD_eq_getD_getElem?] at u1 u5 u6)
 have q4 : Array.getD (Act.tmps x) 27 undef = .bool true := p4
 have q14 : Array.getD (Act.tmps x) 37 undef = .bool false := p14
 simp only [Array.getD_eq_getD_getElem?] at q4 q14
 (refine wpOpIn_plain ho rfl (oper_inK hF.fn (fun K hK => ?_)); clear ho; rw [Oper.semAt_plain Fc _ _ (by intro c h; cases h)]; simp only [dkd7_o15]; go_simp)
 exact hK _ _ ⟨_, act_putD x hdef _ _, rfl, Below.refl _ _⟩
theorem dkdA_s16 (H : dkdA_H Fc gR oR m cR gB oB n cA i d df w0 x w) (p15 : dkdA_val gR oR m cR gB oB n cA i d 15 (x.tmps.getD 38 undef) w) : Stp Fc nC Tryz.prog dkd7_ops Q 16 39 (dkdA_val gR oR m cR gB oB n cA i d 16) x w := by
 (obtain ⟨hF, hk, x0, x1, x2, x3, y0, y1, y2, y3, hB, hdef, u1, u5, u6⟩ := H; have ho : dkd7_ops[16]? = some dkd7_o16 := rfl; simp only [Array.getD_eq_getD_getElem?] at u1 u5 u6)
 have q15 : Array.getD (Act.tmps x) 38 undef = .bool false := p15
 simp only [Array.getD_eq_getD_getElem?] at q15
 (refine wpOpIn_plain ho rfl (oper_inK hF.fn (fun K hK => ?_)); clear ho; rw [Oper.semAt_plain Fc _ _ (by intro c h; cases h)]; simp only [dkd7_o16]; go_simp)
 exact hK _ _ ⟨_, act_putD x hdef _ _, rfl, Below.refl _ _⟩
theorem dkdA_s17 (H : dkdA_H Fc gR oR m cR gB oB n cA i d df w0 x w) (p16 : dkdA_val gR oR m cR gB oB n cA i d 16 (x.tmps.getD 39 undef) w) : Stp Fc nC Tryz.prog dkd7_ops Q 17 40 (dkdA_val gR oR m cR gB oB n cA i d 17) x w := by
 (obtain ⟨hF, hk, x0, x1, x2, x3, y0, y1, y2, y3, hB, hdef, u1, u5, u6⟩ := H; have ho : dkd7_ops[17]? = some dkd7_o17 := rfl; simp only [Array.getD_eq_getD_getElem?] at u1 u5 u6)
 have q16 : Array.getD (Act.tmps x) 39 undef = .bool false := p16
 simp only [Array.getD_eq_getD_getElem?] at q16
 (have e16 : (dkd7_ops[16]?.bind fun x => x.dst) = some 39 := rfl; have g16 := get_someT q16 (fun h => by cases h))
 (refine wpOpIn_stepT hF ho (fun K hK => ?_); clear ho; rw [Oper.semAt_plain Fc _ _ (by intro c h; cases h)]; simp only [dkd7_o17]; go_simp)
 exact hK _ _ ⟨_, act_putD x hdef _ _, rfl, Below.refl _ _⟩
theorem dkdA_s18 (H : dkdA_H Fc gR oR m cR gB oB n cA i d df w0 x w) (p16 : dkdA_val gR oR m cR gB oB n cA i d 16 (x.tmps.getD 39 undef) w) : Stp Fc nC Tryz.prog dkd7_ops Q 18 41 (dkdA_val gR oR m cR gB oB n cA i d 18) x w := by
 (obtain ⟨hF, hk, x0, x1, x2, x3, y0, y1, y2, y3, hB, hdef, u1, u5, u6⟩ := H; have ho : dkd7_ops[18]? = some dkd7_o18 := rfl; simp only [Array.getD_eq_getD_getElem?] at u1 u5 u6)
 have q16 : Array.getD (Act.tmps x) 39 undef = .bool false := p16
 simp only [Array.getD_eq_getD_getElem?] at q16
 (have e16 : (dkd7_ops[16]?.bind fun x => x.dst) = some 39 := rfl; have g16 := get_someT q16 (fun h => by cases h))
 (refine wpOpIn_stepT hF ho (fun K hK => ?_); clear ho; rw [Oper.semAt_plain Fc _ _ (by intro c h; cases h)]; simp only [dkd7_o18]; go_simp)
 exact hK _ _ ⟨_, act_putD x hdef _ _, rfl, Below.refl _ _⟩
theorem dkdA_s19 (H : dkdA_H Fc gR oR m cR gB oB n cA i d df w0 x w) (p18 : dkdA_val gR oR m cR gB oB n cA i d 18 (x.tmps.getD 41 undef) w) (p16 : dkdA_val gR oR m cR gB oB n cA i d 16 (x.tmps.getD 39 undef) w) : Stp Fc nC Tryz.prog dkd7_ops Q 19 42 (dkdA_val gR oR m cR gB oB n cA i d 19) x w := by
 (obtain ⟨hF, hk, x0, x1, x2, x3, y0, y1, y2, y3, hB, hdef, u1, u5, u6⟩ := H; have ho : dkd7_ops[19]? = some dkd7_o19 := rfl; simp only [Array.getD_eq_getD_getElem?] at u1 u5 u6)
 have q18 : Array.getD (Act.tmps x) 41 undef = .slice (some ⟨gB, oB, none⟩) n cA := p18
 have q16 : Array.getD (Act.tmps x) 39 undef = .bool false := p16
 simp only [Array.getD_eq_getD_getElem?] at q18 q16
 (have e16 : (dkd7_ops[16]?.bind fun x => x.dst) = some 39 := rfl; have g16 := get_someT q16 (fun h => by cases h))
 (refine wpOpIn_stepT hF ho (fun K hK => ?_); clear ho; rw [Oper.semAt_plain Fc _ _ (by intro c h; cases h)]; simp only [dkd7_o19]; go_simp)
 exact hK _ _ ⟨_, act_putD x hdef _ _, rfl, Below.refl _ _⟩
theorem dkdA_s20 (H : dkdA_H Fc gR oR m cR gB oB n cA i d df w0 x w) (p17 : dkdA_val gR oR m cR gB oB n cA i d 17 (x.tmps.getD 40 undef) w) (p19 : dkdA_val gR oR m cR gB oB n cA i d 19 (x.tmps.getD 42 undef) w) (p16 : dkdA_val gR oR m cR gB oB n cA i d 16 (x.tmps.getD 39 undef) w) : Stp Fc nC Tryz.prog dkd7_ops Q 20 43 (dkdA_val gR oR m cR gB oB n cA i d 20) x w := by
 (obtain ⟨hF, hk, x0, x1, x2, x3, y0, y1, y2, y3, hB, hdef, u1, u5, u6⟩ := H; have ho : dkd7_ops[20]? = some dkd7_o20 := rfl; simp only [Array.getD_eq_getD_getElem?] at u1 u5 u6)
 have q17 : Array.getD (Act.tmps x) 40 undef = .int .i64 (i : Nat) := p17
 have q19 : Array.getD (Act.tmps x) 42 undef = .int .i64 (n : Nat) := p19
 have q16 : Array.getD (Act.tmps x) 39 undef = .bool false := p16
 simp only [Array.getD_eq_getD_getElem?] at q17 q19 q16
 (have e16 : (dkd7_ops[16]?.bind fun x => x.dst) = some 39 := rfl; have g16 := get_someT q16 (fun h => by cases h))
 have r1 : ¬ ((n : Int) ≤ (i : Int)) := by have := hk.out; omega
 (refine wpOpIn_stepT hF ho (fun K hK => ?_); clear ho; rw [Oper.semAt_plain Fc _ _ (by intro c h; cases h)]; simp only [dkd7_o20]; go_simp)
 exact hK _ _ ⟨_, act_putD x hdef _ _, rfl, Below.refl _ _⟩
theorem dkdA_s21 (H : dkdA_H Fc gR oR m cR gB oB n cA i d df w0 x w) (p20 : dkdA_val gR oR m cR gB oB n cA i d 20 (x.tmps.getD 43 undef) w) (p16 : dkdA_val gR oR m cR gB oB n cA i d 16 (x.tmps.getD 39 undef) w) : Stp Fc nC Tryz.prog dkd7_ops Q 21 44 (dkdA_val gR oR m cR gB oB n cA i d 21) x w := by
 (obtain ⟨hF, hk, x0, x1, x2, x3, y0, y1, y2, y3, hB, hdef, u1, u5, u6⟩ := H; have ho : dkd7_ops[21]? = some dkd7_o21 := rfl; simp only [Array.getD_eq_getD_getElem?] at u1 u5 u6)
 have q20 : Array.getD (Act.tmps x) 43 undef = .bool false := p20
 have q16 : Array.getD (Act.tmps x) 39 undef = .bool false := p16
 simp only [Array.getD_eq_getD_getElem?] at q20 q16
 (have e16 : (dkd7_ops[16]?.bind fun x => x.dst) = some 39 := rfl; have g16 := get_someT q16 (fun h => by cases h))
 (refine wpOpIn_stepT hF ho (fun K hK => ?_); clear ho; rw [Oper.semAt_plain Fc _ _ (by intro c h; cases h)]; simp only [dkd7_o21]; go_simp)
 exact hK _ _ ⟨_, act_putD x hdef _ _, rfl, Below.refl _ _⟩
theorem dkdA_s22 (H : dkdA_H Fc gR oR m cR gB oB n cA i d df w0 x w) (p21 : dkdA_val gR oR m cR gB oB n cA i d 21 (x.tmps.getD 44 undef) w) : Stp Fc nC Tryz.prog dkd7_ops Q 22 45 (dkdA_val gR oR m cR gB oB n cA i d 22) x w := by
 (obtain ⟨hF, hk, x0, x1, x2, x3, y0, y1, y2, y3, hB, hdef, u1, u5, u6⟩ := H; have ho : dkd7_ops[22]? = some dkd7_o22 := rfl; simp only [Array.getD_eq_getD_getElem?] at u1 u5 u6)
 have q21 : Array.getD (Act.tmps x) 44 undef = .bool false := p21
 simp only [Array.getD_eq_getD_getElem?] at q21
 (have e21 : (dkd7_ops[21]?.bind fun x => x.dst) = some 44 := rfl; have g21 := get_someT q21 (fun h => by cases h))
 (refine wpOpIn_stepT hF ho (fun K hK => ?_); clear ho; rw [Oper.semAt_plain Fc _ _ (by intro c h; cases h)]; simp only [dkd7_o22]; go_simp)
 exact hK _ _ ⟨_, act_putD x hdef _ _, rfl, Below.refl _ _⟩
theorem dkdA_s23 (H : dkdA_H Fc gR oR m cR gB oB n cA i d df w0 x w) (p21 : dkdA_val gR oR m cR gB oB n cA i d 21 (x.tmps.getD 44 undef) w) : Stp Fc nC Tryz.prog dkd7_ops Q 23 46 (dkdA_val gR oR m cR gB oB n cA i d 23) x w := by
 (obtain ⟨hF, hk, x0, x1, x2, x3, y0, y1, y2, y3, hB, hdef, u1, u5, u6⟩ := H; have ho : dkd7_ops[23]? = some dkd7_o23 := rfl; simp only [Array.getD_eq_getD_getElem?] at u1 u5 u6)
 have q21 : Array.getD (Act.tmps x) 44 undef = .bool false := p21
 simp only [Array.getD_eq_getD_getElem?] at q21
 (have e21 : (dkd7_ops[21]?.bind fun x => x.dst) = some 44 := rfl; have g21 := get_someT q21 (fun h => by cases h))
 (refine wpOpIn_stepT hF ho (fun K hK => ?_); clear ho; rw [Oper.semAt_plain Fc _ _ (by intro c h; cases h)]; simp only [dkd7_o23]; go_simp)
 exact hK _ _ ⟨_, act_putD x hdef _ _, rfl, Below.refl _ _⟩
theorem dkdA_s24 (H : dkdA_H Fc gR oR m cR gB oB n cA i d df w0 x w) (p22 : dkdA_val gR oR m cR gB oB n cA i d 22 (x.tmps.getD 45 undef) w) (p23 : dkdA_val gR oR m cR gB oB n cA i d 23 (x.tmps.getD 46 undef) w) (p21 : dkdA_val gR oR m cR gB oB n cA i d 21 (x.tmps.getD 44 undef) w) : Stp Fc nC Tryz.prog dkd7_ops Q 24 47 (dkdA_val gR oR m cR gB oB n cA i d 24) x w := by
 (obtain ⟨hF, hk, x0, x1, x2, x3, y0, y1, y2, y3, hB, hdef, u1, u5, u6⟩ := H; have ho : dkd7_ops[24]? = some dkd7_o24 := rfl; simp only [Array.getD_eq_getD_getElem?] at u1 u5 u6)
 have q22 : Array.getD (Act.tmps x) 45 undef = undef := p22
 have q23 : Array.getD (Act.tmps x) 46 undef = undef := p23
 have q21 : Array.getD (Act.tmps x) 44 undef = .bool false := p21
 simp only [Array.getD_eq_getD_getElem?] at q22 q23 q21
 (have e21 : (dkd7_ops[21]?.bind fun x => x.dst) = some 44 := rfl; have g21 := get_someT q21 (fun h => by cases h))
 (refine wpOpIn_stepT hF ho (fun K hK => ?_); clear ho; rw [Oper.semAt_plain Fc _ _ (by intro c h; cases h)]; simp only [dkd7_o24]; go_simp)
 exact hK _ _ ⟨_, act_putD x hdef _ _, rfl, Below.refl _ _⟩
theorem dkdA_s25 (H : dkdA_H Fc gR oR m cR gB oB n cA i d df w0 x w) (p24 : dkdA_val gR oR m cR gB oB n cA i d 24 (x.tmps.getD 47 undef) w) (p21 : dkdA_val gR oR m cR gB oB n cA i d 21 (x.tmps.getD 44 undef) w) : Stp Fc nC Tryz.prog dkd7_ops Q 25 48 (dkdA_val gR oR m cR gB oB n cA i d 25) x w := by
 (obtain ⟨hF, hk, x0, x1, x2, x3, y0, y1, y2, y3, hB, hdef, u1, u5, u6⟩ := H; have ho : dkd7_ops[25]? = some dkd7_o25 := rfl; simp only [Array.getD_eq_getD_getElem?] at u1 u5 u6)
 have q24 : Array.getD (Act.tmps x) 47 undef = undef := p24
 have q21 : Array.getD (Act.tmps x) 44 undef = .bool false := p21
 simp only [Array.getD_eq_getD_getElem?] at q24 q21
 (have e21 : (dkd7_ops[21]?.bind fun x => x.dst) = some 44 := rfl; have g21 := get_someT q21 (fun h => by cases h))
 (refine wpOpIn_stepT hF ho (fun K hK => ?_); clear ho; rw [Oper.semAt_plain Fc _ _ (by intro c h; cases h)]; simp only [dkd7_o25]; go_simp)
 exact hK _ _ ⟨_, act_putD x hdef _ _, rfl, Below.refl _ _⟩
theorem dkdA_s26 (H : dkdA_H Fc gR oR m cR gB oB n cA i d df w0 x w) (p21 : dkdA_val gR oR m cR gB oB n cA i d 21 (x.tmps.getD 44 undef) w) : Stp Fc nC Tryz.prog dkd7_ops Q 26 49 (dkdA_val gR oR m cR gB oB n cA i d 26) x w := by
 (obtain ⟨hF, hk, x0, x1, x2, x3, y0, y1, y2, y3, hB, hdef, u1, u5, u6⟩ := H; have ho : dkd7_ops[26]? = some dkd7_o26 := rfl; simp only [Array.getD_eq_getD_getElem?] at u1 u5 u6)
 have q21 : Array.getD (Act.tmps x) 44 undef = .bool false := p21
 simp only [Array.getD_eq_getD_getElem?] at q21
 (have e21 : (dkd7_ops[21]?.bind fun x => x.dst) = some 44 := rfl; have g21 := get_someT q21 (fun h => by cases h))
 (refine wpOpIn_stepT hF ho (fun K hK => ?_); clear ho; rw [Oper.semAt_plain Fc _ _ (by intro c h; cases h)]; simp only [dkd7_o26]; go_simp)
 exact hK _ _ ⟨_, act_putD x hdef _ _, rfl, Below.refl _ _⟩
theorem dkdA_s27 (H : dkdA_H Fc gR oR m cR gB oB n cA i d df w0 x w) (p21 : dkdA_val gR oR m cR gB oB n cA i d 21 (x.tmps.getD 44 undef) w) : Stp Fc nC Tryz.prog dkd7_ops Q 27 50 (dkdA_val gR oR m cR gB oB n cA i d 27) x w := by
 (obtain ⟨hF, hk, x0, x1, x2, x3, y0, y1, y2, y3, hB, hdef, u1, u5, u6⟩ := H; have ho : dkd7_ops[27]? = some dkd7_o27 := rfl; simp only [Array.getD_eq_getD_getElem?] at u1 u5 u6)
 have q21 : Array.getD (Act.tmps x) 44 undef = .bool false := p21
 simp only [Array.getD_eq_getD_getElem?] at q21
 (have e21 : (dkd7_ops[21]?.bind fun x => x.dst) = some 44 := rfl; have g21 := get_someT q21 (fun h => by cases h))
 (refine wpOpIn_stepT hF ho (fun K hK => ?_); clear ho; rw [Oper.semAt_plain Fc _ _ (by intro c h; cases h)]; simp only [dkd7_o27]; go_simp)
 exact hK _ _ ⟨_, act_putD x hdef _ _, rfl, Below.refl _ _⟩
theorem dkdA_s28 (H : dkdA_H Fc gR oR m cR gB oB n cA i d df w0 x w) (p27 : dkdA_val gR oR m cR gB oB n cA i d 27 (x.tmps.getD 50 undef) w) (p21 : dkdA_val gR oR m cR gB oB n cA i d 21 (x.tmps.getD 44 undef) w) : Stp Fc nC Tryz.prog dkd7_ops Q 28 51 (dkdA_val gR oR m cR gB oB n cA i d 28) x w := by
 (obtain ⟨hF, hk, x0, x1, x2, x3, y0, y1, y2, y3, hB, hdef, u1, u5, u6⟩ := H; have ho : dkd7_ops[28]? = some dkd7_o28 := rfl; simp only [Array.getD_eq_getD_getElem?] at u1 u5 u6)
 have q27 : Array.getD (Act.tmps x) 50 undef = undef := p27
 have q21 : Array.getD (Act.tmps x) 44 undef = .bool false := p21
 simp only [Array.getD_eq_getD_getElem?] at q27 q21
 (have e21 : (dkd7_ops[21]?.bind fun x => x.dst) = some 44 := rfl; have g21 := get_someT q21 (fun h => by cases h))
 (refine wpOpIn_stepT hF ho (fun K hK => ?_); clear ho; rw [Oper.semAt_plain Fc _ _ (by intro c h; cases h)]; simp only [dkd7_o28]; go_simp)
 exact hK _ _ ⟨_, act_putD x hdef _ _, rfl, Below.refl _ _⟩
theorem dkdA_s29 (H : dkdA_H Fc gR oR m cR gB oB n cA i d df w0 x w) (p26 : dkdA_val gR oR m cR gB oB n cA i d 26 (x.tmps.getD 49 undef) w) (p28 : dkdA_val gR oR m cR gB oB n cA i d 28 (x.tmps.getD 51 undef) w) (p21 : dkdA_val gR oR m cR gB oB n cA i d 21 (x.tmps.getD 44 undef) w) : Stp Fc nC Tryz.prog dkd7_ops Q 29 52 (dkdA_val gR oR m cR gB oB n cA i d 29) x w := by
 (obtain ⟨hF, hk, x0, x1, x2, x3, y0, y1, y2, y3, hB, hdef, u1, u5, u6⟩ := H; have ho : dkd7_ops[29]? = some dkd7_o29 := rfl; simp only [Array.getD_eq_getD_getElem?] at u1 u5 u6)
 have q26 : Array.getD (Act.tmps x) 49 undef = undef := p26
 have q28 : Array.getD (Act.tmps x) 51 undef = undef := p28
 have q21 : Array.getD (Act.tmps x) 44 undef = .bool false := p21
 simp only [Array.getD_eq_getD_getElem?] at q26 q28 q21
 (have e21 : (dkd7_ops[21]?.bind fun x => x.dst) = some 44 := rfl; have g21 := get_someT q21 (fun h => by cases h))
 (refine wpOpIn_stepT hF ho (fun K hK => ?_); clear ho; rw [Oper.semAt_plain Fc _ _ (by intro c h; cases h)]; simp only [dkd7_o29]; go_simp)
 exact hK _ _ ⟨_, act_putD x hdef _ _, rfl, Below.refl _ _⟩
theorem dkdA_s30 (H : dkdA_H Fc gR oR m cR gB oB n cA i d df w0 x w) (p29 : dkdA_val gR oR m cR gB oB n cA i d 29 (x.tmps.getD 52 undef) w) (p21 : dkdA_val gR oR m cR gB oB n cA i d 21 (x.tmps.getD 44 undef) w) : Stp Fc nC Tryz.prog dkd7_ops Q 30 53 (dkdA_val gR oR m cR gB oB n cA i d 30) x w := by
 (obtain ⟨hF, hk, x0, x1, x2, x3, y0, y1, y2, y3, hB, hdef, u1, u5, u6⟩ := H; have ho : dkd7_ops[30]? = some dkd7_o30 := rfl; simp only [Array.getD_eq_getD_getElem?] at u1 u5 u6)
 have q29 : Array.getD (Act.tmps x) 52 undef = undef := p29
 have q21 : Array.getD (Act.tmps x) 44 undef = .bool false := p21
 simp only [Array.getD_eq_getD_getElem?] at q29 q21
 (have e21 : (dkd7_ops[21]?.bind fun x => x.dst) = some 44 := rfl; have g21 := get_someT q21 (fun h => by cases h))
 (refine wpOpIn_stepT hF ho (fun K hK => ?_); clear ho; rw [Oper.semAt_plain Fc _ _ (by intro c h; cases h)]; simp only [dkd7_o30]; go_simp)
 exact hK _ _ ⟨_, act_putD x hdef _ _, rfl, Below.refl _ _⟩
theorem dkdA_s31 (H : dkdA_H Fc gR oR m cR gB oB n cA i d df w0 x w) (p25 : dkdA_val gR oR m cR gB oB n cA i d 25 (x.tmps.getD 48 undef) w) (p30 : dkdA_val gR oR m cR gB oB n cA i d 30 (x.tmps.getD 53 undef) w) (p21 : dkdA_val gR oR m cR gB oB n cA i d 21 (x.tmps.getD 44 undef) w) : Stp Fc nC Tryz.prog dkd7_ops Q 31 54 (dkdA_val gR oR m cR gB oB n cA i d 31) x w := by
 (obtain ⟨hF, hk, x0, x1, x2, x3, y0, y1, y2, y3, hB, hdef, u1, u5, u6⟩ := H; have ho : dkd7_ops[31]? = some dkd7_o31 := rfl; simp only [Array.getD_eq_getD_getElem?] at u1 u5 u6)
 have q25 : Array.getD (Act.tmps x) 48 undef = undef := p25
 have q30 : Array.getD (Act.tmps x) 53 undef = undef := p30
 have q21 : Array.getD (Act.tmps x) 44 undef = .bool false := p21
 simp only [Array.getD_eq_getD_getElem?] at q25 q30 q21
 (have e21 : (dkd7_ops[21]?.bind fun x => x.dst) = some 44 := rfl; have g21 := get_someT q21 (fun h => by cases h))
 (refine wpOpIn_stepT hF ho (fun K hK => ?_); clear ho; rw [Oper.semAt_plain Fc _ _ (by intro c h; cases h)]; simp only [dkd7_o31]; go_simp)
 exact hK _ _ ⟨_, act_putD x hdef _ _, rfl, Below.refl _ _⟩
theorem dkdA_s32 (H : dkdA_H Fc gR oR m cR gB oB n cA i d df w0 x w) (p31 : dkdA_val gR oR m cR gB oB n cA i d 31 (x.tmps.getD 54 undef) w) (p21 : dkdA_val gR oR m cR gB oB n cA i d 21 (x.tmps.getD 44 undef) w) : Stp Fc nC Tryz.prog dkd7_ops Q 32 55 (dkdA_val gR oR m cR gB oB n cA i d 32) x w := by
 (obtain ⟨hF, hk, x0, x1, x2, x3, y0, y1, y2, y3, hB, hdef, u1, u5, u6⟩ := H; have ho : dkd7_ops[32]? = some dkd7_o32 := rfl; simp only [Array.getD_eq_getD_getElem?] at u1 u5 u6)
 have q31 : Array.getD (Act.tmps x) 54 undef = undef := p31
 have q21 : Array.getD (Act.tmps x) 44 undef = .bool false := p21
 simp only [Array.getD_eq_getD_getElem?] at q31 q21
 (have e21 : (dkd7_ops[21]?.bind fun x => x.dst) = some 44 := rfl; have g21 := get_someT q21 (fun h => by cases h))
 (refine wpOpIn_stepT hF ho (fun K hK => ?_); clear ho; rw [Oper.semAt_plain Fc _ _ (by intro c h; cases h)]; simp only [dkd7_o32]; go_simp)
 exact hK _ _ ⟨_, act_putD x hdef _ _, rfl, Below.refl _ _⟩
theorem dkdA_s33 (H : dkdA_H Fc gR oR m cR gB oB n cA i d df w0 x w) (p21 : dkdA_val gR oR m cR gB oB n cA i d 21 (x.tmps.getD 44 undef) w) (p32 : dkdA_val gR oR m cR gB oB n cA i d 32 (x.tmps.getD 55 undef) w) (p16 : dkdA_val gR oR m cR gB oB n cA i d 16 (x.tmps.getD 39 undef) w) : Stp Fc nC Tryz.prog dkd7_ops Q 33 56 (dkdA_val gR oR m cR gB oB n cA i d 33) x w := by
 (obtain ⟨hF, hk, x0, x1, x2, x3, y0, y1, y2, y3, hB, hdef, u1, u5, u6⟩ := H; have ho : dkd7_ops[33]? = some dkd7_o33 := rfl; simp only [Array.getD_eq_getD_getElem?] at u1 u5 u6)
 have q21 : Array.getD (Act.tmps x) 44 undef = .bool false := p21
 have q32 : Array.getD (Act.tmps x) 55 undef = undef := p32
 have q16 : Array.getD (Act.tmps x) 39 undef = .bool false := p16
 simp only [Array.getD_eq_getD_getElem?] at q21 q32 q16
 (have e16 : (dkd7_ops[16]?.bind fun x => x.dst) = some 39 := rfl; have g16 := get_someT q16 (fun h => by cases h))
 (refine wpOpIn_stepT hF ho (fun K hK => ?_); clear ho; rw [Oper.semAt_plain Fc _ _ (by intro c h; cases h)]; simp only [dkd7_o33]; go_simp)
 exact hK _ _ ⟨_, act_putD x hdef _ _, rfl, Below.refl _ _⟩
theorem dkdA_s34 (H : dkdA_H Fc gR oR m cR gB oB n cA i d df w0 x w) (p16 : dkdA_val gR oR m cR gB oB n cA i d 16 (x.tmps.getD 39 undef) w) (p33 : dkdA_val gR oR m cR gB oB n cA i d 33 (x.tmps.getD 56 undef) w) : Stp Fc nC Tryz.prog dkd7_ops Q 34 57 (dkdA_val gR oR m cR gB oB n cA i d 34) x w := by
 (obtain ⟨hF, hk, x0, x1, x2, x3, y0, y1, y2, y3, hB, hdef, u1, u5, u6⟩ := H; have ho : dkd7_ops[34]? = some dkd7_o34 := rfl; simp only [Array.getD_eq_getD_getElem?] at u1 u5 u6)
 have q16 : Array.getD (Act.tmps x) 39 undef = .bool false := p16
 have q33 : Array.getD (Act.tmps x) 56 undef = .bool false := p33
 simp only [Array.getD_eq_getD_getElem?] at q16 q33
 (refine wpOpIn_plain ho rfl (oper_inK hF.fn (fun K hK => ?_)); clear ho; rw [Oper.semAt_plain Fc _ _ (by intro c h; cases h)]; simp only [dkd7_o34]; go_simp)
 exact hK _ _ ⟨_, act_putD x hdef _ _, rfl, Below.refl _ _⟩
end
section
theorem dkdA {Fc : Fence} (hF : Wide Fc) {nC : Nat} (gR oR m cR gB oB n cA i : Nat) (d : DT) (Q : Exit → Act → World → Prop) (t0 : Array Value) (df : List Deferred) (w0 : World) (ht : t0.size = 58)
  (hs1 : t0.getD 1 undef = .slice (some ⟨gB, oB, none⟩) n cA) (hs5 : t0.getD 5 undef = .slice (some ⟨gR, oR, none⟩) m cR) (hs6 : t0.getD 6 undef = .int .i64 (i : Nat))
  (hk : Hid (i < n ∧ i < m ∧ m ≤ 20000)) (x0 : w0.cell? ⟨gR, oR + i * 4, none⟩ = some (by8 d.P)) (x1 : w0.cell? ⟨gR, oR + i * 4 + 1, none⟩ = some (by8 d.L)) (x2 : w0.cell? ⟨gR, oR + i * 4 + 2, none⟩ = some (.int .u32 (d.S : Nat))) (x3 : w0.cell? ⟨gR, oR + i * 4 + 3, none⟩ = some (.int .i64 d.Z)) (y0 : w0.cell? ⟨gB, oB + i * 4, none⟩ = some (by8 d.P)) (y1 : w0.cell? ⟨gB, oB + i * 4 + 1, none⟩ = some (by8 d.L)) (y2 : w0.cell? ⟨gB, oB + i * 4 + 2, none⟩ = some (.int .u32 (d.S : Nat))) (y3 : w0.cell? ⟨gB, oB + i * 4 + 3, none⟩ = some (.int .i64 d.Z))
  (hQ : ∀ (vs : Nat → Value) (w : World), Below w0.heap.size w0 w → (vs 57 = .bool false) → Q .normal { tmps := [23, 24, 25, 26, 27, 28, 29, 30, 31, 32, 33, 34, 35, 36, 37, 38, 39, 40, 41, 42, 43, 44, 45, 46, 47, 48, 49, 50, 51, 52, 53, 54, 55, 56, 57].foldl (fun y d => y.setIfInBounds d (vs d)) t0, defers := df } w) :
  (Code.region 7 dkd7_ops true).wpIn Fc nC Tryz.prog Q { tmps := t0, defers := df } w0 := by
 refine wpIn_region_tail 35 (by decide) (by kernel_rfl) (fun a b => Below a.heap.size a b) (dkdA_val gR oR m cR gB oB n cA i d) t0 df w0 (by rw [ht]; kernel_rfl) (by kernel_rfl) (by kernel_rfl) (by kernel_rfl) ((Below.refl _ _).drew) (fun _ _ _ h k => h.trans (k.mono h.size)) (dkdA_below gR oR m cR gB oB n cA i d) ?_ ?_
 ·intro j o ho hj x w hB hdef hsz hs hdeps
  have hs' : ∀ s, ¬ dkd7_mem s → x.tmps.getD s undef = t0.getD s undef := fun s hn => hs s (fun j hj e => hn (by rw [e]; exact dkd7_slots j hj))
  have u1 := (hs' 1 (by decide)).trans hs1
  have u5 := (hs' 5 (by decide)).trans hs5
  have u6 := (hs' 6 (by decide)).trans hs6
  have H : dkdA_H Fc gR oR m cR gB oB n cA i d df w0 x w := ⟨hF, hk, x0, x1, x2, x3, y0, y1, y2, y3, hB, hdef, u1, u5, u6⟩
  match j, ho, hj with
  | 0, ho, _ =>
    (have e : o = dkd7_o0 := (Option.some.inj ho).symm; subst e)
    exact dkdA_s0 H 
  | 1, ho, _ =>
    (have e : o = dkd7_o1 := (Option.some.inj ho).symm; subst e)
    exact dkdA_s1 H 
  | 2, ho, _ =>
    (have e : o = dkd7_o2 := (Option.some.inj ho).symm; subst e)
    exact dkdA_s2 H (hdeps ⟨1, .data⟩ (by simp) rfl)
  | 3, ho, _ =>
    (have e : o = dkd7_o3 := (Option.some.inj ho).symm; subst e)
    exact dkdA_s3 H (hdeps ⟨0, .data⟩ (by simp) rfl) (hdeps ⟨2, .data⟩ (by simp) rfl)
  | 4, ho, _ =>
    (have e : o = dkd7_o4 := (Option.some.inj ho).symm; subst e)
    exact dkdA_s4 H (hdeps ⟨3, .data⟩ (by simp) rfl)
  | 5, ho, _ =>
    (have e : o = dkd7_o5 := (Option.some.inj ho).symm; subst e)
    exact dkdA_s5 H (hdeps ⟨4, .guard⟩ (by simp) rfl)
  | 6, ho, _ =>
    (have e : o = dkd7_o6 := (Option.some.inj ho).symm; subst e)
    exact dkdA_s6 H (hdeps ⟨4, .guard⟩ (by simp) rfl)
  | 7, ho, _ =>
    (have e : o = dkd7_o7 := (Option.some.inj ho).symm; subst e)
    exact dkdA_s7 H (hdeps ⟨5, .data⟩ (by simp) rfl) (hdeps ⟨6, .data⟩ (by simp) rfl) (hdeps ⟨4, .guard⟩ (by simp) rfl)
  | 8, ho, _ =>
    (have e : o = dkd7_o8 := (Option.some.inj ho).symm; subst e)
    exact dkdA_s8 H (hdeps ⟨7, .data⟩ (by simp) rfl) (hdeps ⟨4, .guard⟩ (by simp) rfl)
  | 9, ho, _ =>
    (have e : o = dkd7_o9 := (Option.some.inj ho).symm; subst e)
    exact dkdA_s9 H (hdeps ⟨4, .guard⟩ (by simp) rfl)
  | 10, ho, _ =>
    (have e : o = dkd7_o10 := (Option.some.inj ho).symm; subst e)
    exact dkdA_s10 H (hdeps ⟨4, .guard⟩ (by simp) rfl)
  | 11, ho, _ =>
    (have e : o = dkd7_o11 := (Option.some.inj ho).symm; subst e)
    exact dkdA_s11 H (hdeps ⟨9, .data⟩ (by simp) rfl) (hdeps ⟨10, .data⟩ (by simp) rfl) (hdeps ⟨4, .guard⟩ (by simp) rfl)
  | 12, ho, _ =>
    (have e : o = dkd7_o12 := (Option.some.inj ho).symm; subst e)
    exact dkdA_s12 H (hdeps ⟨11, .data⟩ (by simp) rfl) (hdeps ⟨4, .guard⟩ (by simp) rfl)
  | 13, ho, _ =>
    (have e : o = dkd7_o13 := (Option.some.inj ho).symm; subst e)
    exact dkdA_s13 H (hdeps ⟨8, .data⟩ (by simp) rfl) (hdeps ⟨12, .data⟩ (by simp) rfl) (hdeps ⟨4, .guard⟩ (by simp) rfl)
  | 14, ho, _ =>
    (have e : o = dkd7_o14 := (Option.some.inj ho).symm; subst e)
    exact dkdA_s14 H (hdeps ⟨13, .data⟩ (by simp) rfl) (hdeps ⟨4, .guard⟩ (by simp) rfl)
  | 15, ho, _ =>
    (have e : o = dkd7_o15 := (Option.some.inj ho).symm; subst e)
    exact dkdA_s15 H (hdeps ⟨4, .data⟩ (by simp) rfl) (hdeps ⟨14, .data⟩ (by simp) rfl)
  | 16, ho, _ =>
    (have e : o = dkd7_o16 := (Option.some.inj ho).symm; subst e)
    exact dkdA_s16 H (hdeps ⟨15, .data⟩ (by simp) rfl)
  | 17, ho, _ =>
    (have e : o = dkd7_o17 := (Option.some.inj ho).symm; subst e)
    exact dkdA_s17 H (hdeps ⟨16, .guard⟩ (by simp) rfl)
  | 18, ho, _ =>
    (have e : o = dkd7_o18 := (Option.some.inj ho).symm; subst e)
    exact dkdA_s18 H (hdeps ⟨16, .guard⟩ (by simp) rfl)
  | 19, ho, _ =>
    (have e : o = dkd7_o19 := (Option.some.inj ho).symm; subst e)
    exact dkdA_s19 H (hdeps ⟨18, .data⟩ (by simp) rfl) (hdeps ⟨16, .guard⟩ (by simp) rfl)
  | 20, ho, _ =>
    (have e : o = dkd7_o20 := (Option.some.inj ho).symm; subst e)
    exact dkdA_s20 H (hdeps ⟨17, .data⟩ (by simp) rfl) (hdeps ⟨19, .data⟩ (by simp) rfl) (hdeps ⟨16, .guard⟩ (by simp) rfl)
  | 21, ho, _ =>
    (have e : o = dkd7_o21 := (Option.some.inj ho).symm; subst e)
    exact dkdA_s21 H (hdeps ⟨20, .data⟩ (by simp) rfl) (hdeps ⟨16, .guard⟩ (by simp) rfl)
  | 22, ho, _ =>
    (have e : o = dkd7_o22 := (Option.some.inj ho).symm; subst e)
    exact dkdA_s22 H (hdeps ⟨21, .guard⟩ (by simp) rfl)
  | 23, ho, _ =>
    (have e : o = dkd7_o23 := (Option.some.inj ho).symm; subst e)
    exact dkdA_s23 H (hdeps ⟨21, .guard⟩ (by simp) rfl)
  | 24, ho, _ =>
    (have e : o = dkd7_o24 := (Option.some.inj ho).symm; subst e)
    exact dkdA_s24 H (hdeps ⟨22, .data⟩ (by simp) rfl) (hdeps ⟨23, .data⟩ (by simp) rfl) (hdeps ⟨21, .guard⟩ (by simp) rfl)
  | 25, ho, _ =>
    (have e : o = dkd7_o25 := (Option.some.inj ho).symm; subst e)
    exact dkdA_s25 H (hdeps ⟨24, .data⟩ (by simp) rfl) (hdeps ⟨21, .guard⟩ (by simp) rfl)
  | 26, ho, _ =>
    (have e : o = dkd7_o26 := (Option.some.inj ho).symm; subst e)
    exact dkdA_s26 H (hdeps ⟨21, .guard⟩ (by simp) rfl)
  | 27, ho, _ =>
    (have e : o = dkd7_o27 := (Option.some.inj ho).symm; subst e)
    exact dkdA_s27 H (hdeps ⟨21, .guard⟩ (by simp) rfl)
  | 28, ho, _ =>
    (have e : o = dkd7_o28 := (Option.some.inj ho).symm; subst e)
    exact dkdA_s28 H (hdeps ⟨27, .data⟩ (by simp) rfl) (hdeps ⟨21, .guard⟩ (by simp) rfl)
  | 29, ho, _ =>
    (have e : o = dkd7_o29 := (Option.some.inj ho).symm; subst e)
    exact dkdA_s29 H (hdeps ⟨26, .data⟩ (by simp) rfl) (hdeps ⟨28, .data⟩ (by simp) rfl) (hdeps ⟨21, .guard⟩ (by simp) rfl)
  | 30, ho, _ =>
    (have e : o = dkd7_o30 := (Option.some.inj ho).symm; subst e)
    exact dkdA_s30 H (hdeps ⟨29, .data⟩ (by simp) rfl) (hdeps ⟨21, .guard⟩ (by simp) rfl)
  | 31, ho, _ =>
    (have e : o = dkd7_o31 := (Option.some.inj ho).symm; subst e)
    exact dkdA_s31 H (hdeps ⟨25, .data⟩ (by simp) rfl) (hdeps ⟨30, .data⟩ (by simp) rfl) (hdeps ⟨21, .guard⟩ (by simp) rfl)
  | 32, ho, _ =>
    (have e : o = dkd7_o32 := (Option.some.inj ho).symm; subst e)
    exact dkdA_s32 H (hdeps ⟨31, .data⟩ (by simp) rfl) (hdeps ⟨21, .guard⟩ (by simp) rfl)
  | 33, ho, _ =>
    (have e : o = dkd7_o33 := (Option.some.inj ho).symm; subst e)
    exact dkdA_s33 H (hdeps ⟨21, .data⟩ (by simp) rfl) (hdeps ⟨32, .data⟩ (by simp) rfl) (hdeps ⟨16, .guard⟩ (by simp) rfl)
  | 34, ho, _ =>
    (have e : o = dkd7_o34 := (Option.some.inj ho).symm; subst e)
    exact dkdA_s34 H (hdeps ⟨16, .data⟩ (by simp) rfl) (hdeps ⟨33, .data⟩ (by simp) rfl)
  | k + 35, _, hj => omega
 ·intro x w hB hdef hsz hs hv
  have hx := frame_sets x.tmps t0 hsz [23, 24, 25, 26, 27, 28, 29, 30, 31, 32, 33, 34, 35, 36, 37, 38, 39, 40, 41, 42, 43, 44, 45, 46, 47, 48, 49, 50, 51, 52, 53, 54, 55, 56, 57] (fun s hn => hs s (fun j hj e => hn (by rw [e]; exact dkd7_slots j hj)))
  have hq := hQ (fun d => x.tmps.getD d undef) w hB (hv 34 (by decide))
  obtain ⟨T, Df⟩ := x
  dsimp only at hx hdef hq
  subst hdef
  rw [← hx] at hq
  exact hq
end
def dkdB_val (gR oR m cR n cA i jm z : Nat) (aB : Option Addr) : Nat → Value → World → Prop
 | 0, v, w => v = .int .i64 (i : Nat)
 | 1, v, w => v = .slice aB n cA
 | 2, v, w => v = .int .i64 (n : Nat)
 | 3, v, w => v = .bool false
 | 4, v, w => v = .bool false
 | 5, v, w | 6, v, w | 7, v, w | 8, v, w | 9, v, w | 10, v, w | 11, v, w | 12, v, w | 13, v, w | 14, v, w => v = undef
 | 15, v, w => v = .bool false
 | 16, v, w => v = .bool false
 | 17, v, w => v = .int .i64 (i : Nat)
 | 18, v, w => v = .slice aB n cA
 | 19, v, w => v = .int .i64 (n : Nat)
 | 20, v, w => v = .bool true
 | 21, v, w => v = .bool true
 | 22, v, w => v = .slice (some ⟨gR, oR, none⟩) m cR
 | 23, v, w => v = .int .i64 (i : Nat)
 | 24, v, w => v = .pointer (some ⟨gR, oR + i * 4, none⟩)
 | 25, v, w => v = .agg #[.string ⟨#[]⟩, .string ⟨#[]⟩, .int .u32 0, .int .i64 (z : Nat)]
 | 26, v, w => v = .int .i64 (i : Nat)
 | 27, v, w => v = .slice aB n cA
 | 28, v, w => v = .int .i64 (n : Nat)
 | 29, v, w => v = .int .i64 (jm : Nat)
 | 30, v, w => v = .agg #[.string ⟨#[]⟩, .string ⟨#[]⟩, .int .u32 0, .int .i64 (z : Nat)]
 | 31, v, w => v = .bool true
 | 32, v, w | 33, v, w | 34, v, w => v = .bool false
 | _, _, _ => True
theorem dkdB_below (gR oR m cR n cA i jm z : Nat) (aB : Option Addr) (w w' : World) (hb : Below w.heap.size w w') : ∀ j v, dkdB_val gR oR m cR n cA i jm z aB j v w → dkdB_val gR oR m cR n cA i jm z aB j v w' := by
 intro j v h
 match j, h with
 | 0, h | 1, h | 2, h | 3, h | 4, h | 5, h | 6, h | 7, h | 8, h | 9, h | 10, h | 11, h | 12, h | 13, h | 14, h | 15, h | 16, h | 17, h | 18, h | 19, h | 20, h | 21, h | 22, h | 23, h | 24, h | 25, h | 26, h | 27, h | 28, h | 29, h | 30, h | 31, h | 32, h | 33, h | 34, h => exact h
 | _ + 35, h => exact h
def dkdB_H (Fc : Fence) (gR oR m cR n cA i jm z : Nat) (aB : Option Addr) (df : List Deferred) (w0 : World) (x : Act) (w : World) : Prop :=
 (Wide Fc) ∧ (Hid (i = n + jm ∧ i < m ∧ m ≤ 20000)) ∧ (w0.cell? ⟨gR, oR + i * 4, none⟩ = some (.string ⟨#[]⟩)) ∧ (w0.cell? ⟨gR, oR + i * 4 + 1, none⟩ = some (.string ⟨#[]⟩)) ∧ (w0.cell? ⟨gR, oR + i * 4 + 2, none⟩ = some (.int .u32 0)) ∧ (w0.cell? ⟨gR, oR + i * 4 + 3, none⟩ = some (.int .i64 (z : Nat))) ∧ (∀ W : World, Calls Tryz.prog 23 #[.int .i64 (1 : Nat), .int .i64 (jm : Nat)] W fun e w' => e = .returned (.agg #[.string ⟨#[]⟩, .string ⟨#[]⟩, .int .u32 0, .int .i64 (z : Nat)]) ∧ Below W.heap.size W w') ∧ (Below w0.heap.size w0 w) ∧ (x.defers = df) ∧ (x.tmps.getD 1 undef = .slice aB n cA) ∧ (x.tmps.getD 5 undef = .slice (some ⟨gR, oR, none⟩) m cR) ∧ (x.tmps.getD 6 undef = .int .i64 (i : Nat))
section
set_option maxRecDepth 100000
set_option maxHeartbeats 2000000
variable {Fc : Fence} {nC : Nat} {gR oR m cR n cA i jm z : Nat} {aB : Option Addr} {Q : Exit → Act → World → Prop} {df : List Deferred} {w0 : World} {x : Act} {w : World}
theorem dkdB_s0 (H : dkdB_H Fc gR oR m cR n cA i jm z aB df w0 x w) : Stp Fc nC Tryz.prog dkd7_ops Q 0 23 (dkdB_val gR oR m cR n cA i jm z aB 0) x w := by
 (obtain ⟨hF, hk, x0, x1, x2, x3, cm, hB, hdef, u1, u5, u6⟩ := H; have ho : dkd7_ops[0]? = some dkd7_o0 := rfl; simp only [Array.getD_eq_getD_getElem?] at u1 u5 u6)
 (refine wpOpIn_plain ho rfl (oper_inK hF.fn (fun K hK => ?_)); clear ho; rw [Oper.semAt_plain Fc _ _ (by intro c h; cases h)]; simp only [dkd7_o0]; go_simp)
 exact hK _ _ ⟨_, act_putD x hdef _ _, rfl, Below.refl _ _⟩
theorem dkdB_s1 (H : dkdB_H Fc gR oR m cR n cA i jm z aB df w0 x w) : Stp Fc nC Tryz.prog dkd7_ops Q 1 24 (dkdB_val gR oR m cR n cA i jm z aB 1) x w := by
 (obtain ⟨hF, hk, x0, x1, x2, x3, cm, hB, hdef, u1, u5, u6⟩ := H; have ho : dkd7_ops[1]? = some dkd7_o1 := rfl; simp only [Array.getD_eq_getD_getElem?] at u1 u5 u6)
 (refine wpOpIn_plain ho rfl (oper_inK hF.fn (fun K hK => ?_)); clear ho; rw [Oper.semAt_plain Fc _ _ (by intro c h; cases h)]; simp only [dkd7_o1]; go_simp)
 exact hK _ _ ⟨_, act_putD x hdef _ _, rfl, Below.refl _ _⟩
theorem dkdB_s2 (H : dkdB_H Fc gR oR m cR n cA i jm z aB df w0 x w) (p1 : dkdB_val gR oR m cR n cA i jm z aB 1 (x.tmps.getD 24 undef) w) : Stp Fc nC Tryz.prog dkd7_ops Q 2 25 (dkdB_val gR oR m cR n cA i jm z aB 2) x w := by
 (obtain ⟨hF, hk, x0, x1, x2, x3, cm, hB, hdef, u1, u5, u6⟩ := H; have ho : dkd7_ops[2]? = some dkd7_o2 := rfl; simp only [Array.getD_eq_getD_getElem?] at u1 u5 u6)
 have q1 : Array.getD (Act.tmps x) 24 undef = .slice aB n cA := p1
 simp only [Array.getD_eq_getD_getElem?] at q1
 (refine wpOpIn_plain ho rfl (oper_inK hF.fn (fun K hK => ?_)); clear ho; rw [Oper.semAt_plain Fc _ _ (by intro c h; cases h)]; simp only [dkd7_o2]; go_simp)
 exact hK _ _ ⟨_, act_putD x hdef _ _, rfl, Below.refl _ _⟩
theorem dkdB_s3 (H : dkdB_H Fc gR oR m cR n cA i jm z aB df w0 x w) (p0 : dkdB_val gR oR m cR n cA i jm z aB 0 (x.tmps.getD 23 undef) w) (p2 : dkdB_val gR oR m cR n cA i jm z aB 2 (x.tmps.getD 25 undef) w) : Stp Fc nC Tryz.prog dkd7_ops Q 3 26 (dkdB_val gR oR m cR n cA i jm z aB 3) x w := by
 (obtain ⟨hF, hk, x0, x1, x2, x3, cm, hB, hdef, u1, u5, u6⟩ := H; have ho : dkd7_ops[3]? = some dkd7_o3 := rfl; simp only [Array.getD_eq_getD_getElem?] at u1 u5 u6)
 have q0 : Array.getD (Act.tmps x) 23 undef = .int .i64 (i : Nat) := p0
 have q2 : Array.getD (Act.tmps x) 25 undef = .int .i64 (n : Nat) := p2
 simp only [Array.getD_eq_getD_getElem?] at q0 q2
 have r1 : ¬ ((i : Int) < (n : Int)) := by have := hk.out; omega
 (refine wpOpIn_plain ho rfl (oper_inK hF.fn (fun K hK => ?_)); clear ho; rw [Oper.semAt_plain Fc _ _ (by intro c h; cases h)]; simp only [dkd7_o3]; go_simp)
 exact hK _ _ ⟨_, act_putD x hdef _ _, rfl, Below.refl _ _⟩
theorem dkdB_s4 (H : dkdB_H Fc gR oR m cR n cA i jm z aB df w0 x w) (p3 : dkdB_val gR oR m cR n cA i jm z aB 3 (x.tmps.getD 26 undef) w) : Stp Fc nC Tryz.prog dkd7_ops Q 4 27 (dkdB_val gR oR m cR n cA i jm z aB 4) x w := by
 (obtain ⟨hF, hk, x0, x1, x2, x3, cm, hB, hdef, u1, u5, u6⟩ := H; have ho : dkd7_ops[4]? = some dkd7_o4 := rfl; simp only [Array.getD_eq_getD_getElem?] at u1 u5 u6)
 have q3 : Array.getD (Act.tmps x) 26 undef = .bool false := p3
 simp only [Array.getD_eq_getD_getElem?] at q3
 (refine wpOpIn_plain ho rfl (oper_inK hF.fn (fun K hK => ?_)); clear ho; rw [Oper.semAt_plain Fc _ _ (by intro c h; cases h)]; simp only [dkd7_o4]; go_simp)
 exact hK _ _ ⟨_, act_putD x hdef _ _, rfl, Below.refl _ _⟩
theorem dkdB_s5 (H : dkdB_H Fc gR oR m cR n cA i jm z aB df w0 x w) (p4 : dkdB_val gR oR m cR n cA i jm z aB 4 (x.tmps.getD 27 undef) w) : Stp Fc nC Tryz.prog dkd7_ops Q 5 28 (dkdB_val gR oR m cR n cA i jm z aB 5) x w := by
 (obtain ⟨hF, hk, x0, x1, x2, x3, cm, hB, hdef, u1, u5, u6⟩ := H; have ho : dkd7_ops[5]? = some dkd7_o5 := rfl; simp only [Array.getD_eq_getD_getElem?] at u1 u5 u6)
 have q4 : Array.getD (Act.tmps x) 27 undef = .bool false := p4
 simp only [Array.getD_eq_getD_getElem?] at q4
 (have e4 : (dkd7_ops[4]?.bind fun x => x.dst) = some 27 := rfl; have g4 := get_someT q4 (fun h => by cases h))
 (refine wpOpIn_stepT hF ho (fun K hK => ?_); clear ho; rw [Oper.semAt_plain Fc _ _ (by intro c h; cases h)]; simp only [dkd7_o5]; go_simp)
 exact hK _ _ ⟨_, act_putD x hdef _ _, rfl, Below.refl _ _⟩
theorem dkdB_s6 (H : dkdB_H Fc gR oR m cR n cA i jm z aB df w0 x w) (p4 : dkdB_val gR oR m cR n cA i jm z aB 4 (x.tmps.getD 27 undef) w) : Stp Fc nC Tryz.prog dkd7_ops Q 6 29 (dkdB_val gR oR m cR n cA i jm z aB 6) x w := by
 (obtain ⟨hF, hk, x0, x1, x2, x3, cm, hB, hdef, u1, u5, u6⟩ := H; have ho : dkd7_ops[6]? = some dkd7_o6 := rfl; simp only [Array.getD_eq_getD_getElem?] at u1 u5 u6)
 have q4 : Array.getD (Act.tmps x) 27 undef = .bool false := p4
 simp only [Array.getD_eq_getD_getElem?] at q4
 (have e4 : (dkd7_ops[4]?.bind fun x => x.dst) = some 27 := rfl; have g4 := get_someT q4 (fun h => by cases h))
 (refine wpOpIn_stepT hF ho (fun K hK => ?_); clear ho; rw [Oper.semAt_plain Fc _ _ (by intro c h; cases h)]; simp only [dkd7_o6]; go_simp)
 exact hK _ _ ⟨_, act_putD x hdef _ _, rfl, Below.refl _ _⟩
theorem dkdB_s7 (H : dkdB_H Fc gR oR m cR n cA i jm z aB df w0 x w) (p5 : dkdB_val gR oR m cR n cA i jm z aB 5 (x.tmps.getD 28 undef) w) (p6 : dkdB_val gR oR m cR n cA i jm z aB 6 (x.tmps.getD 29 undef) w) (p4 : dkdB_val gR oR m cR n cA i jm z aB 4 (x.tmps.getD 27 undef) w) : Stp Fc nC Tryz.prog dkd7_ops Q 7 30 (dkdB_val gR oR m cR n cA i jm z aB 7) x w := by
 (obtain ⟨hF, hk, x0, x1, x2, x3, cm, hB, hdef, u1, u5, u6⟩ := H; have ho : dkd7_ops[7]? = some dkd7_o7 := rfl; simp only [Array.getD_eq_getD_getElem?] at u1 u5 u6)
 have q5 : Array.getD (Act.tmps x) 28 undef = undef := p5
 have q6 : Array.getD (Act.tmps x) 29 undef = undef := p6
 have q4 : Array.getD (Act.tmps x) 27 undef = .bool false := p4
 simp only [Array.getD_eq_getD_getElem?] at q5 q6 q4
 (have e4 : (dkd7_ops[4]?.bind fun x => x.dst) = some 27 := rfl; have g4 := get_someT q4 (fun h => by cases h))
 (refine wpOpIn_stepT hF ho (fun K hK => ?_); clear ho; rw [Oper.semAt_plain Fc _ _ (by intro c h; cases h)]; simp only [dkd7_o7]; go_simp)
 exact hK _ _ ⟨_, act_putD x hdef _ _, rfl, Below.refl _ _⟩
theorem dkdB_s8 (H : dkdB_H Fc gR oR m cR n cA i jm z aB df w0 x w) (p7 : dkdB_val gR oR m cR n cA i jm z aB 7 (x.tmps.getD 30 undef) w) (p4 : dkdB_val gR oR m cR n cA i jm z aB 4 (x.tmps.getD 27 undef) w) : Stp Fc nC Tryz.prog dkd7_ops Q 8 31 (dkdB_val gR oR m cR n cA i jm z aB 8) x w := by
 (obtain ⟨hF, hk, x0, x1, x2, x3, cm, hB, hdef, u1, u5, u6⟩ := H; have ho : dkd7_ops[8]? = some dkd7_o8 := rfl; simp only [Array.getD_eq_getD_getElem?] at u1 u5 u6)
 have q7 : Array.getD (Act.tmps x) 30 undef = undef := p7
 have q4 : Array.getD (Act.tmps x) 27 undef = .bool false := p4
 simp only [Array.getD_eq_getD_getElem?] at q7 q4
 (have e4 : (dkd7_ops[4]?.bind fun x => x.dst) = some 27 := rfl; have g4 := get_someT q4 (fun h => by cases h))
 (refine wpOpIn_stepT hF ho (fun K hK => ?_); clear ho; rw [Oper.semAt_plain Fc _ _ (by intro c h; cases h)]; simp only [dkd7_o8]; go_simp)
 exact hK _ _ ⟨_, act_putD x hdef _ _, rfl, Below.refl _ _⟩
theorem dkdB_s9 (H : dkdB_H Fc gR oR m cR n cA i jm z aB df w0 x w) (p4 : dkdB_val gR oR m cR n cA i jm z aB 4 (x.tmps.getD 27 undef) w) : Stp Fc nC Tryz.prog dkd7_ops Q 9 32 (dkdB_val gR oR m cR n cA i jm z aB 9) x w := by
 (obtain ⟨hF, hk, x0, x1, x2, x3, cm, hB, hdef, u1, u5, u6⟩ := H; have ho : dkd7_ops[9]? = some dkd7_o9 := rfl; simp only [Array.getD_eq_getD_getElem?] at u1 u5 u6)
 have q4 : Array.getD (Act.tmps x) 27 undef = .bool false := p4
 simp only [Array.getD_eq_getD_getElem?] at q4
 (have e4 : (dkd7_ops[4]?.bind fun x => x.dst) = some 27 := rfl; have g4 := get_someT q4 (fun h => by cases h))
 (refine wpOpIn_stepT hF ho (fun K hK => ?_); clear ho; rw [Oper.semAt_plain Fc _ _ (by intro c h; cases h)]; simp only [dkd7_o9]; go_simp)
 exact hK _ _ ⟨_, act_putD x hdef _ _, rfl, Below.refl _ _⟩
theorem dkdB_s10 (H : dkdB_H Fc gR oR m cR n cA i jm z aB df w0 x w) (p4 : dkdB_val gR oR m cR n cA i jm z aB 4 (x.tmps.getD 27 undef) w) : Stp Fc nC Tryz.prog dkd7_ops Q 10 33 (dkdB_val gR oR m cR n cA i jm z aB 10) x w := by
 (obtain ⟨hF, hk, x0, x1, x2, x3, cm, hB, hdef, u1, u5, u6⟩ := H; have ho : dkd7_ops[10]? = some dkd7_o10 := rfl; simp only [Array.getD_eq_getD_getElem?] at u1 u5 u6)
 have q4 : Array.getD (Act.tmps x) 27 undef = .bool false := p4
 simp only [Array.getD_eq_getD_getElem?] at q4
 (have e4 : (dkd7_ops[4]?.bind fun x => x.dst) = some 27 := rfl; have g4 := get_someT q4 (fun h => by cases h))
 (refine wpOpIn_stepT hF ho (fun K hK => ?_); clear ho; rw [Oper.semAt_plain Fc _ _ (by intro c h; cases h)]; simp only [dkd7_o10]; go_simp)
 exact hK _ _ ⟨_, act_putD x hdef _ _, rfl, Below.refl _ _⟩
theorem dkdB_s11 (H : dkdB_H Fc gR oR m cR n cA i jm z aB df w0 x w) (p9 : dkdB_val gR oR m cR n cA i jm z aB 9 (x.tmps.getD 32 undef) w) (p10 : dkdB_val gR oR m cR n cA i jm z aB 10 (x.tmps.getD 33 undef) w) (p4 : dkdB_val gR oR m cR n cA i jm z aB 4 (x.tmps.getD 27 undef) w) : Stp Fc nC Tryz.prog dkd7_ops Q 11 34 (dkdB_val gR oR m cR n cA i jm z aB 11) x w := by
 (obtain ⟨hF, hk, x0, x1, x2, x3, cm, hB, hdef, u1, u5, u6⟩ := H; have ho : dkd7_ops[11]? = some dkd7_o11 := rfl; simp only [Array.getD_eq_getD_getElem?] at u1 u5 u6)
 have q9 : Array.getD (Act.tmps x) 32 undef = undef := p9
 have q10 : Array.getD (Act.tmps x) 33 undef = undef := p10
 have q4 : Array.getD (Act.tmps x) 27 undef = .bool false := p4
 simp only [Array.getD_eq_getD_getElem?] at q9 q10 q4
 (have e4 : (dkd7_ops[4]?.bind fun x => x.dst) = some 27 := rfl; have g4 := get_someT q4 (fun h => by cases h))
 (refine wpOpIn_stepT hF ho (fun K hK => ?_); clear ho; rw [Oper.semAt_plain Fc _ _ (by intro c h; cases h)]; simp only [dkd7_o11]; go_simp)
 exact hK _ _ ⟨_, act_putD x hdef _ _, rfl, Below.refl _ _⟩
theorem dkdB_s12 (H : dkdB_H Fc gR oR m cR n cA i jm z aB df w0 x w) (p11 : dkdB_val gR oR m cR n cA i jm z aB 11 (x.tmps.getD 34 undef) w) (p4 : dkdB_val gR oR m cR n cA i jm z aB 4 (x.tmps.getD 27 undef) w) : Stp Fc nC Tryz.prog dkd7_ops Q 12 35 (dkdB_val gR oR m cR n cA i jm z aB 12) x w := by
 (obtain ⟨hF, hk, x0, x1, x2, x3, cm, hB, hdef, u1, u5, u6⟩ := H; have ho : dkd7_ops[12]? = some dkd7_o12 := rfl; simp only [Array.getD_eq_getD_getElem?] at u1 u5 u6)
 have q11 : Array.getD (Act.tmps x) 34 undef = undef := p11
 have q4 : Array.getD (Act.tmps x) 27 undef = .bool false := p4
 simp only [Array.getD_eq_getD_getElem?] at q11 q4
 (have e4 : (dkd7_ops[4]?.bind fun x => x.dst) = some 27 := rfl; have g4 := get_someT q4 (fun h => by cases h))
 (refine wpOpIn_stepT hF ho (fun K hK => ?_); clear ho; rw [Oper.semAt_plain Fc _ _ (by intro c h; cases h)]; simp only [dkd7_o12]; go_simp)
 exact hK _ _ ⟨_, act_putD x hdef _ _, rfl, Below.refl _ _⟩
theorem dkdB_s13 (H : dkdB_H Fc gR oR m cR n cA i jm z aB df w0 x w) (p8 : dkdB_val gR oR m cR n cA i jm z aB 8 (x.tmps.getD 31 undef) w) (p12 : dkdB_val gR oR m cR n cA i jm z aB 12 (x.tmps.getD 35 undef) w) (p4 : dkdB_val gR oR m cR n cA i jm z aB 4 (x.tmps.getD 27 undef) w) : Stp Fc nC Tryz.prog dkd7_ops Q 13 36 (dkdB_val gR oR m cR n cA i jm z aB 13) x w := by
 (obtain ⟨hF, hk, x0, x1, x2, x3, cm, hB, hdef, u1, u5, u6⟩ := H; have ho : dkd7_ops[13]? = some dkd7_o13 := rfl; simp only [Array.getD_eq_getD_getElem?] at u1 u5 u6)
 have q8 : Array.getD (Act.tmps x) 31 undef = undef := p8
 have q12 : Array.getD (Act.tmps x) 35 undef = undef := p12
 have q4 : Array.getD (Act.tmps x) 27 undef = .bool false := p4
 simp only [Array.getD_eq_getD_getElem?] at q8 q12 q4
 (have e4 : (dkd7_ops[4]?.bind fun x => x.dst) = some 27 := rfl; have g4 := get_someT q4 (fun h => by cases h))
 (refine wpOpIn_stepT hF ho (fun K hK => ?_); clear ho; rw [Oper.semAt_plain Fc _ _ (by intro c h; cases h)]; simp only [dkd7_o13]; go_simp)
 exact hK _ _ ⟨_, act_putD x hdef _ _, rfl, Below.refl _ _⟩
theorem dkdB_s14 (H : dkdB_H Fc gR oR m cR n cA i jm z aB df w0 x w) (p13 : dkdB_val gR oR m cR n cA i jm z aB 13 (x.tmps.getD 36 undef) w) (p4 : dkdB_val gR oR m cR n cA i jm z aB 4 (x.tmps.getD 27 undef) w) : Stp Fc nC Tryz.prog dkd7_ops Q 14 37 (dkdB_val gR oR m cR n cA i jm z aB 14) x w := by
 (obtain ⟨hF, hk, x0, x1, x2, x3, cm, hB, hdef, u1, u5, u6⟩ := H; have ho : dkd7_ops[14]? = some dkd7_o14 := rfl; simp only [Array.getD_eq_getD_getElem?] at u1 u5 u6)
 have q13 : Array.getD (Act.tmps x) 36 undef = undef := p13
 have q4 : Array.getD (Act.tmps x) 27 undef = .bool false := p4
 simp only [Array.getD_eq_getD_getElem?] at q13 q4
 (have e4 : (dkd7_ops[4]?.bind fun x => x.dst) = some 27 := rfl; have g4 := get_someT q4 (fun h => by cases h))
 (refine wpOpIn_stepT hF ho (fun K hK => ?_); clear ho; rw [Oper.semAt_plain Fc _ _ (by intro c h; cases h)]; simp only [dkd7_o14]; go_simp)
 exact hK _ _ ⟨_, act_putD x hdef _ _, rfl, Below.refl _ _⟩
theorem dkdB_s15 (H : dkdB_H Fc gR oR m cR n cA i jm z aB df w0 x w) (p4 : dkdB_val gR oR m cR n cA i jm z aB 4 (x.tmps.getD 27 undef) w) (p14 : dkdB_val gR oR m cR n cA i jm z aB 14 (x.tmps.getD 37 undef) w) : Stp Fc nC Tryz.prog dkd7_ops Q 15 38 (dkdB_val gR oR m cR n cA i jm z aB 15) x w := by
 (obtain ⟨hF, hk, x0, x1, x2, x3, cm, hB, hdef, u1, u5, u6⟩ := H; have ho : dkd7_ops[15]? = some dkd7_o15 := rfl; simp only [Array.getD_eq_getD_getElem?] at u1 u5 u6)
 have q4 : Array.getD (Act.tmps x) 27 undef = .bool false := p4
 have q14 : Array.getD (Act.tmps x) 37 undef = undef := p14
 simp only [Array.getD_eq_getD_getElem?] at q4 q14
 (refine wpOpIn_plain ho rfl (oper_inK hF.fn (fun K hK => ?_)); clear ho; rw [Oper.semAt_plain Fc _ _ (by intro c h; cases h)]; simp only [dkd7_o15]; go_simp)
 exact hK _ _ ⟨_, act_putD x hdef _ _, rfl, Below.refl _ _⟩
theorem dkdB_s16 (H : dkdB_H Fc gR oR m cR n cA i jm z aB df w0 x w) (p15 : dkdB_val gR oR m cR n cA i jm z aB 15 (x.tmps.getD 38 undef) w) : Stp Fc nC Tryz.prog dkd7_ops Q 16 39 (dkdB_val gR oR m cR n cA i jm z aB 16) x w := by
 (obtain ⟨hF, hk, x0, x1, x2, x3, cm, hB, hdef, u1, u5, u6⟩ := H; have ho : dkd7_ops[16]? = some dkd7_o16 := rfl; simp only [Array.getD_eq_getD_getElem?] at u1 u5 u6)
 have q15 : Array.getD (Act.tmps x) 38 undef = .bool false := p15
 simp only [Array.getD_eq_getD_getElem?] at q15
 (refine wpOpIn_plain ho rfl (oper_inK hF.fn (fun K hK => ?_)); clear ho; rw [Oper.semAt_plain Fc _ _ (by intro c h; cases h)]; simp only [dkd7_o16]; go_simp)
 exact hK _ _ ⟨_, act_putD x hdef _ _, rfl, Below.refl _ _⟩
theorem dkdB_s17 (H : dkdB_H Fc gR oR m cR n cA i jm z aB df w0 x w) (p16 : dkdB_val gR oR m cR n cA i jm z aB 16 (x.tmps.getD 39 undef) w) : Stp Fc nC Tryz.prog dkd7_ops Q 17 40 (dkdB_val gR oR m cR n cA i jm z aB 17) x w := by
 (obtain ⟨hF, hk, x0, x1, x2, x3, cm, hB, hdef, u1, u5, u6⟩ := H; have ho : dkd7_ops[17]? = some dkd7_o17 := rfl; simp only [Array.getD_eq_getD_getElem?] at u1 u5 u6)
 have q16 : Array.getD (Act.tmps x) 39 undef = .bool false := p16
 simp only [Array.getD_eq_getD_getElem?] at q16
 (have e16 : (dkd7_ops[16]?.bind fun x => x.dst) = some 39 := rfl; have g16 := get_someT q16 (fun h => by cases h))
 (refine wpOpIn_stepT hF ho (fun K hK => ?_); clear ho; rw [Oper.semAt_plain Fc _ _ (by intro c h; cases h)]; simp only [dkd7_o17]; go_simp)
 exact hK _ _ ⟨_, act_putD x hdef _ _, rfl, Below.refl _ _⟩
theorem dkdB_s18 (H : dkdB_H Fc gR oR m cR n cA i jm z aB df w0 x w) (p16 : dkdB_val gR oR m cR n cA i jm z aB 16 (x.tmps.getD 39 undef) w) : Stp Fc nC Tryz.prog dkd7_ops Q 18 41 (dkdB_val gR oR m cR n cA i jm z aB 18) x w := by
 (obtain ⟨hF, hk, x0, x1, x2, x3, cm, hB, hdef, u1, u5, u6⟩ := H; have ho : dkd7_ops[18]? = some dkd7_o18 := rfl; simp only [Array.getD_eq_getD_getElem?] at u1 u5 u6)
 have q16 : Array.getD (Act.tmps x) 39 undef = .bool false := p16
 simp only [Array.getD_eq_getD_getElem?] at q16
 (have e16 : (dkd7_ops[16]?.bind fun x => x.dst) = some 39 := rfl; have g16 := get_someT q16 (fun h => by cases h))
 (refine wpOpIn_stepT hF ho (fun K hK => ?_); clear ho; rw [Oper.semAt_plain Fc _ _ (by intro c h; cases h)]; simp only [dkd7_o18]; go_simp)
 exact hK _ _ ⟨_, act_putD x hdef _ _, rfl, Below.refl _ _⟩
theorem dkdB_s19 (H : dkdB_H Fc gR oR m cR n cA i jm z aB df w0 x w) (p18 : dkdB_val gR oR m cR n cA i jm z aB 18 (x.tmps.getD 41 undef) w) (p16 : dkdB_val gR oR m cR n cA i jm z aB 16 (x.tmps.getD 39 undef) w) : Stp Fc nC Tryz.prog dkd7_ops Q 19 42 (dkdB_val gR oR m cR n cA i jm z aB 19) x w := by
 (obtain ⟨hF, hk, x0, x1, x2, x3, cm, hB, hdef, u1, u5, u6⟩ := H; have ho : dkd7_ops[19]? = some dkd7_o19 := rfl; simp only [Array.getD_eq_getD_getElem?] at u1 u5 u6)
 have q18 : Array.getD (Act.tmps x) 41 undef = .slice aB n cA := p18
 have q16 : Array.getD (Act.tmps x) 39 undef = .bool false := p16
 simp only [Array.getD_eq_getD_getElem?] at q18 q16
 (have e16 : (dkd7_ops[16]?.bind fun x => x.dst) = some 39 := rfl; have g16 := get_someT q16 (fun h => by cases h))
 (refine wpOpIn_stepT hF ho (fun K hK => ?_); clear ho; rw [Oper.semAt_plain Fc _ _ (by intro c h; cases h)]; simp only [dkd7_o19]; go_simp)
 exact hK _ _ ⟨_, act_putD x hdef _ _, rfl, Below.refl _ _⟩
theorem dkdB_s20 (H : dkdB_H Fc gR oR m cR n cA i jm z aB df w0 x w) (p17 : dkdB_val gR oR m cR n cA i jm z aB 17 (x.tmps.getD 40 undef) w) (p19 : dkdB_val gR oR m cR n cA i jm z aB 19 (x.tmps.getD 42 undef) w) (p16 : dkdB_val gR oR m cR n cA i jm z aB 16 (x.tmps.getD 39 undef) w) : Stp Fc nC Tryz.prog dkd7_ops Q 20 43 (dkdB_val gR oR m cR n cA i jm z aB 20) x w := by
 (obtain ⟨hF, hk, x0, x1, x2, x3, cm, hB, hdef, u1, u5, u6⟩ := H; have ho : dkd7_ops[20]? = some dkd7_o20 := rfl; simp only [Array.getD_eq_getD_getElem?] at u1 u5 u6)
 have q17 : Array.getD (Act.tmps x) 40 undef = .int .i64 (i : Nat) := p17
 have q19 : Array.getD (Act.tmps x) 42 undef = .int .i64 (n : Nat) := p19
 have q16 : Array.getD (Act.tmps x) 39 undef = .bool false := p16
 simp only [Array.getD_eq_getD_getElem?] at q17 q19 q16
 (have e16 : (dkd7_ops[16]?.bind fun x => x.dst) = some 39 := rfl; have g16 := get_someT q16 (fun h => by cases h))
 have r1 : (n : Int) ≤ (i : Int) := by have := hk.out; omega
 (refine wpOpIn_stepT hF ho (fun K hK => ?_); clear ho; rw [Oper.semAt_plain Fc _ _ (by intro c h; cases h)]; simp only [dkd7_o20]; go_simp)
 exact hK _ _ ⟨_, act_putD x hdef _ _, rfl, Below.refl _ _⟩
theorem dkdB_s21 (H : dkdB_H Fc gR oR m cR n cA i jm z aB df w0 x w) (p20 : dkdB_val gR oR m cR n cA i jm z aB 20 (x.tmps.getD 43 undef) w) (p16 : dkdB_val gR oR m cR n cA i jm z aB 16 (x.tmps.getD 39 undef) w) : Stp Fc nC Tryz.prog dkd7_ops Q 21 44 (dkdB_val gR oR m cR n cA i jm z aB 21) x w := by
 (obtain ⟨hF, hk, x0, x1, x2, x3, cm, hB, hdef, u1, u5, u6⟩ := H; have ho : dkd7_ops[21]? = some dkd7_o21 := rfl; simp only [Array.getD_eq_getD_getElem?] at u1 u5 u6)
 have q20 : Array.getD (Act.tmps x) 43 undef = .bool true := p20
 have q16 : Array.getD (Act.tmps x) 39 undef = .bool false := p16
 simp only [Array.getD_eq_getD_getElem?] at q20 q16
 (have e16 : (dkd7_ops[16]?.bind fun x => x.dst) = some 39 := rfl; have g16 := get_someT q16 (fun h => by cases h))
 (refine wpOpIn_stepT hF ho (fun K hK => ?_); clear ho; rw [Oper.semAt_plain Fc _ _ (by intro c h; cases h)]; simp only [dkd7_o21]; go_simp)
 exact hK _ _ ⟨_, act_putD x hdef _ _, rfl, Below.refl _ _⟩
theorem dkdB_s22 (H : dkdB_H Fc gR oR m cR n cA i jm z aB df w0 x w) (p21 : dkdB_val gR oR m cR n cA i jm z aB 21 (x.tmps.getD 44 undef) w) : Stp Fc nC Tryz.prog dkd7_ops Q 22 45 (dkdB_val gR oR m cR n cA i jm z aB 22) x w := by
 (obtain ⟨hF, hk, x0, x1, x2, x3, cm, hB, hdef, u1, u5, u6⟩ := H; have ho : dkd7_ops[22]? = some dkd7_o22 := rfl; simp only [Array.getD_eq_getD_getElem?] at u1 u5 u6)
 have q21 : Array.getD (Act.tmps x) 44 undef = .bool true := p21
 simp only [Array.getD_eq_getD_getElem?] at q21
 (have e21 : (dkd7_ops[21]?.bind fun x => x.dst) = some 44 := rfl; have g21 := get_someT q21 (fun h => by cases h))
 (refine wpOpIn_stepT hF ho (fun K hK => ?_); clear ho; rw [Oper.semAt_plain Fc _ _ (by intro c h; cases h)]; simp only [dkd7_o22]; go_simp)
 exact hK _ _ ⟨_, act_putD x hdef _ _, rfl, Below.refl _ _⟩
theorem dkdB_s23 (H : dkdB_H Fc gR oR m cR n cA i jm z aB df w0 x w) (p21 : dkdB_val gR oR m cR n cA i jm z aB 21 (x.tmps.getD 44 undef) w) : Stp Fc nC Tryz.prog dkd7_ops Q 23 46 (dkdB_val gR oR m cR n cA i jm z aB 23) x w := by
 (obtain ⟨hF, hk, x0, x1, x2, x3, cm, hB, hdef, u1, u5, u6⟩ := H; have ho : dkd7_ops[23]? = some dkd7_o23 := rfl; simp only [Array.getD_eq_getD_getElem?] at u1 u5 u6)
 have q21 : Array.getD (Act.tmps x) 44 undef = .bool true := p21
 simp only [Array.getD_eq_getD_getElem?] at q21
 (have e21 : (dkd7_ops[21]?.bind fun x => x.dst) = some 44 := rfl; have g21 := get_someT q21 (fun h => by cases h))
 (refine wpOpIn_stepT hF ho (fun K hK => ?_); clear ho; rw [Oper.semAt_plain Fc _ _ (by intro c h; cases h)]; simp only [dkd7_o23]; go_simp)
 exact hK _ _ ⟨_, act_putD x hdef _ _, rfl, Below.refl _ _⟩
theorem dkdB_s24 (H : dkdB_H Fc gR oR m cR n cA i jm z aB df w0 x w) (p22 : dkdB_val gR oR m cR n cA i jm z aB 22 (x.tmps.getD 45 undef) w) (p23 : dkdB_val gR oR m cR n cA i jm z aB 23 (x.tmps.getD 46 undef) w) (p21 : dkdB_val gR oR m cR n cA i jm z aB 21 (x.tmps.getD 44 undef) w) : Stp Fc nC Tryz.prog dkd7_ops Q 24 47 (dkdB_val gR oR m cR n cA i jm z aB 24) x w := by
 (obtain ⟨hF, hk, x0, x1, x2, x3, cm, hB, hdef, u1, u5, u6⟩ := H; have ho : dkd7_ops[24]? = some dkd7_o24 := rfl; simp only [Array.getD_eq_getD_getElem?] at u1 u5 u6)
 have q22 : Array.getD (Act.tmps x) 45 undef = .slice (some ⟨gR, oR, none⟩) m cR := p22
 have q23 : Array.getD (Act.tmps x) 46 undef = .int .i64 (i : Nat) := p23
 have q21 : Array.getD (Act.tmps x) 44 undef = .bool true := p21
 simp only [Array.getD_eq_getD_getElem?] at q22 q23 q21
 (have e21 : (dkd7_ops[21]?.bind fun x => x.dst) = some 44 := rfl; have g21 := get_someT q21 (fun h => by cases h))
 have r0 : (0 : Int) ≤ (i : Int) := by have := hk.out; omega
 have r1 : (i : Int) < (m : Int) := by have := hk.out; omega
 (refine wpOpIn_stepT hF ho (fun K hK => ?_); clear ho; rw [Oper.semAt_plain Fc _ _ (by intro c h; cases h)]; simp only [dkd7_o24]; go_simp)
 exact hK _ _ ⟨_, act_putD x hdef _ _, rfl, Below.refl _ _⟩
theorem dkdB_s25 (H : dkdB_H Fc gR oR m cR n cA i jm z aB df w0 x w) (p24 : dkdB_val gR oR m cR n cA i jm z aB 24 (x.tmps.getD 47 undef) w) (p21 : dkdB_val gR oR m cR n cA i jm z aB 21 (x.tmps.getD 44 undef) w) : Stp Fc nC Tryz.prog dkd7_ops Q 25 48 (dkdB_val gR oR m cR n cA i jm z aB 25) x w := by
 (obtain ⟨hF, hk, x0, x1, x2, x3, cm, hB, hdef, u1, u5, u6⟩ := H; have ho : dkd7_ops[25]? = some dkd7_o25 := rfl; simp only [Array.getD_eq_getD_getElem?] at u1 u5 u6)
 have q24 : Array.getD (Act.tmps x) 47 undef = .pointer (some ⟨gR, oR + i * 4, none⟩) := p24
 have q21 : Array.getD (Act.tmps x) 44 undef = .bool true := p21
 simp only [Array.getD_eq_getD_getElem?] at q24 q21
 (have e21 : (dkd7_ops[21]?.bind fun x => x.dst) = some 44 := rfl; have g21 := get_someT q21 (fun h => by cases h))
 have m0 := cell_thru x0 hB
 have m1 := cell_thru x1 hB
 have m2 := cell_thru x2 hB
 have m3 := cell_thru x3 hB
 (refine wpOpIn_stepT hF ho (fun K hK => ?_); clear ho; rw [Oper.semAt_plain Fc _ _ (by intro c h; cases h)]; simp only [dkd7_o25]; go_simp)
 exact hK _ _ ⟨_, act_putD x hdef _ _, rfl, Below.refl _ _⟩
theorem dkdB_s26 (H : dkdB_H Fc gR oR m cR n cA i jm z aB df w0 x w) (p21 : dkdB_val gR oR m cR n cA i jm z aB 21 (x.tmps.getD 44 undef) w) : Stp Fc nC Tryz.prog dkd7_ops Q 26 49 (dkdB_val gR oR m cR n cA i jm z aB 26) x w := by
 (obtain ⟨hF, hk, x0, x1, x2, x3, cm, hB, hdef, u1, u5, u6⟩ := H; have ho : dkd7_ops[26]? = some dkd7_o26 := rfl; simp only [Array.getD_eq_getD_getElem?] at u1 u5 u6)
 have q21 : Array.getD (Act.tmps x) 44 undef = .bool true := p21
 simp only [Array.getD_eq_getD_getElem?] at q21
 (have e21 : (dkd7_ops[21]?.bind fun x => x.dst) = some 44 := rfl; have g21 := get_someT q21 (fun h => by cases h))
 (refine wpOpIn_stepT hF ho (fun K hK => ?_); clear ho; rw [Oper.semAt_plain Fc _ _ (by intro c h; cases h)]; simp only [dkd7_o26]; go_simp)
 exact hK _ _ ⟨_, act_putD x hdef _ _, rfl, Below.refl _ _⟩
theorem dkdB_s27 (H : dkdB_H Fc gR oR m cR n cA i jm z aB df w0 x w) (p21 : dkdB_val gR oR m cR n cA i jm z aB 21 (x.tmps.getD 44 undef) w) : Stp Fc nC Tryz.prog dkd7_ops Q 27 50 (dkdB_val gR oR m cR n cA i jm z aB 27) x w := by
 (obtain ⟨hF, hk, x0, x1, x2, x3, cm, hB, hdef, u1, u5, u6⟩ := H; have ho : dkd7_ops[27]? = some dkd7_o27 := rfl; simp only [Array.getD_eq_getD_getElem?] at u1 u5 u6)
 have q21 : Array.getD (Act.tmps x) 44 undef = .bool true := p21
 simp only [Array.getD_eq_getD_getElem?] at q21
 (have e21 : (dkd7_ops[21]?.bind fun x => x.dst) = some 44 := rfl; have g21 := get_someT q21 (fun h => by cases h))
 (refine wpOpIn_stepT hF ho (fun K hK => ?_); clear ho; rw [Oper.semAt_plain Fc _ _ (by intro c h; cases h)]; simp only [dkd7_o27]; go_simp)
 exact hK _ _ ⟨_, act_putD x hdef _ _, rfl, Below.refl _ _⟩
theorem dkdB_s28 (H : dkdB_H Fc gR oR m cR n cA i jm z aB df w0 x w) (p27 : dkdB_val gR oR m cR n cA i jm z aB 27 (x.tmps.getD 50 undef) w) (p21 : dkdB_val gR oR m cR n cA i jm z aB 21 (x.tmps.getD 44 undef) w) : Stp Fc nC Tryz.prog dkd7_ops Q 28 51 (dkdB_val gR oR m cR n cA i jm z aB 28) x w := by
 (obtain ⟨hF, hk, x0, x1, x2, x3, cm, hB, hdef, u1, u5, u6⟩ := H; have ho : dkd7_ops[28]? = some dkd7_o28 := rfl; simp only [Array.getD_eq_getD_getElem?] at u1 u5 u6)
 have q27 : Array.getD (Act.tmps x) 50 undef = .slice aB n cA := p27
 have q21 : Array.getD (Act.tmps x) 44 undef = .bool true := p21
 simp only [Array.getD_eq_getD_getElem?] at q27 q21
 (have e21 : (dkd7_ops[21]?.bind fun x => x.dst) = some 44 := rfl; have g21 := get_someT q21 (fun h => by cases h))
 (refine wpOpIn_stepT hF ho (fun K hK => ?_); clear ho; rw [Oper.semAt_plain Fc _ _ (by intro c h; cases h)]; simp only [dkd7_o28]; go_simp)
 exact hK _ _ ⟨_, act_putD x hdef _ _, rfl, Below.refl _ _⟩
theorem dkdB_s29 (H : dkdB_H Fc gR oR m cR n cA i jm z aB df w0 x w) (p26 : dkdB_val gR oR m cR n cA i jm z aB 26 (x.tmps.getD 49 undef) w) (p28 : dkdB_val gR oR m cR n cA i jm z aB 28 (x.tmps.getD 51 undef) w) (p21 : dkdB_val gR oR m cR n cA i jm z aB 21 (x.tmps.getD 44 undef) w) : Stp Fc nC Tryz.prog dkd7_ops Q 29 52 (dkdB_val gR oR m cR n cA i jm z aB 29) x w := by
 (obtain ⟨hF, hk, x0, x1, x2, x3, cm, hB, hdef, u1, u5, u6⟩ := H; have ho : dkd7_ops[29]? = some dkd7_o29 := rfl; simp only [Array.getD_eq_getD_getElem?] at u1 u5 u6)
 have q26 : Array.getD (Act.tmps x) 49 undef = .int .i64 (i : Nat) := p26
 have q28 : Array.getD (Act.tmps x) 51 undef = .int .i64 (n : Nat) := p28
 have q21 : Array.getD (Act.tmps x) 44 undef = .bool true := p21
 simp only [Array.getD_eq_getD_getElem?] at q26 q28 q21
 (have e21 : (dkd7_ops[21]?.bind fun x => x.dst) = some 44 := rfl; have g21 := get_someT q21 (fun h => by cases h))
 have ks := IntWalk.i64_in (jm : Int) (by have := hk.out; omega)
 have ks2 : (i : Int) - (n : Int) = (jm : Int) := by have := hk.out; omega
 (refine wpOpIn_stepT hF ho (fun K hK => ?_); clear ho; rw [Oper.semAt_plain Fc _ _ (by intro c h; cases h)]; simp only [dkd7_o29]; go_simp)
 exact hK _ _ ⟨_, act_putD x hdef _ _, rfl, Below.refl _ _⟩
theorem dkdB_s30 (H : dkdB_H Fc gR oR m cR n cA i jm z aB df w0 x w) (p29 : dkdB_val gR oR m cR n cA i jm z aB 29 (x.tmps.getD 52 undef) w) (p21 : dkdB_val gR oR m cR n cA i jm z aB 21 (x.tmps.getD 44 undef) w) : Stp Fc nC Tryz.prog dkd7_ops Q 30 53 (dkdB_val gR oR m cR n cA i jm z aB 30) x w := by
 (obtain ⟨hF, hk, x0, x1, x2, x3, cm, hB, hdef, u1, u5, u6⟩ := H; have ho : dkd7_ops[30]? = some dkd7_o30 := rfl; simp only [Array.getD_eq_getD_getElem?] at u1 u5 u6)
 have q29 : Array.getD (Act.tmps x) 52 undef = .int .i64 (jm : Nat) := p29
 have q21 : Array.getD (Act.tmps x) 44 undef = .bool true := p21
 simp only [Array.getD_eq_getD_getElem?] at q29 q21
 (have e21 : (dkd7_ops[21]?.bind fun x => x.dst) = some 44 := rfl; have g21 := get_someT q21 (fun h => by cases h))
 (refine wpOpIn_stepT hF ho (fun K hK => ?_); clear ho; rw [Oper.semAt_plain Fc _ _ (by intro c h; cases h)]; simp only [dkd7_o30]; go_simp)
 refine ⟨hF.deep, (hF.call (cm w)).mono ?_⟩
 rintro e w' ⟨rfl, hb⟩
 exact hK _ _ ⟨_, act_putD x hdef _ _, rfl, hb⟩
theorem dkdB_s31 (H : dkdB_H Fc gR oR m cR n cA i jm z aB df w0 x w) (p25 : dkdB_val gR oR m cR n cA i jm z aB 25 (x.tmps.getD 48 undef) w) (p30 : dkdB_val gR oR m cR n cA i jm z aB 30 (x.tmps.getD 53 undef) w) (p21 : dkdB_val gR oR m cR n cA i jm z aB 21 (x.tmps.getD 44 undef) w) : Stp Fc nC Tryz.prog dkd7_ops Q 31 54 (dkdB_val gR oR m cR n cA i jm z aB 31) x w := by
 (obtain ⟨hF, hk, x0, x1, x2, x3, cm, hB, hdef, u1, u5, u6⟩ := H; have ho : dkd7_ops[31]? = some dkd7_o31 := rfl; simp only [Array.getD_eq_getD_getElem?] at u1 u5 u6)
 have q25 : Array.getD (Act.tmps x) 48 undef = .agg #[.string ⟨#[]⟩, .string ⟨#[]⟩, .int .u32 0, .int .i64 (z : Nat)] := p25
 have q30 : Array.getD (Act.tmps x) 53 undef = .agg #[.string ⟨#[]⟩, .string ⟨#[]⟩, .int .u32 0, .int .i64 (z : Nat)] := p30
 have q21 : Array.getD (Act.tmps x) 44 undef = .bool true := p21
 simp only [Array.getD_eq_getD_getElem?] at q25 q30 q21
 (have e21 : (dkd7_ops[21]?.bind fun x => x.dst) = some 44 := rfl; have g21 := get_someT q21 (fun h => by cases h))
 (refine wpOpIn_stepT hF ho (fun K hK => ?_); clear ho; rw [Oper.semAt_plain Fc _ _ (by intro c h; cases h)]; simp only [dkd7_o31]; go_simp)
 exact hK _ _ ⟨_, act_putD x hdef _ _, rfl, Below.refl _ _⟩
theorem dkdB_s32 (H : dkdB_H Fc gR oR m cR n cA i jm z aB df w0 x w) (p31 : dkdB_val gR oR m cR n cA i jm z aB 31 (x.tmps.getD 54 undef) w) (p21 : dkdB_val gR oR m cR n cA i jm z aB 21 (x.tmps.getD 44 undef) w) : Stp Fc nC Tryz.prog dkd7_ops Q 32 55 (dkdB_val gR oR m cR n cA i jm z aB 32) x w := by
 (obtain ⟨hF, hk, x0, x1, x2, x3, cm, hB, hdef, u1, u5, u6⟩ := H; have ho : dkd7_ops[32]? = some dkd7_o32 := rfl; simp only [Array.getD_eq_getD_getElem?] at u1 u5 u6)
 have q31 : Array.getD (Act.tmps x) 54 undef = .bool true := p31
 have q21 : Array.getD (Act.tmps x) 44 undef = .bool true := p21
 simp only [Array.getD_eq_getD_getElem?] at q31 q21
 (have e21 : (dkd7_ops[21]?.bind fun x => x.dst) = some 44 := rfl; have g21 := get_someT q21 (fun h => by cases h))
 (refine wpOpIn_stepT hF ho (fun K hK => ?_); clear ho; rw [Oper.semAt_plain Fc _ _ (by intro c h; cases h)]; simp only [dkd7_o32]; go_simp)
 exact hK _ _ ⟨_, act_putD x hdef _ _, rfl, Below.refl _ _⟩
theorem dkdB_s33 (H : dkdB_H Fc gR oR m cR n cA i jm z aB df w0 x w) (p21 : dkdB_val gR oR m cR n cA i jm z aB 21 (x.tmps.getD 44 undef) w) (p32 : dkdB_val gR oR m cR n cA i jm z aB 32 (x.tmps.getD 55 undef) w) (p16 : dkdB_val gR oR m cR n cA i jm z aB 16 (x.tmps.getD 39 undef) w) : Stp Fc nC Tryz.prog dkd7_ops Q 33 56 (dkdB_val gR oR m cR n cA i jm z aB 33) x w := by
 (obtain ⟨hF, hk, x0, x1, x2, x3, cm, hB, hdef, u1, u5, u6⟩ := H; have ho : dkd7_ops[33]? = some dkd7_o33 := rfl; simp only [Array.getD_eq_getD_getElem?] at u1 u5 u6)
 have q21 : Array.getD (Act.tmps x) 44 undef = .bool true := p21
 have q32 : Array.getD (Act.tmps x) 55 undef = .bool false := p32
 have q16 : Array.getD (Act.tmps x) 39 undef = .bool false := p16
 simp only [Array.getD_eq_getD_getElem?] at q21 q32 q16
 (have e16 : (dkd7_ops[16]?.bind fun x => x.dst) = some 39 := rfl; have g16 := get_someT q16 (fun h => by cases h))
 (refine wpOpIn_stepT hF ho (fun K hK => ?_); clear ho; rw [Oper.semAt_plain Fc _ _ (by intro c h; cases h)]; simp only [dkd7_o33]; go_simp)
 exact hK _ _ ⟨_, act_putD x hdef _ _, rfl, Below.refl _ _⟩
theorem dkdB_s34 (H : dkdB_H Fc gR oR m cR n cA i jm z aB df w0 x w) (p16 : dkdB_val gR oR m cR n cA i jm z aB 16 (x.tmps.getD 39 undef) w) (p33 : dkdB_val gR oR m cR n cA i jm z aB 33 (x.tmps.getD 56 undef) w) : Stp Fc nC Tryz.prog dkd7_ops Q 34 57 (dkdB_val gR oR m cR n cA i jm z aB 34) x w := by
 (obtain ⟨hF, hk, x0, x1, x2, x3, cm, hB, hdef, u1, u5, u6⟩ := H; have ho : dkd7_ops[34]? = some dkd7_o34 := rfl; simp only [Array.getD_eq_getD_getElem?] at u1 u5 u6)
 have q16 : Array.getD (Act.tmps x) 39 undef = .bool false := p16
 have q33 : Array.getD (Act.tmps x) 56 undef = .bool false := p33
 simp only [Array.getD_eq_getD_getElem?] at q16 q33
 (refine wpOpIn_plain ho rfl (oper_inK hF.fn (fun K hK => ?_)); clear ho; rw [Oper.semAt_plain Fc _ _ (by intro c h; cases h)]; simp only [dkd7_o34]; go_simp)
 exact hK _ _ ⟨_, act_putD x hdef _ _, rfl, Below.refl _ _⟩
end
section
theorem dkdB {Fc : Fence} (hF : Wide Fc) {nC : Nat} (gR oR m cR n cA i jm z : Nat) (aB : Option Addr) (Q : Exit → Act → World → Prop) (t0 : Array Value) (df : List Deferred) (w0 : World) (ht : t0.size = 58)
  (hs1 : t0.getD 1 undef = .slice aB n cA) (hs5 : t0.getD 5 undef = .slice (some ⟨gR, oR, none⟩) m cR) (hs6 : t0.getD 6 undef = .int .i64 (i : Nat))
  (hk : Hid (i = n + jm ∧ i < m ∧ m ≤ 20000)) (x0 : w0.cell? ⟨gR, oR + i * 4, none⟩ = some (.string ⟨#[]⟩)) (x1 : w0.cell? ⟨gR, oR + i * 4 + 1, none⟩ = some (.string ⟨#[]⟩)) (x2 : w0.cell? ⟨gR, oR + i * 4 + 2, none⟩ = some (.int .u32 0)) (x3 : w0.cell? ⟨gR, oR + i * 4 + 3, none⟩ = some (.int .i64 (z : Nat))) (cm : ∀ W : World, Calls Tryz.prog 23 #[.int .i64 (1 : Nat), .int .i64 (jm : Nat)] W fun e w' => e = .returned (.agg #[.string ⟨#[]⟩, .string ⟨#[]⟩, .int .u32 0, .int .i64 (z : Nat)]) ∧ Below W.heap.size W w')
  (hQ : ∀ (vs : Nat → Value) (w : World), Below w0.heap.size w0 w → (vs 57 = .bool false) → Q .normal { tmps := [23, 24, 25, 26, 27, 28, 29, 30, 31, 32, 33, 34, 35, 36, 37, 38, 39, 40, 41, 42, 43, 44, 45, 46, 47, 48, 49, 50, 51, 52, 53, 54, 55, 56, 57].foldl (fun y d => y.setIfInBounds d (vs d)) t0, defers := df } w) :
  (Code.region 7 dkd7_ops true).wpIn Fc nC Tryz.prog Q { tmps := t0, defers := df } w0 := by
 refine wpIn_region_tail 35 (by decide) (by kernel_rfl) (fun a b => Below a.heap.size a b) (dkdB_val gR oR m cR n cA i jm z aB) t0 df w0 (by rw [ht]; kernel_rfl) (by kernel_rfl) (by kernel_rfl) (by kernel_rfl) ((Below.refl _ _).drew) (fun _ _ _ h k => h.trans (k.mono h.size)) (dkdB_below gR oR m cR n cA i jm z aB) ?_ ?_
 ·intro j o ho hj x w hB hdef hsz hs hdeps
  have hs' : ∀ s, ¬ dkd7_mem s → x.tmps.getD s undef = t0.getD s undef := fun s hn => hs s (fun j hj e => hn (by rw [e]; exact dkd7_slots j hj))
  have u1 := (hs' 1 (by decide)).trans hs1
  have u5 := (hs' 5 (by decide)).trans hs5
  have u6 := (hs' 6 (by decide)).trans hs6
  have H : dkdB_H Fc gR oR m cR n cA i jm z aB df w0 x w := ⟨hF, hk, x0, x1, x2, x3, cm, hB, hdef, u1, u5, u6⟩
  match j, ho, hj with
  | 0, ho, _ =>
    (have e : o = dkd7_o0 := (Option.some.inj ho).symm; subst e)
    exact dkdB_s0 H 
  | 1, ho, _ =>
    (have e : o = dkd7_o1 := (Option.some.inj ho).symm; subst e)
    exact dkdB_s1 H 
  | 2, ho, _ =>
    (have e : o = dkd7_o2 := (Option.some.inj ho).symm; subst e)
    exact dkdB_s2 H (hdeps ⟨1, .data⟩ (by simp) rfl)
  | 3, ho, _ =>
    (have e : o = dkd7_o3 := (Option.some.inj ho).symm; subst e)
    exact dkdB_s3 H (hdeps ⟨0, .data⟩ (by simp) rfl) (hdeps ⟨2, .data⟩ (by simp) rfl)
  | 4, ho, _ =>
    (have e : o = dkd7_o4 := (Option.some.inj ho).symm; subst e)
    exact dkdB_s4 H (hdeps ⟨3, .data⟩ (by simp) rfl)
  | 5, ho, _ =>
    (have e : o = dkd7_o5 := (Option.some.inj ho).symm; subst e)
    exact dkdB_s5 H (hdeps ⟨4, .guard⟩ (by simp) rfl)
  | 6, ho, _ =>
    (have e : o = dkd7_o6 := (Option.some.inj ho).symm; subst e)
    exact dkdB_s6 H (hdeps ⟨4, .guard⟩ (by simp) rfl)
  | 7, ho, _ =>
    (have e : o = dkd7_o7 := (Option.some.inj ho).symm; subst e)
    exact dkdB_s7 H (hdeps ⟨5, .data⟩ (by simp) rfl) (hdeps ⟨6, .data⟩ (by simp) rfl) (hdeps ⟨4, .guard⟩ (by simp) rfl)
  | 8, ho, _ =>
    (have e : o = dkd7_o8 := (Option.some.inj ho).symm; subst e)
    exact dkdB_s8 H (hdeps ⟨7, .data⟩ (by simp) rfl) (hdeps ⟨4, .guard⟩ (by simp) rfl)
  | 9, ho, _ =>
    (have e : o = dkd7_o9 := (Option.some.inj ho).symm; subst e)
    exact dkdB_s9 H (hdeps ⟨4, .guard⟩ (by simp) rfl)
  | 10, ho, _ =>
    (have e : o = dkd7_o10 := (Option.some.inj ho).symm; subst e)
    exact dkdB_s10 H (hdeps ⟨4, .guard⟩ (by simp) rfl)
  | 11, ho, _ =>
    (have e : o = dkd7_o11 := (Option.some.inj ho).symm; subst e)
    exact dkdB_s11 H (hdeps ⟨9, .data⟩ (by simp) rfl) (hdeps ⟨10, .data⟩ (by simp) rfl) (hdeps ⟨4, .guard⟩ (by simp) rfl)
  | 12, ho, _ =>
    (have e : o = dkd7_o12 := (Option.some.inj ho).symm; subst e)
    exact dkdB_s12 H (hdeps ⟨11, .data⟩ (by simp) rfl) (hdeps ⟨4, .guard⟩ (by simp) rfl)
  | 13, ho, _ =>
    (have e : o = dkd7_o13 := (Option.some.inj ho).symm; subst e)
    exact dkdB_s13 H (hdeps ⟨8, .data⟩ (by simp) rfl) (hdeps ⟨12, .data⟩ (by simp) rfl) (hdeps ⟨4, .guard⟩ (by simp) rfl)
  | 14, ho, _ =>
    (have e : o = dkd7_o14 := (Option.some.inj ho).symm; subst e)
    exact dkdB_s14 H (hdeps ⟨13, .data⟩ (by simp) rfl) (hdeps ⟨4, .guard⟩ (by simp) rfl)
  | 15, ho, _ =>
    (have e : o = dkd7_o15 := (Option.some.inj ho).symm; subst e)
    exact dkdB_s15 H (hdeps ⟨4, .data⟩ (by simp) rfl) (hdeps ⟨14, .data⟩ (by simp) rfl)
  | 16, ho, _ =>
    (have e : o = dkd7_o16 := (Option.some.inj ho).symm; subst e)
    exact dkdB_s16 H (hdeps ⟨15, .data⟩ (by simp) rfl)
  | 17, ho, _ =>
    (have e : o = dkd7_o17 := (Option.some.inj ho).symm; subst e)
    exact dkdB_s17 H (hdeps ⟨16, .guard⟩ (by simp) rfl)
  | 18, ho, _ =>
    (have e : o = dkd7_o18 := (Option.some.inj ho).symm; subst e)
    exact dkdB_s18 H (hdeps ⟨16, .guard⟩ (by simp) rfl)
  | 19, ho, _ =>
    (have e : o = dkd7_o19 := (Option.some.inj ho).symm; subst e)
    exact dkdB_s19 H (hdeps ⟨18, .data⟩ (by simp) rfl) (hdeps ⟨16, .guard⟩ (by simp) rfl)
  | 20, ho, _ =>
    (have e : o = dkd7_o20 := (Option.some.inj ho).symm; subst e)
    exact dkdB_s20 H (hdeps ⟨17, .data⟩ (by simp) rfl) (hdeps ⟨19, .data⟩ (by simp) rfl) (hdeps ⟨16, .guard⟩ (by simp) rfl)
  | 21, ho, _ =>
    (have e : o = dkd7_o21 := (Option.some.inj ho).symm; subst e)
    exact dkdB_s21 H (hdeps ⟨20, .data⟩ (by simp) rfl) (hdeps ⟨16, .guard⟩ (by simp) rfl)
  | 22, ho, _ =>
    (have e : o = dkd7_o22 := (Option.some.inj ho).symm; subst e)
    exact dkdB_s22 H (hdeps ⟨21, .guard⟩ (by simp) rfl)
  | 23, ho, _ =>
    (have e : o = dkd7_o23 := (Option.some.inj ho).symm; subst e)
    exact dkdB_s23 H (hdeps ⟨21, .guard⟩ (by simp) rfl)
  | 24, ho, _ =>
    (have e : o = dkd7_o24 := (Option.some.inj ho).symm; subst e)
    exact dkdB_s24 H (hdeps ⟨22, .data⟩ (by simp) rfl) (hdeps ⟨23, .data⟩ (by simp) rfl) (hdeps ⟨21, .guard⟩ (by simp) rfl)
  | 25, ho, _ =>
    (have e : o = dkd7_o25 := (Option.some.inj ho).symm; subst e)
    exact dkdB_s25 H (hdeps ⟨24, .data⟩ (by simp) rfl) (hdeps ⟨21, .guard⟩ (by simp) rfl)
  | 26, ho, _ =>
    (have e : o = dkd7_o26 := (Option.some.inj ho).symm; subst e)
    exact dkdB_s26 H (hdeps ⟨21, .guard⟩ (by simp) rfl)
  | 27, ho, _ =>
    (have e : o = dkd7_o27 := (Option.some.inj ho).symm; subst e)
    exact dkdB_s27 H (hdeps ⟨21, .guard⟩ (by simp) rfl)
  | 28, ho, _ =>
    (have e : o = dkd7_o28 := (Option.some.inj ho).symm; subst e)
    exact dkdB_s28 H (hdeps ⟨27, .data⟩ (by simp) rfl) (hdeps ⟨21, .guard⟩ (by simp) rfl)
  | 29, ho, _ =>
    (have e : o = dkd7_o29 := (Option.some.inj ho).symm; subst e)
    exact dkdB_s29 H (hdeps ⟨26, .data⟩ (by simp) rfl) (hdeps ⟨28, .data⟩ (by simp) rfl) (hdeps ⟨21, .guard⟩ (by simp) rfl)
  | 30, ho, _ =>
    (have e : o = dkd7_o30 := (Option.some.inj ho).symm; subst e)
    exact dkdB_s30 H (hdeps ⟨29, .data⟩ (by simp) rfl) (hdeps ⟨21, .guard⟩ (by simp) rfl)
  | 31, ho, _ =>
    (have e : o = dkd7_o31 := (Option.some.inj ho).symm; subst e)
    exact dkdB_s31 H (hdeps ⟨25, .data⟩ (by simp) rfl) (hdeps ⟨30, .data⟩ (by simp) rfl) (hdeps ⟨21, .guard⟩ (by simp) rfl)
  | 32, ho, _ =>
    (have e : o = dkd7_o32 := (Option.some.inj ho).symm; subst e)
    exact dkdB_s32 H (hdeps ⟨31, .data⟩ (by simp) rfl) (hdeps ⟨21, .guard⟩ (by simp) rfl)
  | 33, ho, _ =>
    (have e : o = dkd7_o33 := (Option.some.inj ho).symm; subst e)
    exact dkdB_s33 H (hdeps ⟨21, .data⟩ (by simp) rfl) (hdeps ⟨32, .data⟩ (by simp) rfl) (hdeps ⟨16, .guard⟩ (by simp) rfl)
  | 34, ho, _ =>
    (have e : o = dkd7_o34 := (Option.some.inj ho).symm; subst e)
    exact dkdB_s34 H (hdeps ⟨16, .data⟩ (by simp) rfl) (hdeps ⟨33, .data⟩ (by simp) rfl)
  | k + 35, _, hj => omega
 ·intro x w hB hdef hsz hs hv
  have hx := frame_sets x.tmps t0 hsz [23, 24, 25, 26, 27, 28, 29, 30, 31, 32, 33, 34, 35, 36, 37, 38, 39, 40, 41, 42, 43, 44, 45, 46, 47, 48, 49, 50, 51, 52, 53, 54, 55, 56, 57] (fun s hn => hs s (fun j hj e => hn (by rw [e]; exact dkd7_slots j hj)))
  have hq := hQ (fun d => x.tmps.getD d undef) w hB (hv 34 (by decide))
  obtain ⟨T, Df⟩ := x
  dsimp only at hx hdef hq
  subst hdef
  rw [← hx] at hq
  exact hq
end
open Go.RowKit Go.Shelf
def cntD (f : Nat → DT) : Nat → Nat
 | 0 => 0
 | k + 1 => cntD f k + 1 + (f k).P.length + (f k).L.length
theorem cntD_le (f : Nat → DT) : ∀ n, n ≤ cntD f n ∧ ∀ i, i < n → (f i).P.length ≤ cntD f n ∧ (f i).L.length ≤ cntD f n
 | 0 => ⟨Nat.le_refl _, fun i h => by omega⟩
 | n + 1 => by
   obtain ⟨h1, h2⟩ := cntD_le f n
   have e : cntD f (n + 1) = cntD f n + 1 + (f n).P.length + (f n).L.length := rfl
   refine ⟨by omega, fun i hi => ?_⟩
   rcases Nat.lt_or_ge i n with h | h
   ·have := h2 i h; omega
   ·obtain rfl : i = n := by omega
    omega
theorem docsOf_any (a : Option Addr) (n ca : Nat) (f : Nat → DT) (w : World) (hn : n ≤ 140737488351232) (ha : RowK w a 4 n (fun i => cellD (f i))) (hl : ∀ i, i < n → (f i).P.length ≤ 140737488351232 ∧ (f i).L.length ≤ 140737488351232) :
  Calls Tryz.prog 5 #[.slice a n ca, .int .i64 4000] w fun e w' => (∃ r : Nat, e = .returned (.int .i64 (r : Nat)) ∧ r ≤ 300000000000000 ∧ (r ≤ 4000 → cntD f n = r)) ∧ Below w.heap.size w w' := by
 have HA := hide ha
 have HL := hide hl
 clear ha hl
 go_enter Tryz.func5, Tryz.ntmps5
 go_wp2_with fail
 go_loopg [5, 6] n (fun q s5 s6 wr => ∃ k c : Nat, k + q = n ∧ s6 = .int .i64 k ∧ s5 = .int .i64 c ∧ (cntD f k = c ∧ c ≤ 300000000000000) ∧ Below w.heap.size w wr)
 case atStart => exact ⟨0, 0, by omega, rfl, rfl, ⟨rfl, by omega⟩, Below.refl _ _⟩
 case round =>
  obtain ⟨k, c, hkq, rfl, rfl, hc, hB⟩ := hrel
  have HC := hide (And.intro hc hB)
  clear hc
  cases gk with
  | zero =>
    obtain rfl : k = n := by omega
    clear hB
    go_wp2_with fail
    go_ret
    exact ⟨⟨c, rfl, HC.out.1.2, fun _ => HC.out.1.1⟩, HC.out.2⟩
  | succ q =>
    have hkn : k < n := by omega
    have hkz : (k : Int) < (n : Int) := by omega
    by_cases hm : c ≤ 4000
    ·have hmz : (c : Int) ≤ 4000 := by omega
     obtain ⟨ga, oa, rfl, x0, x1, _, _⟩ := (HA.out.below hB).at4 hkn
     have hll := hide (HL.out k hkn)
     have HS := hide (show cntD f (k + 1) = c + 1 + (f k).P.length + (f k).L.length by show cntD f k + 1 + _ + _ = _; rw [HC.out.1.1])
     have HM := hide hm
     clear hB
     go_wp2_with fail
     refine (wpIn_wide (n := 0)).1 (ddo5 wide_plain ga oa n ca k c (f k).P (f k).L _ _ _ _ rfl rfl rfl rfl hkn hm hll.out.1 hll.out.2 x0 x1 ?_)
     intro vs W5 hb5 h33
     simp only [List.foldl_cons, List.foldl_nil, List.setIfInBounds_toArray, List.set_cons_succ, List.set_cons_zero]
     rw [h33]
     have H5 := hide (HC.out.2.trans (hb5.mono HC.out.2.size))
     clear h33 hb5 x0 x1 hm
     refine wpOpIn_plain (o := ddo5_ops[16]) rfl rfl (oper_inK (fun _ => trivial) (fun K hK => ?_))
     rw [Oper.semAt_plain Fence.wide _ _ (by intro c h; cases h)]
     simp only [ddo5_ops, ddo5_o16]
     go_simp
     refine hK _ _ ?_
     clear hK K
     go_wp2_with fail
     go_roundg q
     case measure => omega
     case rel => exact ⟨k + 1, c + 1 + (f k).P.length + (f k).L.length, by omega, by go_num, by congr 1, ⟨HS.out, by have := hll.out; have := HM.out; omega⟩, H5.out⟩
    ·have hmz : (4000 : Int) < (c : Int) := by omega
     clear hB
     go_wp2_with fail
     go_ret
     exact ⟨⟨c, rfl, HC.out.1.2, fun h => by omega⟩, HC.out.2⟩
theorem keptDocs_any (R : Nat) (a : Option Addr) (n ca : Nat) (ds : List DT) (w : World) (hlen : ds.length = n) (hn : n ≤ 10000) (ha : Docs w a ds) (hQ : LentD w R ds) :
  Calls Tryz.prog 16 #[.slice (some ⟨R, 0, none⟩) n (n + 12), .slice a n ca] w fun e w' => e = .returned (.bool true) ∧ Below w.heap.size w w' := by
 have hn0 : (0 : Int) ≤ (n : Int) := by omega
 have hn1 : (n : Int) ≤ 10000 := by omega
 have HA := hide ha
 have HQ := hide hQ
 have HN := hide hlen
 clear ha hQ hlen
 go_enter Tryz.func16, Tryz.ntmps16
 go_wp2
 go_loopg [6] (n + 12) (fun q s6 wr => ∃ k : Nat, k + q = n + 12 ∧ s6 = .int .i64 k ∧ Below w.heap.size w wr)
 case atStart => exact ⟨0, by omega, rfl, Below.refl _ _⟩
 case round =>
  obtain ⟨k, hkq, rfl, hbr⟩ := hrel
  have hk0 : (0 : Int) ≤ (k : Int) := by omega
  have HBR := hide hbr
  clear hbr
  cases gk with
  | zero =>
    have hkz : ¬ ((k : Int) < (n : Int) + 12) := by omega
    go_wp2
    go_ret
    exact ⟨rfl, HBR.out⟩
  | succ q =>
    have hkz : (k : Int) < (n : Int) + 12 := by omega
    have hQr := HQ.out.below HBR.out
    by_cases hkn : k < n
    ·have hkd : ds[k]? = some (dAt ds k) := by
      have h := HN.out
      simp [dAt, List.getD_eq_getElem?_getD, show k < ds.length by omega]
     obtain ⟨b, off, rfl, y0, y1, y2, y3⟩ := (HA.out.below HBR.out).cells hkd
     obtain ⟨b2, off2, e2, x0, x1, x2, x3⟩ := hQr.docs.cells hkd
     cases e2
     have HK : Hid (k < n ∧ k < n + 12 ∧ n + 12 ≤ 20000) := ⟨hkn, by omega, by omega⟩
     have HX := hide (And.intro x0 (And.intro x1 (And.intro x2 (And.intro x3 (And.intro y0 (And.intro y1 (And.intro y2 y3)))))))
     clear hQr hkn hkd x0 x1 x2 x3 y0 y1 y2 y3
     go_wp2
     refine (wpIn_wide (n := 0)).1 (dkdA wide_plain R 0 (n + 12) (n + 12) b off n ca k (dAt ds k) _ _ _ _ rfl rfl rfl rfl HK HX.out.1 HX.out.2.1 HX.out.2.2.1 HX.out.2.2.2.1 HX.out.2.2.2.2.1 HX.out.2.2.2.2.2.1 HX.out.2.2.2.2.2.2.1 HX.out.2.2.2.2.2.2.2 ?_)
     intro vs w2 hB2 h57
     simp only [List.foldl_cons, List.foldl_nil, List.setIfInBounds_toArray, List.set_cons_succ, List.set_cons_zero]
     rw [h57]
     have HB := hide (HBR.out.trans (hB2.mono HBR.out.size))
     clear HX hB2 h57
     go_wp2_with fail
     go_roundg q
     case measure => omega
     case rel => exact ⟨k + 1, by omega, by go_num, HB.out⟩
    ·obtain ⟨j, hj⟩ : ∃ j, k = n + j := ⟨k - n, by omega⟩
     have hm := hQr.mark (j := j) (by omega)
     rw [HN.out, ← hj, markD_cells] at hm
     have x0 : wr.cell? ⟨R, 0 + k * 4, none⟩ = some (.string ⟨#[]⟩) := by simpa using hm 0 _ rfl
     have x1 : wr.cell? ⟨R, 0 + k * 4 + 1, none⟩ = some (.string ⟨#[]⟩) := by simpa [Nat.add_assoc] using hm 1 _ rfl
     have x2 : wr.cell? ⟨R, 0 + k * 4 + 2, none⟩ = some (.int .u32 0) := by simpa [Nat.add_assoc] using hm 2 _ rfl
     have x3 : wr.cell? ⟨R, 0 + k * 4 + 3, none⟩ = some (.int .i64 (markV 1 j : Nat)) := by simpa [Nat.add_assoc] using hm 3 _ rfl
     have cm := fun W : World => markDoc_any j W (by omega)
     have HK : Hid (k = n + j ∧ k < n + 12 ∧ n + 12 ≤ 20000) := ⟨hj, by omega, by omega⟩
     have HX := hide (And.intro x0 (And.intro x1 (And.intro x2 (And.intro x3 cm))))
     clear hQr hm hkn hj x0 x1 x2 x3 cm
     go_wp2
     refine (wpIn_wide (n := 0)).1 (dkdB wide_plain R 0 (n + 12) (n + 12) n ca k j (markV 1 j) a _ _ _ _ rfl rfl rfl rfl HK HX.out.1 HX.out.2.1 HX.out.2.2.1 HX.out.2.2.2.1 HX.out.2.2.2.2 ?_)
     intro vs w2 hB2 h57
     simp only [List.foldl_cons, List.foldl_nil, List.setIfInBounds_toArray, List.set_cons_succ, List.set_cons_zero]
     rw [h57]
     have HB := hide (HBR.out.trans (hB2.mono HBR.out.size))
     clear HX hB2 h57
     go_wp2_with fail
     go_roundg q
     case measure => omega
     case rel => exact ⟨k + 1, by omega, by go_num, HB.out⟩
theorem findN_none (p : List UInt8) : ∀ (l : List (List UInt8)) (i : Nat), (∀ q ∈ l, q ≠ p) → findN p i l = -1
 | [], i, _ => rfl
 | q :: r, i, h => by
   unfold findN
   rw [if_neg (h q List.mem_cons_self)]
   exact findN_none p r (i + 1) (fun x hx => h x (List.mem_cons_of_mem _ hx))
theorem refFind_any (a : Option Addr) (n ca : Nat) (f : Nat → DT) (p : List UInt8) (w : World) (hn : n ≤ 140737488351232) (ha : RowK w a 4 n (fun i => cellD (f i))) :
  Calls Tryz.prog 14 #[.slice a n ca, by8 p] w fun e w' => e = .returned (.int .i64 (findN p 0 (pathsN (fun i => (f i).P) n))) ∧ w = w' := by
 have HA := hide ha
 clear ha
 unfold by8
 go_enter Tryz.func14, Tryz.ntmps14
 go_wp2_with fail
 go_loopg [5] n (fun q s5 wr => ∃ k : Nat, k + q = n ∧ s5 = .int .i64 k ∧ (∀ i, i < k → (f i).P ≠ p) ∧ wr = w)
 case atStart => exact ⟨0, by omega, rfl, fun i h => by omega, rfl⟩
 case round =>
  obtain ⟨k, hkq, rfl, hne, rfl⟩ := hrel
  have HN := hide hne
  clear hne
  cases gk with
  | zero =>
    obtain rfl : k = n := by omega
    go_wp2_with fail
    go_ret
    refine ⟨?_, rfl⟩
    rw [findN_none p _ 0 (fun q hq => by
     unfold pathsN at hq
     obtain ⟨i, hi, rfl⟩ := List.mem_map.1 hq
     exact HN.out i (List.mem_range.1 hi))]
    rfl
  | succ q =>
    have hkn : k < n := by omega
    have hkz : (k : Int) < (n : Int) := by omega
    obtain ⟨ga, oa, rfl, x0, _, _, _⟩ := HA.out.at4 hkn
    unfold by8 at x0
    by_cases he : (f k).P = p
    ·have hb : ((f k).P == p) = true := by rw [he]; exact beq_self_eq_true _
     have HE := hide he
     clear he
     go_wp2_with fail
     go_ret
     refine ⟨?_, rfl⟩
     rw [findN_at p (fun i => (f i).P) hkn (fun i hi => HN.out i hi) HE.out]
     rfl
    ·have hb : ((f k).P == p) = false := by simpa using he
     have HE := hide he
     clear he
     go_wp2_with fail
     go_roundg q
     case measure => omega
     case rel => exact ⟨k + 1, by omega, by go_num, fun i hi => by
      rcases Nat.lt_or_ge i k with h | h
      ·exact HN.out i h
      ·obtain rfl : i = k := by omega
       exact HE.out, rfl⟩
open Go.RowKit Go.Shelf
theorem refDocPut_bad (a : Option Addr) (len cap : Nat) (f : Nat → DT) (w : World) (hlen : len ≤ 140737488351232) (hrow : RowK w a 4 len (fun i => cellD (f i))) (hP : ∀ i, i < len → (f i).P.length ≤ 1000000) (hr : rightD (docsN f len) = false) :
  Calls Tryz.prog 9 #[.slice a len cap] w fun e w' => e = .returned (.tuple #[.slice none 0 0, .int .i64 2]) ∧ Below w.heap.size w w' := by
 have h1 := refRight_all a len cap f w hlen hrow hP
 rw [hr] at h1
 clear hr hrow hP
 go_enter Tryz.func9, Tryz.ntmps9
 go_wp2_with fail
 refine h1.mono ?_
 rintro e w2 ⟨rfl, hb2⟩
 have HB := hide hb2
 clear h1 hb2
 go_wp2_with fail
 go_ret2
 exact ⟨rfl, HB.out⟩
theorem refDocPut_ok (a : Option Addr) (len cap : Nat) (f : Nat → DT) (w : World) (hlen : len ≤ 140737488351232) (hrow : RowK w a 4 len (fun i => cellD (f i))) (hP : ∀ i, i < len → (f i).P.length ≤ 1000000) (hS : ∀ i, i < len → (f i).S < 4294967296) (hr : rightD (docsN f len) = true) :
  Calls Tryz.prog 9 #[.slice a len cap] w fun e w' => (∃ A C, e = .returned (.tuple #[.slice A (tableD (docsN f len)).length C, .int .i64 0]) ∧ BL w' A (tableD (docsN f len))) ∧ Below w.heap.size w w' := by
 have h1 := refRight_all a len cap f w hlen hrow hP
 rw [hr] at h1
 have HF := hide hrow
 obtain ⟨hok, h4⟩ := rightD_ok hr (fun d hd => by obtain ⟨i, hi, rfl⟩ := List.mem_map.1 hd; exact hS i (List.mem_range.1 hi))
 rw [docsN_length] at h4
 have HH := hide (show ∀ i, i < len → okD (f i) from fun i hi => hok _ (List.mem_map.2 ⟨i, List.mem_range.2 hi, rfl⟩))
 clear hr hP hS hok hrow
 go_enter Tryz.func9, Tryz.ntmps9
 go_wp2_with fail
 refine h1.mono ?_
 rintro e w2 ⟨rfl, hb2⟩
 have HB := hide hb2
 have hso := RSolo.fresh w2 w2.heap.size rfl
 obtain ⟨w3, hw3⟩ : ∃ w3, w2.alloc (.cells #[.slice none 0 0, .bool false] 59) = w3 := ⟨_, rfl⟩
 rw [hw3] at hso
 have HB3 := hide (show Below w2.heap.size w2 w3 by rw [← hw3]; exact below_alloc _ _)
 have HW := hide hw3
 have hnum := rsolo_num (len : Int) hso (wf64 (by omega) (by omega)) (by omega)
 clear h1 hb2 hw3
 go_wp2_with fail
 rw [HW.out]
 refine hnum.mono ?_
 rintro e w4 ⟨rfl, hso4, hb4⟩
 rw [putNum_some [] (len : Int) (by omega) (by unfold maxNum; omega)] at hso4
 have HB4 := hide (HB3.out.trans hb4)
 clear hso hb4 hnum
 go_wp2_with fail
 go_loopg [5] len (fun q s5 wr => ∃ k : Nat, k + q = len ∧ s5 = .int .i64 k ∧ RSolo w2.heap.size w2.heap.size (some (encN len ++ bodyD (docsN f k))) (6 + 222 * k) wr ∧ Below w2.heap.size w2 wr)
 case atStart => exact ⟨0, by omega, rfl, by simpa [docsN, bodyD] using hso4, HB4.out⟩
 case round =>
  clear hso4
  obtain ⟨k, hkq, rfl, hso, hB2⟩ := hrel
  have HB2 := hide hB2
  cases gk with
  | zero =>
    obtain rfl : k = len := by omega
    obtain ⟨A, C, c0, hbl, _, _, _, _⟩ := hso.bytes
    have HO := hide hbl
    clear hso hB2 hbl
    obtain ⟨m, hm⟩ : ∃ m, (encN k ++ bodyD (docsN f k)).length = m := ⟨_, rfl⟩
    rw [hm] at c0
    have HM := hide hm
    clear hm
    go_wp2_with fail
    go_ret2
    have e1 : encN k ++ bodyD (docsN f k) = tableD (docsN f k) := by unfold tableD; rw [docsN_length]
    refine ⟨⟨A, C, ?_, by rw [← e1]; exact HO.out⟩, HB.out.trans (HB2.out.mono HB.out.size)⟩
    rw [← e1, HM.out]
    rfl
  | succ q =>
    have hkl : k < len := by omega
    have hk1 : (k : Int) < (len : Int) := by omega
    have hokk := HH.out k hkl
    obtain ⟨b, off, rfl, q0, q1, q2, q3⟩ := (HF.out.below (HB.out.trans (hB2.mono HB.out.size))).at4 hkl
    obtain ⟨w5, cp, hcv, hb5, hs5, hL5, hc5, hm5⟩ := text_bytes wr (f k).P
    have hL : BL w5 (some ⟨wr.heap.size, 0, none⟩) (nb (f k).P) := hL5
    have htx := rsolo_text (some ⟨wr.heap.size, 0, none⟩) cp (nb (f k).P) hso hb5 (fun g off s e _ => by cases e; omega) (by rw [nb_length]; exact hc5) (fun e => by cases e) (by rw [nb_length]; have := hokk.1; omega) hL
    rw [putText_some _ _ (by rw [nb_length]; have := hokk.1; unfold maxNum; omega), nb_length] at htx
    have HN := hide (And.intro q2 (And.intro q3 (And.intro hb5 hokk)))
    clear hL5 hL hb5 hc5 hm5 hso hB2 q2 q3 hs5 hokk
    unfold by8 at q0
    go_wp2_with fail
    refine htx.mono ?_
    rintro e w6 ⟨rfl, hso6, hb6⟩
    have hb26 : Below w2.heap.size wr w6 := hb6
    have HB6 := hide (HB2.out.trans hb26)
    have hrow6 := (HF.out.below (HB.out.trans (HB6.out.mono HB.out.size))).at4 hkl
    obtain ⟨b', off', e', _, _, m2, m3⟩ := hrow6
    cases e'
    have hfx := rsolo_fix (f k).S hso6 HN.out.2.2.2.2.2.1 (by have := HN.out.2.2.2.1; omega)
    clear htx hso6 hb6 hb26 q0 q1 m3
    go_wp2_with fail
    refine hfx.mono ?_
    rintro e w7 ⟨rfl, hso7, hb7⟩
    have HB7 := hide (HB6.out.trans hb7)
    obtain ⟨b', off', e', _, _, _, m3⟩ := (HF.out.below (HB.out.trans (HB7.out.mono HB.out.size))).at4 hkl
    cases e'
    have hz0 := HN.out.2.2.2.2.2.2
    have hnu := rsolo_num (f k).Z hso7 (wf64 (by omega) (by omega)) (by have := HN.out.2.2.2.1; omega)
    rw [show putRaw (some (encN len ++ bodyD (docsN f k) ++ (encN (f k).P.length ++ nb (f k).P))) (fixB (f k).S) = some (encN len ++ bodyD (docsN f k) ++ (encN (f k).P.length ++ nb (f k).P) ++ fixB (f k).S) from rfl, putNum_some _ _ (by omega) (by unfold maxNum; omega)] at hnu
    clear hfx hso7 hb7 m2 hz0
    go_wp2_with fail
    refine hnu.mono ?_
    rintro e w8 ⟨rfl, hso8, hb8⟩
    have HB8 := hide (HB7.out.trans hb8)
    have HS8 := hide hso8
    clear hnu hso8 hb8 m3
    go_wp2_with fail
    go_roundg q
    case measure => omega
    case rel =>
     refine ⟨k + 1, by omega, by go_num, ?_, HB8.out⟩
     have h := HS8.out
     have e1 : encN len ++ bodyD (docsN f k) ++ (encN (f k).P.length ++ nb (f k).P) ++ fixB (f k).S ++ encN (f k).Z.toNat = encN len ++ bodyD (docsN f (k + 1)) := by
      rw [docsN_succ, bodyD_snoc]
      simp [encD]
     rw [e1] at h
     exact h.mono (by have := HN.out.2.2.2.1; omega)
open Go.RowKit Go.Shelf
def putB (ds : List DT) : List Nat := if rightD ds then tableD ds else []
def putE (ds : List DT) : Int := if rightD ds then 0 else 2
theorem putB_lt (ds : List DT) : ∀ b ∈ putB ds, b < 256 := by
 unfold putB
 split
 ·exact tableD_lt ds
 ·intro b hb; cases hb
theorem putB_len {ds : List DT} (hS : ∀ d ∈ ds, d.S < 4294967296) : (putB ds).length ≤ 1000000 := by
 unfold putB
 cases hr : rightD ds with
 | false => simp
 | true =>
   obtain ⟨h1, h2⟩ := rightD_ok hr hS
   have h3 := bodyD_len ds h1
   have h4 := encN_len6 (n := ds.length) (by unfold maxNum; omega)
   simp only [if_true, tableD, List.length_append]
   omega
theorem docPut_all (a : Option Addr) (cap : Nat) (ds : List DT) (w : World) (hlen : ds.length ≤ 140737488351232) (hD : Docs w a ds) (hP : ∀ d ∈ ds, d.P.length ≤ 1000000) (hS : ∀ d ∈ ds, d.S < 4294967296) :
  Calls Tryz.prog 8 #[.slice a ds.length cap] w fun e w' => (∃ A C, e = .returned (.tuple #[.slice A (putB ds).length C, .int .i64 (putE ds)]) ∧ w'.ownsRow w.heap.size 5 1 (.slice A (putB ds).length C) (putB ds).length (lc (putB ds))) ∧ Below w.heap.size w w' := by
 cases hr : rightD ds with
 | false =>
   have e1 : putB ds = [] := by unfold putB; rw [hr]; rfl
   have e2 : putE ds = 2 := by unfold putE; rw [hr]; rfl
   rw [e1, e2]
   exact (docPut_bad a cap ds w (by omega) hD hP hS hr).mono fun e w' ⟨he, hb⟩ => ⟨⟨none, 0, he, World.ownsRow_nil _ _ _ _⟩, hb⟩
 | true =>
   have e1 : putB ds = tableD ds := by unfold putB; rw [hr]; rfl
   have e2 : putE ds = 0 := by unfold putE; rw [hr]; rfl
   rw [e1, e2]
   refine (docPut_ok a cap ds w (by omega) hD hP hS hr).mono fun e w' ⟨⟨v, he, ho⟩, hb⟩ => ?_
   obtain ⟨_, A, C, rfl, _⟩ := owns_bl ho (tableD_lt ds)
   exact ⟨⟨A, C, he, ho⟩, hb⟩
theorem refPut_all (a : Option Addr) (cap : Nat) (ds : List DT) (w : World) (hlen : ds.length ≤ 140737488351232) (hD : Docs w a ds) (hP : ∀ d ∈ ds, d.P.length ≤ 1000000) (hS : ∀ d ∈ ds, d.S < 4294967296) :
  Calls Tryz.prog 9 #[.slice a ds.length cap] w fun e w' => (∃ A C, e = .returned (.tuple #[.slice A (putB ds).length C, .int .i64 (putE ds)]) ∧ BL w' A (putB ds)) ∧ Below w.heap.size w w' := by
 cases hr : rightD ds with
 | false =>
   have e1 : putB ds = [] := by unfold putB; rw [hr]; rfl
   have e2 : putE ds = 2 := by unfold putE; rw [hr]; rfl
   rw [e1, e2]
   exact (refDocPut_bad a ds.length cap (dAt ds) w hlen hD.row (fun i hi => hP _ (dAt_mem hi)) (by rw [docsN_at]; exact hr)).mono fun e w' ⟨he, hb⟩ => ⟨⟨none, 0, he, BL.mk (by simp) (.inl rfl)⟩, hb⟩
 | true =>
   have e1 : putB ds = tableD ds := by unfold putB; rw [hr]; rfl
   have e2 : putE ds = 0 := by unfold putE; rw [hr]; rfl
   rw [e1, e2]
   have h := refDocPut_ok a ds.length cap (dAt ds) w hlen hD.row (fun i hi => hP _ (dAt_mem hi)) (fun i hi => hS _ (dAt_mem hi)) (by rw [docsN_at]; exact hr)
   rwa [docsN_at] at h
theorem refRight_l (a : Option Addr) (cap : Nat) (ds : List DT) (w : World) (hlen : ds.length ≤ 140737488351232) (hD : Docs w a ds) (hP : ∀ d ∈ ds, d.P.length ≤ 1000000) :
  Calls Tryz.prog 11 #[.slice a ds.length cap] w fun e w' => e = .returned (.bool (rightD ds)) ∧ Below w.heap.size w w' := by
 have h := refRight_all a ds.length cap (dAt ds) w hlen hD.row (fun i hi => hP _ (dAt_mem hi))
 rwa [docsN_at] at h
theorem refFind_l (a : Option Addr) (cap : Nat) (ds : List DT) (p : List UInt8) (w : World) (hlen : ds.length ≤ 140737488351232) (hD : Docs w a ds) :
  Calls Tryz.prog 14 #[.slice a ds.length cap, by8 p] w fun e w' => e = .returned (.int .i64 (findN p 0 (ds.map DT.P))) ∧ w = w' := by
 have h := refFind_any a ds.length cap (dAt ds) p w hlen hD.row
 have e : pathsN (fun i => (dAt ds i).P) ds.length = ds.map DT.P := by
  conv => rhs; rw [← docsN_at ds]
  unfold pathsN docsN
  rw [List.map_map]
  rfl
 rwa [e] at h
def Beh (w w3 w4 w6 : World) (wi : World) : Prop := Below w.heap.size w wi ∧ Below w3.heap.size w3 wi ∧ Below w4.heap.size w4 wi ∧ Below w6.heap.size w6 wi
theorem Beh.next {w w3 w4 w6 wi wj : World} (h : Beh w w3 w4 w6 wi) (hb : Below wi.heap.size wi wj) : Beh w w3 w4 w6 wj :=
 ⟨h.1.trans (hb.mono h.1.size), h.2.1.trans (hb.mono h.2.1.size), h.2.2.1.trans (hb.mono h.2.2.1.size), h.2.2.2.trans (hb.mono h.2.2.2.size)⟩
theorem docPuts_any (a : Option Addr) (n ca : Nat) (ds : List DT) (p : List UInt8) (w : World) (hlen : ds.length = n) (hn : n ≤ 140737488351232) (hlc : n ≤ ca) (hna : a = none → ca = 0) (hD : Docs w a ds) (hsz : ∀ d ∈ ds, d.P.length ≤ 140737488351232 ∧ d.L.length ≤ 140737488351232 ∧ d.S < 4294967296) (hp : p.length ≤ 140737488351232) :
  Calls Tryz.prog 3 #[.slice a n ca, by8 p] w fun e w' => e = .returned (.bool true) ∧ Below w.heap.size w w' := by
 have hcn := docsOf_any a n ca (dAt ds) w hn (by have := hD.row; rwa [hlen] at this) (fun i hi => ⟨(hsz _ (dAt_mem (by omega))).1, (hsz _ (dAt_mem (by omega))).2.1⟩)
 have HD := hide (And.intro hD (And.intro hsz hlen))
 clear hD hsz hlen
 have hbs : (⟨p.toArray⟩ : ByteArray).size = p.length := by simp [ByteArray.size]
 have HP8 := hide (show by8 p = .string ⟨p.toArray⟩ from rfl)
 rw [HP8.out]
 obtain ⟨s, hs⟩ : ∃ s : ByteArray, (⟨p.toArray⟩ : ByteArray) = s := ⟨_, rfl⟩
 rw [hs] at hbs ⊢
 have HPS := hide hs
 clear hs
 go_enter Tryz.func3, Tryz.ntmps3
 go_wp2_with fail
 refine hcn.mono ?_
 rintro e w2 ⟨⟨r, rfl, hr3, hr⟩, hb2⟩
 have HB2 := hide hb2
 clear hcn hb2
 have hlr : IntKind.i64.wrap ((r : Int) + (p.length : Nat)) = (r : Int) + (p.length : Nat) := IntWalk.i64_in _ (by omega)
 by_cases hbig : 4000 < r + p.length
 ·have hz : (4000 : Int) < (r : Int) + (p.length : Nat) := by omega
  clear hr
  go_wp2_with fail
  refine (awake22_any w2).mono ?_
  rintro e w3 ⟨rfl, hb3⟩
  have HB3 := hide (HB2.out.trans (hb3.mono HB2.out.size))
  clear hb3
  go_wp2_with fail
  go_ret
  exact ⟨rfl, HB3.out⟩
 have hc := hr (by omega)
 have hz : (r : Int) + (p.length : Nat) ≤ 4000 := by omega
 clear hr
 obtain ⟨hcl, hci⟩ := cntD_le (dAt ds) n
 have hP : ∀ d ∈ ds, d.P.length ≤ 1000000 := fun d hd => by
  obtain ⟨i, hi, rfl⟩ := List.mem_iff_getElem.1 hd
  have h1 := (hci i (by have := HD.out.2.2; omega)).1
  have e : dAt ds i = ds[i] := by simp [dAt, List.getD_eq_getElem?_getD, hi]
  rw [e] at h1
  omega
 have hn4 : n ≤ 4000 := by omega
 have HP := hide (And.intro hP (show ∀ d ∈ ds, d.S < 4294967296 from fun d hd => (HD.out.2.1 d hd).2.2))
 clear hcl hci hc hP
 have hln := lentDocs_any a n ca ds w2 HD.out.2.2 (by omega) hna hlc (HD.out.1.below HB2.out)
 go_wp2_with fail
 refine hln.mono ?_
 rintro e w3 ⟨rfl, hQ, hb3⟩
 obtain ⟨R, hR⟩ : ∃ R, w2.heap.size = R := ⟨_, rfl⟩
 rw [hR] at hQ ⊢
 have HB3 := hide (HB2.out.trans (hb3.mono HB2.out.size))
 have HQ := hide hQ
 have hpt := docPut_all (some ⟨R, 0, none⟩) (n + 12) ds w3 (by rw [HD.out.2.2]; omega) hQ.docs HP.out.1 HP.out.2
 rw [HD.out.2.2] at hpt
 obtain ⟨T, hT⟩ : ∃ T, putB ds = T := ⟨_, rfl⟩
 obtain ⟨er, her⟩ : ∃ er, putE ds = er := ⟨_, rfl⟩
 have hTl : T.length ≤ 1000000 := by rw [← hT]; exact putB_len HP.out.2
 have hTb : ∀ b ∈ T, b < 256 := by rw [← hT]; exact putB_lt ds
 rw [hT, her] at hpt
 have HT := hide (And.intro hT (And.intro her (And.intro hTl hTb)))
 clear hln hb3 hQ hR hT her hTl hTb
 obtain ⟨m, hm⟩ : ∃ m, T.length = m := ⟨_, rfl⟩
 have HM := hide hm
 rw [hm] at hpt
 clear hm
 go_wp2_with fail
 refine hpt.mono ?_
 rintro e w4 ⟨⟨A4, C4, rfl, ho4⟩, hb4⟩
 have HO4 := hide ho4
 have HB4 := hide (And.intro (HB3.out.trans (hb4.mono HB3.out.size)) hb4)
 have hrp := refPut_all a ca ds w4 (by rw [HD.out.2.2]; omega) (HD.out.1.below HB4.out.1) HP.out.1 HP.out.2
 rw [HD.out.2.2, HT.out.1, HT.out.2.1, HM.out] at hrp
 clear hpt hb4 ho4
 go_wp2_with fail
 refine hrp.mono ?_
 rintro e w5 ⟨⟨A5, C5, rfl, hbl5⟩, hb5⟩
 have HL5 := hide hbl5
 have HB5 := hide (And.intro (HB4.out.1.trans (hb5.mono HB4.out.1.size)) (And.intro (HB4.out.2.trans (hb5.mono HB4.out.2.size)) hb5))
 have hpt2 := docPut_all (some ⟨R, 0, none⟩) (n + 12) ds w5 (by rw [HD.out.2.2]; omega) (HQ.out.below HB5.out.2.1).docs HP.out.1 HP.out.2
 rw [HD.out.2.2, HT.out.1, HT.out.2.1, HM.out] at hpt2
 clear hrp hb5 hbl5
 go_wp2_with fail
 refine hpt2.mono ?_
 rintro e w6 ⟨⟨A6, C6, rfl, ho6⟩, hb6⟩
 have HO6 := hide ho6
 have HL6 := hide (HL5.out.below hb6)
 have HB6 := hide (show Beh w w3 w4 w6 w6 from ⟨HB5.out.1.trans (hb6.mono HB5.out.1.size), HB5.out.2.1.trans (hb6.mono HB5.out.2.1.size), HB5.out.2.2.trans (hb6.mono HB5.out.2.2.size), Below.refl _ _⟩)
 have HS5 := hide (show w3.heap.size ≤ w5.heap.size ∧ w4.heap.size ≤ w5.heap.size from ⟨HB5.out.2.1.size, HB5.out.2.2.size⟩)
 have hri := rightDocs_l (some ⟨R, 0, none⟩) (n + 12) ds w6 (by rw [HD.out.2.2]; omega) (HQ.out.below HB6.out.2.1).docs HP.out.1
 rw [HD.out.2.2] at hri
 obtain ⟨rb, hrb⟩ : ∃ rb, rightD ds = rb := ⟨_, rfl⟩
 rw [hrb] at hri
 have HRB := hide hrb
 clear hpt2 hb6 ho6 hrb
 go_wp2_with fail
 refine hri.mono ?_
 rintro e w7 ⟨rfl, hb7⟩
 have HB7 := hide (HB6.out.next hb7)
 have hrr := refRight_l a ca ds w7 (by rw [HD.out.2.2]; omega) (HD.out.1.below HB7.out.1) HP.out.1
 rw [HD.out.2.2, HRB.out] at hrr
 clear hri hb7
 go_wp2_with fail
 refine hrr.mono ?_
 rintro e w8 ⟨rfl, hb8⟩
 have HB8 := hide (HB7.out.next hb8)
 have hl4 : BL w8 A4 T := by
  have h := owns_thruS HO4.out HB8.out.2.2.1
  rw [← HM.out] at h
  obtain ⟨_, A', C', e, _, _, _, _, hbl, _⟩ := owns_bl h HT.out.2.2.2
  cases e
  exact hbl
 have hsb := sameBytes_any A4 A5 m C4 C5 T w8 HM.out (by have := HT.out.2.2.1; have := HM.out; omega) hl4 (HL6.out.below HB8.out.2.2.2)
 have hmm : m ≤ 1000000 := by have := HT.out.2.2.1; have := HM.out; omega
 clear hrr hb8 hl4
 go_wp2_with fail
 refine hsb.mono ?_
 rintro e w9 ⟨rfl, hb9⟩
 have HB9 := hide (HB8.out.next hb9)
 have hfi := find_l (some ⟨R, 0, none⟩) (n + 12) ds p w9 (by rw [HD.out.2.2]; omega) (HQ.out.below HB9.out.2.1).docs
 obtain ⟨fi, hfi2⟩ : ∃ fi, findN p 0 (ds.map DT.P) = fi := ⟨_, rfl⟩
 rw [HD.out.2.2, hfi2, HP8.out, HPS.out] at hfi
 have HFI := hide hfi2
 clear hsb hb9 hfi2
 go_wp2_with fail
 refine hfi.mono ?_
 rintro e w10 ⟨rfl, hb10⟩
 have HB10 := hide (HB9.out.next hb10)
 have hrf := refFind_l a ca ds p w10 (by rw [HD.out.2.2]; omega) (HD.out.1.below HB10.out.1)
 rw [HD.out.2.2, HFI.out, HP8.out, HPS.out] at hrf
 clear hfi hb10
 go_wp2_with fail
 refine hrf.mono ?_
 rintro e w11 ⟨rfl, rfl⟩
 obtain ⟨w12, hw12⟩ : ∃ w12, w10.alloc (.cells #[.slice A4 m C4, .slice A6 m C6] 26) = w12 := ⟨_, rfl⟩
 have hb12 : Below w10.heap.size w10 w12 := by rw [← hw12]; exact below_alloc _ _
 have hnw : w12.heap[w10.heap.size]? = some (.cells #[.slice A4 m C4, .slice A6 m C6] 26 (0, 0)) := by rw [← hw12]; exact heap_alloc_new _ _
 have HB12 := hide (HB10.out.next hb12)
 have ho4' := owns_thruS HO4.out HB12.out.2.2.1
 have ho6' := owns_thruS HO6.out HB12.out.2.2.2
 have hap := apart2 (w1 := w5) w10.heap.size hnw hmm hmm (owns_to0 ho4') ho6' (fun g hg => by
  have h1 := (owns_cells HO4.out g hg).1
  have h2 := HS5.out.2
  omega)
 have HW := hide hw12
 have HF := hide (show ∀ k, ((Value.slice A4 m C4).ownBlock = some k ∨ (Value.slice A6 m C6).ownBlock = some k) → w3.heap.size ≤ k from fun k hk => by
  rcases hk with hk | hk
  ·exact (owns_cells HO4.out k hk).2.1
  ·have h1 := (owns_cells HO6.out k hk).2.1
   have h2 := HS5.out.1
   omega)
 clear hrf hb12 hnw ho4' ho6' hw12
 go_wp2_with fail
 rw [HW.out]
 refine hap.mono ?_
 rintro e w13 ⟨rfl, hk13⟩
 have hb13 : Below w3.heap.size w12 w13 := hk13.below HF.out HB12.out.2.1.size
 have HB13 := hide (show Below w.heap.size w w13 ∧ Below w3.heap.size w3 w13 from ⟨HB12.out.1.trans (hb13.mono HB3.out.size), HB12.out.2.1.trans hb13⟩)
 have hkp := keptDocs_any R a n ca ds w13 HD.out.2.2 (by omega) (HD.out.1.below HB13.out.1) (HQ.out.below HB13.out.2)
 clear hap hk13 hb13
 go_wp2_with fail
 refine hkp.mono ?_
 rintro e w14 ⟨rfl, hb14⟩
 have HB14 := hide (HB13.out.1.trans (hb14.mono HB13.out.1.size))
 clear hkp hb14
 go_wp2_with fail
 refine (awake22_any w14).mono ?_
 rintro e w15 ⟨rfl, hb15⟩
 have HB15 := hide (HB14.out.trans (hb15.mono HB14.out.size))
 clear hb15
 go_wp2_with fail
 go_ret
 exact ⟨rfl, HB15.out⟩
end Go.Proofs.YtpmldopbjlnknaaGreat
