/-
  lang.All's walk.
-/
import Derived.Test.YtdjdlkobfmahpaaGreatDoorLRefs
import Derived.Test.YtdjdlkobfmahpaaGreatDoorLAllM
import Derived.Test.YtdjdlkobfmahpaaGreatDoorShelfB
import Derived.Test.YtdjdlkobfmahpaaGreatDoorAppendS
import Derived.Sort.OwnSorted
import Derived.Lib.OwnBridge
namespace Go.Proofs.YtdjdlkobfmahpaaGreatDoor
open Go.RowKit Go.Shelf

theorem info_str2 : (Tryz.prog.info? 9).map (fun i => (i.zero, i.size, i.bytes)) = some (some (.string ⟨#[]⟩), 1, 16) := by kernel_rfl
theorem range_run (w : World) (g : Nat) (h : MapL w g 22) : (Instr.range 51 (.map (some g))).run Tryz.prog w = .ok (.pointer (some ⟨w.heap.size, 0, none⟩)) (w.alloc (.mapIter (some g) 22 #[] 22)) := by
  have hb : w.heap[g]? = some (.map (entsFrom 0 (tabL.take 22)).toArray 22) := h
  simp [Instr.range, run_underlying Tryz.underlying51, MapKept.run_getObj_map hb, Result.andThen]

theorem owns_same {w w' : World} {B n size : Nat} {v : Value} {xs : List Value} {e : TypeId} (h : w.ownsRow B e size v n xs) (hs : ∀ k, B ≤ k → w'.heap[k]? = w.heap[k]?) : w'.ownsRow B e size v n xs := by
  obtain ⟨hl, ⟨hv, h0⟩ | ⟨g, cap, cur, hv, hB, hg, hr⟩⟩ := h
  · exact ⟨hl, .inl ⟨hv, h0⟩⟩
  · exact ⟨hl, .inr ⟨g, cap, cur, hv, hB, (hs g hB).trans hg, hr⟩⟩

set_option maxRecDepth 100000 in
set_option maxHeartbeats 2000000 in
theorem all_own (w : World) :
    Calls Tryz.prog 8 #[] w fun e w' => ∃ g C, e = .returned (.slice (some ⟨g, 0, none⟩) allL.length C) ∧ w.heap.size ≤ g ∧ (∀ j, j < allL.length → w'.cell? ⟨g, j, none⟩ = some (by8 (allL.getD j []))) ∧ Below w.heap.size w w' ∧ w'.ownsRow w.heap.size 9 1 (.slice (some ⟨g, 0, none⟩) allL.length C) allL.length (allL.map by8) := by
  obtain ⟨i0, hi, hq0, hq1, hq2⟩ := info_parts info_str2
  go_enter Tryz.func8, Tryz.ntmps8
  go_wp2_with fail
  refine (languages_any w).mono ?_
  rintro e w1 ⟨gm, rfl, hM, hb1⟩
  have hrg := range_run w1 gm hM
  obtain ⟨W1, hW1⟩ : ∃ W1, w1.alloc (.mapIter (some gm) 22 #[] 22) = W1 := ⟨_, rfl⟩
  rw [hW1] at hrg
  have hit : W1.heap[w1.heap.size]? = some (.mapIter (some gm) 22 #[] 22) := by rw [← hW1]; exact heap_alloc_new _ _
  have hB1 : Below w1.heap.size w1 W1 := by rw [← hW1]; exact below_alloc _ _
  have H1 := hide (And.intro hit (And.intro (hM.below hB1) (And.intro (hb1.trans (hB1.mono hb1.size)) hb1.size)))
  have hgl : gm < w1.heap.size := (Array.getElem?_eq_some_iff.1 hM).1
  have HG := hide hgl
  clear hit hB1 hM hb1 hW1 hgl
  go_wp2_with fail
  go_loopg [1, 3] ((leftOf (entsFrom 0 tabL).toArray #[]).size) (fun q s1 _ wr => ∃ (seen : Array Nat) (A : Option Addr) (C : Nat), q = (leftOf (entsFrom 0 tabL).toArray seen).size ∧ s1 = .slice A seen.size C ∧ wr.heap[w1.heap.size]? = some (.mapIter (some gm) 22 seen 22) ∧ MapL wr gm 22 ∧ seen.toList.Nodup ∧ (∀ b ∈ seen.toList, b < 22) ∧ wr.ownsRow W1.heap.size 9 1 (.slice A seen.size C) seen.size (seen.toList.map fun b => by8 (nameAt b)) ∧ Below w.heap.size w wr ∧ W1.heap.size ≤ wr.heap.size ∧ seen.size + q ≤ 22)
  case atStart => exact ⟨#[], none, 0, rfl, rfl, H1.out.1, H1.out.2.1, List.nodup_nil, (fun b hb => by cases hb), World.ownsRow_nil _ _ _ _, H1.out.2.2.1, Nat.le_refl _, by have := Array.size_filter_le (p := fun e : MapEntry => !(#[] : Array Nat).contains e.born) (xs := (entsFrom 0 tabL).toArray); exact Nat.le_trans (by simpa [leftOf] using this) (by decide +kernel)⟩
  case round =>
    obtain ⟨seen, A, C, hq, rfl, hr, hM, hnd, hl22, hown, hbr, hszr, h22⟩ := hrel
    have hM2 : wr.heap[gm]? = some (.map (entsFrom 0 tabL).toArray 22) := hM
    rcases run_next_at (P := Tryz.prog) wr 0 w1.heap.size gm 22 22 seen _ 22 hr hM2 ents_lt (Nat.le_refl _) with ⟨h0, hnx⟩ | ⟨e, he, wd, hwd, hnx⟩
    · have ha := left_none h0
      have hpos : 0 < seen.size := by
        rw [← Array.length_toList]
        exact List.length_pos_of_mem (ha 0 (by omega))
      have hsn := sort_names hnd hl22 ha
      obtain ⟨hlen, ⟨_, hz⟩ | ⟨g, cap, cur, hv, hBg, hg, hnc, hcm, hcs, htake⟩⟩ := hown
      · omega
      cases hv
      have hsl : (seen.toList.map nameAt).length = seen.size := by simp
      have hH := Go.holds_of_block (ss := seen.toList.map nameAt) hg (by rw [hsl, List.map_map]; rw [Nat.mul_one] at htake; exact htake)
      have hgs : g < wr.heap.size := (Array.getElem?_eq_some_iff.1 hg).1
      have hsort := Tryz.slices_Sort_string g 0 C (seen.toList.map nameAt) wr hH hgs (by rw [hsl]; omega)
      rw [hsl, hsn] at hsort
      have HG2 := hide (And.intro hg (And.intro hnc (And.intro hcm hcs)))
      have HB := hide hbr
      clear hg hnc hcm hcs htake hr hM hM2 hbr hH hnd hl22 ha hlen
      go_wp2_with fail
      refine hsort.mono ?_
      rintro e w2 ⟨rfl, ns, os, hw2⟩
      obtain ⟨T, hT⟩ : ∃ T, (tabL.map (·.2)) = T := ⟨_, rfl⟩
      have hTl : T.length = 22 := by rw [← hT]; rfl
      have hss : seen.size = 22 := by
        have := congrArg List.length hsn
        rw [List.length_mergeSort, hsl] at this
        exact this
      rw [hT] at hw2
      have how2 : w2.ownsRow W1.heap.size 9 1 (.slice (some ⟨g, 0, none⟩) 22 C) 22 (T.map by8) := by
        have h := Go.ownsRow_sorted (w := wr) (n := ns) (os := os) (ss := seen.toList.map nameAt) (ts := T) (by rw [hTl, hsl, hss]) hBg HG2.out.1 (by rw [hsl]; exact HG2.out.2.1) HG2.out.2.2.1 HG2.out.2.2.2
        rw [← hw2, hsl, hss] at h
        exact h
      have hb2 : Below w.heap.size w w2 := by
        rw [hw2]
        exact HB.out.grown (Go.grownBy_sorted T.toArray) HB.out.size (fun k e => by cases e; have := H1.out.2.2.1.size; omega)
      have how3 := hide how2
      obtain ⟨_, ⟨hv2, _⟩ | ⟨g2, cap2, cur2, hv2, _, hg2, hnc2, hcm2, hcs2, htake2⟩⟩ := how2
      · cases hv2
      cases hv2
      have hH2 := Go.holds_of_block (ss := T) hg2 (by rw [hTl]; exact htake2)
      have hcomp := Tryz.slices_Compact_string g 0 C T w2 hH2 (by omega) (by omega)
      rw [hTl] at hcomp
      have hcomp2 : Lib.compact T = allL := by rw [← hT]; rfl
      rw [hcomp2] at hcomp
      rw [hss]
      have HB2 := hide hb2
      have hgw := H1.out.2.2.1.size
      clear hw2 hH2 hg2 hnc2 hcm2 hcs2 htake2 hb2 hsort hsn hT hq h22
      go_wp2_with fail
      refine hcomp.mono ?_
      rintro e w3 ⟨rfl, q3, hw3⟩
      have hal : allL.length ≤ 22 := by decide +kernel
      have how4 := Go.Lib.ownsRow_putRow (enc := by8) (w := w2) (q := q3) (zs := T) (ys := allL ++ List.replicate (22 - allL.length) []) (k := allL.length) how3.out (by rw [List.length_append, List.length_replicate]; omega) hal
      rw [List.take_left] at how4
      have hb3 := Go.Lib.below_putRow (enc := by8) (q := q3) (g := g) (d := (allL ++ List.replicate (22 - allL.length) []).toArray) HB2.out (show w.heap.size ≤ g by omega)
      have hw3' : w3 = Go.Sort.putRow by8 (Go.Sort.ahead w2 q3) g 0 (allL ++ List.replicate (22 - allL.length) []).toArray := hw3
      rw [← hw3'] at how4 hb3
      have HO4 := hide how4
      have HB3 := hide hb3
      clear how4 hb3 hw3 hw3' hcomp
      go_wp2_with fail
      go_ret
      refine ⟨g, C, rfl, by omega, fun j hj => ?_, HB3.out, ⟨HO4.out.1, HO4.out.2.imp (fun h => h) (fun ⟨g, c, u, h1, h2, h3⟩ => ⟨g, c, u, h1, by omega, h3⟩)⟩⟩
      obtain ⟨g4, C4, hv4, hc4, _⟩ := owns_cell HO4.out (show (allL.map by8)[j]? = some (by8 (allL.getD j [])) by rw [List.getElem?_map, List.getElem?_eq_getElem hj, List.getD_eq_getElem?_getD, List.getElem?_eq_getElem hj]; rfl)
      cases hv4
      exact hc4
    · obtain ⟨W2, hW2⟩ : ∃ W2, Go.ChangeMaps.setBlock wd w1.heap.size (.mapIter (some gm) 22 (seen.push e.born) 22) = W2 := ⟨_, rfl⟩
      rw [hW2] at hnx
      have hrl : w1.heap.size < wr.heap.size := (Array.getElem?_eq_some_iff.1 hr).1
      have hall : W2.heap[w1.heap.size]? = some (.mapIter (some gm) 22 (seen.push e.born) 22) ∧ (∀ k, k ≠ w1.heap.size → W2.heap[k]? = wr.heap[k]?) ∧ W2.heap.size = wr.heap.size ∧ Below w1.heap.size wr W2 := by
        have hwh : wd.heap = wr.heap ∧ wd.os = wr.os ∧ wd.tape = wr.tape ∧ wd.output = wr.output := by rcases hwd with rfl | rfl <;> exact ⟨rfl, rfl, rfl, rfl⟩
        have hset : W2.heap = wr.heap.setIfInBounds w1.heap.size (.mapIter (some gm) 22 (seen.push e.born) 22) := by rw [← hW2]; show wd.heap.setIfInBounds _ _ = _; rw [hwh.1]
        have hs : ∀ k, k ≠ w1.heap.size → W2.heap[k]? = wr.heap[k]? := fun k hk => by rw [hset, Array.getElem?_setIfInBounds, if_neg (Ne.symm hk)]
        exact ⟨by rw [hset]; simp [hrl], hs, by rw [hset]; simp, by rw [← hW2]; exact hwh.2.1, by rw [← hW2]; exact hwh.2.2.1, by rw [← hW2]; exact hwh.2.2.2, by rw [hset]; simp, fun k hk => hs k (by omega)⟩
      obtain ⟨hr2, hsame, hsz2, hb2⟩ := hall
      obtain ⟨hem, heb, hen, hev⟩ := left_mem he
      have hls := left_less he
      have hM3 : W2.heap[gm]? = some (.map (entsFrom 0 tabL).toArray 22) := by rw [hsame gm (by have := HG.out; omega)]; exact hM2
      have hne := run_entry_at (P := Tryz.prog) W2 w1.heap.size gm 22 seen _ 22 e hr2 hM3 hem ents_nodup
      have hW1s : w1.heap.size < W1.heap.size := (Array.getElem?_eq_some_iff.1 H1.out.1).1
      have hown2 := owns_same hown (fun k hk => hsame k (by omega))
      have HB2 := hide (hbr.trans (hb2.mono H1.out.2.2.2))
      have HH := hide (And.intro hr2 (And.intro hM3 (And.intro heb (And.intro hen (And.intro hls hq)))))
      have HO := hide hown2
      have HS := hide (And.intro hnd (And.intro hl22 (And.intro hsz2 hszr)))
      clear hr2 hM3 heb hen hls hq hown hown2 hbr hnd hl22 hb2 hsame hr hM hM2 he hem hwd hW2 hszr
      rw [hev] at hne hnx
      generalize e.born = b at *
      generalize e.key = ek at *
      unfold by8 at hne hnx
      obtain ⟨nm, hnm⟩ : ∃ nm, nameAt b = nm := ⟨_, rfl⟩
      rw [hnm] at hne hnx
      obtain ⟨WB, hWB⟩ : ∃ WB, W2.alloc (.cells #[.string ⟨nm.toArray⟩] 54) = WB := ⟨_, rfl⟩
      obtain ⟨WA, hWA⟩ : ∃ WA, WB.alloc (.cells #[.string ⟨nm.toArray⟩] 9) = WA := ⟨_, rfl⟩
      have hcB : WB.cell? ⟨wr.heap.size, 0, none⟩ = some (.string ⟨nm.toArray⟩) := by rw [← hWB, ← HS.out.2.2.1]; exact (cell_new_l W2 _ _).1
      have hBB : Below W2.heap.size W2 WB := by rw [← hWB]; exact below_alloc _ _
      have hBA : Below WB.heap.size WB WA := by rw [← hWA]; exact below_alloc _ _
      have hsB : WB.heap.size = wr.heap.size + 1 := by rw [← hWB]; simp [HS.out.2.2.1]
      have hsA : WA.heap.size = wr.heap.size + 2 := by rw [← hWA]; simp [hsB]
      have hBBA : Below W2.heap.size W2 WA := hBB.trans (hBA.mono (by rw [hsB, HS.out.2.2.1]; omega))
      have hrA := owns_thru HO.out hBBA
      have hnew : ∀ j u, [Value.string ⟨nm.toArray⟩][j]? = some u → WA.cell? ((⟨wr.heap.size + 1, 0, none⟩ : Addr).add j) = some u := by
        rw [← hWA, ← hsB]; exact cell_one_new WB (.string ⟨nm.toArray⟩) 9
      have hrW : WA.heap[w1.heap.size]? = some (.mapIter (some gm) 22 (seen.push b) 22) := (hBBA.block _ (by rw [HS.out.2.2.1]; exact hrl)).trans HH.out.1
      have hgW : WA.heap[gm]? = some (.map (entsFrom 0 tabL).toArray 22) := (hBBA.block _ (by have := HG.out; rw [HS.out.2.2.1]; omega)).trans HH.out.2.1
      have hbs : W1.heap.size ≤ WA.heap.size := by have := HS.out.2.2.2; omega
      have HW := hide (And.intro hrW (And.intro hgW (And.intro (HB2.out.trans (hBBA.mono (HB2.out.size))) hsA)))
      have hszs : seen.size ≤ 22 := by omega
      clear hBB hBA hBBA hrW hgW
      rw [← Array.length_toList] at hrA
      go_wp2_with (at_builtin; go_must (refine wpList_append_foot _ rfl (.tmp 10) (.tmp 13) 24 rfl 9 i0 (.string ⟨#[]⟩) 16 Tryz.underlying24 hi hq0 hq1 hq2 rfl W1.heap.size _ seen.size (seen.toList.map fun b => by8 (nameAt b)) rfl hrA (some ⟨wr.heap.size + 1, 0, none⟩) 1 1 [.string ⟨nm.toArray⟩] rfl rfl (fun e => by cases e) (fun ad e => by cases e; exact hnew) (by simp [Value.oneCell']) (by unfold maxLen; omega) (by omega) (by omega) ?_); intro A' C' w3 hown' hG')
      have hG2 : Grew WA w3 (.slice A seen.size C) (.slice A' (seen.size + 1) C') := hG'
      have hk := hG2.kept (F := fun x => (Value.slice A seen.size C).ownBlock = some x) (fun _ h => h)
      have hown3 : ∀ x, (Value.slice A seen.size C).ownBlock = some x → W1.heap.size ≤ x := fun x hx => (owns_cells HO.out x hx).2.1
      have hr3 : w3.heap[w1.heap.size]? = some (.mapIter (some gm) 22 (seen.push b) 22) := hk.heap HW.out.1 (fun h => by have := hown3 _ h; omega)
      have hg3 : MapL w3 gm 22 := hk.heap HW.out.2.1 (fun h => by have := hown3 _ h; have := HG.out; omega)
      have hb3 : Below w.heap.size w w3 := HW.out.2.2.1.trans (hk.below (fun x hx => by have := hown3 x hx; have := H1.out.2.2.1.size; omega) HW.out.2.2.1.size)
      have hsz3 := hk.size
      have hps : (seen.push b).size = seen.size + 1 := by simp
      have hpl : (seen.push b).toList = seen.toList ++ [b] := by simp
      have HF := hide (And.intro hr3 (And.intro hg3 (And.intro hb3 hsz3)))
      have HO3 := hide hown'
      clear hG' hG2 hk hown3 hr3 hg3 hb3 hown' hrA hnew
      go_wp2_with fail
      go_roundg ((leftOf (entsFrom 0 tabL).toArray (seen.push b)).size)
      case measure => have := HH.out.2.2.2.2.1; have := HH.out.2.2.2.2.2; omega
      case rel =>
        refine ⟨seen.push b, A', C', rfl, by rw [hps], HF.out.1, HF.out.2.1, ?_, ?_, ?_, HF.out.2.2.1, by have := HF.out.2.2.2; omega, ?_⟩
        · rw [hpl]
          exact List.nodup_append.2 ⟨HS.out.1, by simp, fun a ha c hc => by rw [List.mem_singleton.1 hc]; intro e; rw [e] at ha; exact HH.out.2.2.2.1 ha⟩
        · intro c hc
          rw [hpl] at hc
          rcases List.mem_append.1 hc with h | h
          · exact HS.out.2.1 c h
          · rw [List.mem_singleton.1 h]; exact HH.out.2.2.1
        · rw [hps, hpl, List.map_append]
          have := HO3.out
          rw [← hnm] at this
          exact this
        · have := HH.out.2.2.2.2.1; have := HH.out.2.2.2.2.2; rw [hps]; omega
theorem all_any (w : World) :
    Calls Tryz.prog 8 #[] w fun e w' => ∃ g C, e = .returned (.slice (some ⟨g, 0, none⟩) allL.length C) ∧ w.heap.size ≤ g ∧ (∀ j, j < allL.length → w'.cell? ⟨g, j, none⟩ = some (by8 (allL.getD j []))) ∧ Below w.heap.size w w' :=
  (all_own w).mono fun _ _ ⟨g, C, h1, h2, h3, h4, _⟩ => ⟨g, C, h1, h2, h3, h4⟩
end Go.Proofs.YtdjdlkobfmahpaaGreatDoor
