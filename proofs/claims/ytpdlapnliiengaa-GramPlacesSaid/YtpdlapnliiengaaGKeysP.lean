/-
  maps.Keys of a map of grams (whose values are rows of places; written by tools/gen-gplace.py), and its iterator.
-/
import Derived.Test.YtpdlapnliiengaaGKeys
import Derived.Sort.LoopGhostIn
import Derived.LoopNIn
import Derived.LoopIn
namespace Go.Proofs.Ytpdlapnliiengaa
open Go.RowKit Go.Shelf

attribute [local go_sem] Oper.semAt_some

set_option maxHeartbeats 1000000 in
theorem gkeysP_in (n : Nat) (g : Option Nat) (w : World) :
    CallsIn Fence.wide n Try.prog 26 #[.map g] w fun e w' => e = .returned (.func (.func 32) #[] #[.pointer (some ⟨w.heap.size, 0, none⟩)]) ∧ w' = w.alloc (.cells #[.map g] 54) := by
  refine callsIn_of_wp Try.func26 rfl trivial ?_ rfl
  simp only [Try.ntmps26, List.size_toArray, List.length_cons, List.length_nil, Nat.reduceAdd, Nat.reduceSub, Array.replicate_succ, Array.replicate_zero, List.push_toArray, List.append_toArray, List.nil_append, List.cons_append]
  gi_wp2
  go_ret
  exact ⟨rfl, rfl⟩

set_option maxRecDepth 100000 in
set_option maxHeartbeats 2000000 in
theorem gkeysP1_in (n l Bs gm : Nat) (es : List (Nat × Value)) (J : List Nat × (Nat → Prop) → World → Prop) (Jx : List Nat → World → Prop)
    (W : World) (hl : l < W.heap.size) (hJL : ∀ s A, J s A → MapG A gm es) (hY : ∀ pre O x A B, J (pre, O) A → GKey es W.heap.size pre A x B → YieldAt Fence.wide (n - 1) Try.prog l (encK x) B fun e W' =>
      (e = .returned (.bool true) ∧ (∃ O', J (pre ++ [x], O') W' ∧ KeptO O B W' ∧ ∀ k, O' k → (O k ∨ B.heap.size ≤ k) ∧ k < W'.heap.size) ∧ KeepsFrom (l + 1) B W') ∨ (e = .returned (.bool false) ∧ Jx (pre ++ [x]) W' ∧ KeepsFrom (l + 1) B W'))
    (O0 : Nat → Prop) (hBs : W.cell? ⟨Bs, 0, none⟩ = some (.map (some gm))) (hgm : gm < W.heap.size) (h0 : J ([], O0) W) :
    CallsIn Fence.wide n Try.prog 32 #[.func (.yield l) #[] #[], .pointer (some ⟨Bs, 0, none⟩)] W fun e W' => (∃ v, e = .returned v) ∧
      ((∃ xs O A, J (xs, O) A ∧ SKey es W.heap.size xs A W') ∨ (∃ pre A, Jx pre A ∧ SpKey W.heap.size pre A W')) := by
  refine callsIn_of_wp Try.func32 rfl trivial ?_ rfl
  simp only [Try.ntmps32, List.size_toArray, List.length_cons, List.length_nil, Nat.reduceAdd, Nat.reduceSub, Array.replicate_succ, Array.replicate_zero, List.push_toArray, List.append_toArray, List.nil_append, List.cons_append]
  have hrg := grange_run Try.underlying54 W gm es (hJL _ _ h0)
  obtain ⟨W1, hW1⟩ : ∃ W1, W.alloc (.mapIter (some gm) es.length #[] es.length) = W1 := ⟨_, rfl⟩
  have hS1 : Still W.heap.size W W1 := by rw [← hW1]; exact (Still.refl _ _).alloc _
  have hit : W1.heap[W.heap.size]? = some (.mapIter (some gm) es.length #[] es.length) := by rw [← hW1]; exact World.alloc_heap_new _ _
  have hs1 : W1.heap.size = W.heap.size + 1 := by rw [← hW1]; simp
  have hM1 : MapG W1 gm es := (hJL _ _ h0).keep (by rw [← hW1]; exact Below.heap_alloc _ _ _ hgm)
  rw [hW1] at hrg
  have hcnt0 : (#[] : Array Nat).size + (leftOf (entG 0 es).toArray #[]).size ≤ es.length := by
    have h := Array.size_filter_le (p := fun e : MapEntry => !(#[] : Array Nat).contains e.born) (xs := (entG 0 es).toArray)
    have e : (entG 0 es).toArray.size = es.length := by rw [List.size_toArray, entG_length]
    show 0 + _ ≤ _
    rw [Nat.zero_add]
    exact Nat.le_trans h (Nat.le_of_eq e)
  have H1 := hide (And.intro hS1 (And.intro hit (And.intro hs1 hM1)))
  clear hS1 hit hs1 hM1 hW1
  gi_wp2
  gi_loopg [3] ((leftOf (entG 0 es).toArray #[]).size) (fun q s3 wr => ∃ (seen : Array Nat) (O : Nat → Prop) (A : World), q = (leftOf (entG 0 es).toArray seen).size ∧ wr.heap[W.heap.size]? = some (.mapIter (some gm) es.length seen es.length) ∧ MapG wr gm es ∧ seen.toList.Nodup ∧ (∀ b ∈ seen.toList, b < es.length) ∧ J (seen.toList.map (keyAt es), O) A ∧ Still W.heap.size A wr ∧ W.heap.size < wr.heap.size ∧ seen.size + (leftOf (entG 0 es).toArray seen).size ≤ es.length)
  case atStart => exact ⟨#[], O0, W, rfl, H1.out.2.1, H1.out.2.2.2, List.nodup_nil, (fun b hb => by cases hb), h0, H1.out.1, by have := H1.out.2.2.1; omega, hcnt0⟩
  case round =>
    obtain ⟨seen, O, A, hq, hr, hM, hnd, hlt, hJ, hst, hsz, hcnt⟩ := hrel
    rcases run_next_at (P := Try.prog) wr 0 W.heap.size gm es.length es.length seen _ es.length hr hM.at_ eG_lt (Nat.le_refl _) with ⟨hz, hnx⟩ | ⟨e, he, wd, hwd, hnx⟩
    · have ha := gleft_none hz
      have hp := gperm hnd hlt ha
      gi_wp2
      go_end0
      exact ⟨⟨_, rfl⟩, .inl ⟨_, O, A, hJ, hst, hp⟩⟩
    · obtain ⟨W2, hW2⟩ : ∃ W2, Go.ChangeMaps.setBlock wd W.heap.size (.mapIter (some gm) es.length (seen.push e.born) es.length) = W2 := ⟨_, rfl⟩
      rw [hW2] at hnx
      have hall : W2.heap[W.heap.size]? = some (.mapIter (some gm) es.length (seen.push e.born) es.length) ∧ (∀ k, k ≠ W.heap.size → W2.heap[k]? = wr.heap[k]?) ∧ W2.heap.size = wr.heap.size ∧ W2.os = wr.os ∧ W2.tape = wr.tape ∧ W2.output = wr.output := by
        have hwh : wd.heap = wr.heap ∧ wd.os = wr.os ∧ wd.tape = wr.tape ∧ wd.output = wr.output := by rcases hwd with rfl | rfl <;> exact ⟨rfl, rfl, rfl, rfl⟩
        have hset : W2.heap = wr.heap.setIfInBounds W.heap.size (.mapIter (some gm) es.length (seen.push e.born) es.length) := by rw [← hW2]; show wd.heap.setIfInBounds _ _ = _; rw [hwh.1]
        exact ⟨by rw [hset]; simp [hsz], fun k hk => by rw [hset, Array.getElem?_setIfInBounds, if_neg (Ne.symm hk)], by rw [hset]; simp, by rw [← hW2]; exact hwh.2.1, by rw [← hW2]; exact hwh.2.2.1, by rw [← hW2]; exact hwh.2.2.2⟩
      obtain ⟨hr2, hsame, hsz2, ho2, ht2, hp2⟩ := hall
      have hst2 : Still W.heap.size A W2 := hst.trans ⟨ho2, ht2, hp2, by omega, fun k c t f hk => (hsame k (fun q => by rw [q, hr] at hk; cases hk)).trans hk, fun k o hN hk _ => (hsame k (by omega)).trans hk⟩
      have hM2 : MapG W2 gm es := hM.keep (hsame gm (by omega))
      obtain ⟨hem, heb, hen, hek, hem2⟩ := gleft_mem he
      have hls := gleft_less he
      have hne := run_entry_at (P := Try.prog) W2 W.heap.size gm es.length seen _ es.length e hr2 hM2.at_ hem (eG_nodup es)
      rw [hek] at hnx hne
      have hst3 := hst2.alloc (.cells (gl (keyAt es e.born)).toArray 47)
      obtain ⟨fn, tmps, assign, body, hy, hR⟩ := hY _ O (keyAt es e.born) A _ hJ ⟨hst3, hem2, by rw [List.length_map, Array.length_toList]; omega⟩
      obtain ⟨k0, hk0⟩ : ∃ k0, keyAt es e.born = k0 := ⟨_, rfl⟩
      rw [hk0] at hnx hne hy hR
      obtain ⟨d0, hd0⟩ : ∃ d, k0 / 65536 = d := ⟨_, rfl⟩
      obtain ⟨d1, hd1⟩ : ∃ d, k0 / 256 % 256 = d := ⟨_, rfl⟩
      obtain ⟨d2, hd2⟩ : ∃ d, k0 % 256 = d := ⟨_, rfl⟩
      have hgl : gl k0 = [.int .u8 (d0 : Nat), .int .u8 (d1 : Nat), .int .u8 (d2 : Nat)] := by unfold gl; rw [hd0, hd1, hd2]
      have hgv : gv k0 = .agg #[.int .u8 (d0 : Nat), .int .u8 (d1 : Nat), .int .u8 (d2 : Nat)] := by unfold gv; rw [hgl]
      simp only [encK] at hy
      rw [hgv] at hnx hne hy
      rw [hgl] at hy hR
      have hr3 : (W2.alloc (.cells #[.int .u8 (d0 : Nat), .int .u8 (d1 : Nat), .int .u8 (d2 : Nat)] 47)).heap[W.heap.size]? = some (.mapIter (some gm) es.length (seen.push e.born) es.length) := (Below.heap_alloc _ _ _ (by omega)).trans hr2
      have hs3 : (W2.alloc (.cells #[.int .u8 (d0 : Nat), .int .u8 (d1 : Nat), .int .u8 (d2 : Nat)] 47)).heap.size = wr.heap.size + 1 := by simp [hsz2]
      have HX := hide (And.intro hnd (And.intro hlt (And.intro heb (And.intro hen (And.intro hls (And.intro hr3 (And.intro hs3 hcnt)))))))
      have HM2 := hide hM2
      clear hM2 hem hem2 he hst3 hst2 hsame hr2 hJ hY hst hM hr hcnt hls heb hen hnd hlt hr3 hs3 ho2 ht2 hp2 hwd hW2
      clear hd0 hd1 hd2 hgl hgv
      generalize e.val = ev at hnx hne
      gi_wp2
      refine ⟨wide_deep, hR.mono ?_⟩
      rintro e' W3 (⟨rfl, ⟨O', hJ3, hk3, _⟩, hkf⟩ | ⟨rfl, hJx3, _⟩)
      · gi_wp2
        obtain ⟨hnd, hlt, heb, hen, hls, hr3, hs3, hcnt⟩ := HX.out
        have hsz3 := hk3.size
        have hps : (seen.push e.born).toList = seen.toList ++ [e.born] := by simp
        gi_roundg ((leftOf (entG 0 es).toArray (seen.push e.born)).size)
        case measure => omega
        case rel =>
          refine ⟨seen.push e.born, O', W3, rfl, hkf.same _ _ (by omega) hr3 rfl, hJL _ _ hJ3, ?_, ?_, ?_, Still.refl _ _, by omega, by simp only [Array.size_push]; omega⟩
          · rw [hps]
            exact List.nodup_append.2 ⟨hnd, by simp, fun a ha c hc => by rw [List.mem_singleton.1 hc]; intro q; rw [q] at ha; exact hen ha⟩
          · intro c hc
            rw [hps] at hc
            rcases List.mem_append.1 hc with h | h
            · exact hlt c h
            · rw [List.mem_singleton.1 h]; exact heb
          · rw [hps, List.map_append, List.map_cons, List.map_nil, hk0]
            exact hJ3
      · gi_wp2
        refine bodyPost_ret (results_none rfl _ _ _) rfl ?_
        exact ⟨⟨_, rfl⟩, .inr ⟨_, W3, hJx3, Still.refl _ _⟩⟩

theorem gkeysP_seq (n : Nat) (Bs gm : Nat) (es : List (Nat × Value)) (w : World) (hBs : w.cell? ⟨Bs, 0, none⟩ = some (.map (some gm))) (hgm : gm < w.heap.size) :
    SeqL Fence.wide n Try.prog 32 #[.pointer (some ⟨Bs, 0, none⟩)] encK (GKey es) (fun _ => False) (SKey es) SpKey (fun A => MapG A gm es) w := fun l J Jx W O0 hW hl _ hJL hY h0 =>
  gkeysP1_in n l Bs gm es J Jx W hl hJL hY O0 (cell_thru hBs hW) (by have := hW.size; omega) h0
end Go.Proofs.Ytpdlapnliiengaa
