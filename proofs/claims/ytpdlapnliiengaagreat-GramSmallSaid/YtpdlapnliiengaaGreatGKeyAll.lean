/-
  The keys of a map of grams, in whatever order: maps.Keys and its iterator.
-/
import Derived.Test.YtpdlapnliiengaaGreatGCmp
import Derived.Test.YtpdlapnliiengaaGreatGRange
import Derived.Laws.IdiomRangeMap
import Derived.Maps.RangeRun
import Derived.Sort.LoopGhostIn
import Derived.LoopNIn
import Derived.LoopIn
namespace Go.Proofs.YtpdlapnliiengaaGreat
open Go.RowKit Go.Shelf

attribute [local go_sem] Oper.semAt_some

/-- The key of the entry that was laid b-th. -/
def keyAt (es : List (Nat × Value)) (b : Nat) : Nat := ((es[b]?).map (·.1)).getD 0
theorem eG_lt {es : List (Nat × Value)} : ∀ x ∈ (entG 0 es).toArray.toList, x.born < es.length := by
  intro x hx
  rw [List.toList_toArray] at hx
  obtain ⟨j, p, h1, h2⟩ := entG_mem hx
  rw [h2]
  show 0 + j < es.length
  have := (List.getElem?_eq_some_iff.1 h1).1
  omega
theorem eG_born : ∀ (n : Nat) (l : List (Nat × Value)), (entG n l).map (·.born) = List.range' n l.length
  | n, [] => rfl
  | n, q :: l => by simp only [entG, List.map_cons, eG_born (n + 1) l, List.length_cons, List.range'_succ]
theorem eG_nodup (es : List (Nat × Value)) : ((entG 0 es).toArray.toList.map (·.born)).Nodup := by
  rw [List.toList_toArray, eG_born]
  exact List.nodup_range'
theorem gleft_mem {es : List (Nat × Value)} {seen : Array Nat} {e : MapEntry} (h : e ∈ (leftOf (entG 0 es).toArray seen).toList) :
    e ∈ (entG 0 es).toArray.toList ∧ e.born < es.length ∧ e.born ∉ seen.toList ∧ e.key = gv (keyAt es e.born) ∧ keyAt es e.born ∈ es.map (·.1) := by
  unfold leftOf at h
  rw [Array.toList_filter, List.mem_filter] at h
  obtain ⟨h1, h2⟩ := h
  refine ⟨h1, eG_lt e h1, by simpa using h2, ?_⟩
  rw [List.toList_toArray] at h1
  obtain ⟨i, r, h3, h4⟩ := entG_mem h1
  rw [h4]
  show gv r.1 = gv (keyAt es (0 + i)) ∧ keyAt es (0 + i) ∈ es.map (·.1)
  unfold keyAt
  rw [Nat.zero_add, h3]
  exact ⟨rfl, List.mem_map.2 ⟨r, List.mem_iff_getElem?.2 ⟨i, h3⟩, rfl⟩⟩
theorem gleft_less {es : List (Nat × Value)} {seen : Array Nat} {e : MapEntry} (h : e ∈ (leftOf (entG 0 es).toArray seen).toList) : (leftOf (entG 0 es).toArray (seen.push e.born)).size < (leftOf (entG 0 es).toArray seen).size := by
  unfold leftOf at h ⊢
  show (Array.filter (fun x => !(seen.push e.born).contains x.born) (entG 0 es).toArray).toList.length < (Array.filter (fun x => !seen.contains x.born) (entG 0 es).toArray).toList.length
  rw [Array.toList_filter, Array.toList_filter]
  have e1 : (entG 0 es).toArray.toList.filter (fun x => !(seen.push e.born).contains x.born) = ((entG 0 es).toArray.toList.filter (fun x => !seen.contains x.born)).filter (fun x => x.born != e.born) := by
    rw [List.filter_filter]
    apply List.filter_congr
    intro x _
    simp only [Array.contains_push]
    cases seen.contains x.born <;> simp [bne, Bool.beq_comm]
  rw [e1, List.length_filter_lt_length_iff_exists]
  rw [Array.toList_filter] at h
  exact ⟨e, h, by simp⟩
theorem gleft_none {es : List (Nat × Value)} {seen : Array Nat} (h : (leftOf (entG 0 es).toArray seen).size = 0) : ∀ b, b < es.length → b ∈ seen.toList := by
  intro b hb
  have hg : es[b]? = some (es[b]'hb) := List.getElem?_eq_getElem hb
  have hmk : ({ key := gv (es[b]'hb).1, val := (es[b]'hb).2, born := b } : MapEntry) ∈ entG 0 es := List.mem_iff_getElem?.2 ⟨b, by rw [entG_at, hg, Nat.zero_add]; rfl⟩
  by_cases hc : b ∈ seen.toList
  · exact hc
  · exfalso
    have : ({ key := gv (es[b]'hb).1, val := (es[b]'hb).2, born := b } : MapEntry) ∈ (leftOf (entG 0 es).toArray seen).toList := by
      unfold leftOf
      rw [Array.toList_filter, List.mem_filter]
      exact ⟨by rw [List.toList_toArray]; exact hmk, by simpa using hc⟩
    rw [← Array.length_toList] at h
    rw [List.eq_nil_of_length_eq_zero h] at this
    cases this
theorem gperm {es : List (Nat × Value)} {s : List Nat} (hn : s.Nodup) (hl : ∀ b ∈ s, b < es.length) (ha : ∀ b, b < es.length → b ∈ s) : (s.map (keyAt es)).Perm (es.map (·.1)) := by
  have hp : s.Perm (List.range es.length) := (List.perm_ext_iff_of_nodup hn List.nodup_range).2 fun b => ⟨fun h => List.mem_range.2 (hl b h), fun h => ha b (List.mem_range.1 h)⟩
  have h := hp.map (keyAt es)
  have e : (List.range es.length).map (keyAt es) = es.map (·.1) := by
    apply List.ext_getElem?
    intro i
    rw [List.getElem?_map, List.getElem?_map]
    rcases Nat.lt_or_ge i es.length with h | h
    · rw [List.getElem?_range h]
      simp [keyAt, h]
    · rw [List.getElem?_eq_none (by simpa using h), List.getElem?_eq_none h]
      rfl
  rwa [e] at h

def encK (x : Nat) : Array Value := #[gv x]
/-- What is known at a round, at the ends. -/
def GKey (es : List (Nat × Value)) (N : Nat) (pre : List Nat) (A : World) (x : Nat) (B : World) : Prop := Still N A B ∧ x ∈ es.map (·.1) ∧ pre.length < es.length
def SKey (es : List (Nat × Value)) (N : Nat) (xs : List Nat) (A B : World) : Prop := Still N A B ∧ xs.Perm (es.map (·.1))
def SpKey (N : Nat) (_ : List Nat) (A B : World) : Prop := Still N A B

theorem grange_run {t e : TypeId} (ht : Tryz.prog.underlying t = some (.map 51 e)) (w : World) (g : Nat) (es : List (Nat × Value)) (h : MapG w g es) :
    (Instr.range t (.map (some g))).run Tryz.prog w = .ok (.pointer (some ⟨w.heap.size, 0, none⟩)) (w.alloc (.mapIter (some g) es.length #[] es.length)) := by
  simp [Instr.range, run_underlying ht, MapKept.run_getObj_map h.at_, Result.andThen]
end Go.Proofs.YtpdlapnliiengaaGreat

/-
  maps.Keys of a map of grams (whose values are nothing), and its iterator.
-/
namespace Go.Proofs.YtpdlapnliiengaaGreat
open Go.RowKit Go.Shelf

attribute [local go_sem] Oper.semAt_some

set_option maxHeartbeats 1000000 in
theorem gkeys_in (n : Nat) (g : Option Nat) (w : World) :
    CallsIn Fence.wide n Tryz.prog 35 #[.map g] w fun e w' => e = .returned (.func (.func 64) #[] #[.pointer (some ⟨w.heap.size, 0, none⟩)]) ∧ w' = w.alloc (.cells #[.map g] 55) := by
  refine callsIn_of_wp Tryz.func35 rfl trivial ?_ rfl
  simp only [Tryz.ntmps35, List.size_toArray, List.length_cons, List.length_nil, Nat.reduceAdd, Nat.reduceSub, Array.replicate_succ, Array.replicate_zero, List.push_toArray, List.append_toArray, List.nil_append, List.cons_append]
  gi_wp2
  go_ret
  exact ⟨rfl, rfl⟩

set_option maxRecDepth 100000 in
set_option maxHeartbeats 2000000 in
theorem gkeys1_in (n l Bs gm : Nat) (es : List (Nat × Value)) (J : List Nat × (Nat → Prop) → World → Prop) (Jx : List Nat → World → Prop)
    (W : World) (hl : l < W.heap.size) (hJL : ∀ s A, J s A → MapG A gm es) (hY : ∀ pre O x A B, J (pre, O) A → GKey es W.heap.size pre A x B → YieldAt Fence.wide (n - 1) Tryz.prog l (encK x) B fun e W' =>
      (e = .returned (.bool true) ∧ (∃ O', J (pre ++ [x], O') W' ∧ KeptO O B W' ∧ ∀ k, O' k → (O k ∨ B.heap.size ≤ k) ∧ k < W'.heap.size) ∧ KeepsFrom (l + 1) B W') ∨ (e = .returned (.bool false) ∧ Jx (pre ++ [x]) W' ∧ KeepsFrom (l + 1) B W'))
    (O0 : Nat → Prop) (hBs : W.cell? ⟨Bs, 0, none⟩ = some (.map (some gm))) (hgm : gm < W.heap.size) (h0 : J ([], O0) W) :
    CallsIn Fence.wide n Tryz.prog 64 #[.func (.yield l) #[] #[], .pointer (some ⟨Bs, 0, none⟩)] W fun e W' => (∃ v, e = .returned v) ∧
      ((∃ xs O A, J (xs, O) A ∧ SKey es W.heap.size xs A W') ∨ (∃ pre A, Jx pre A ∧ SpKey W.heap.size pre A W')) := by
  refine callsIn_of_wp Tryz.func64 rfl trivial ?_ rfl
  simp only [Tryz.ntmps64, List.size_toArray, List.length_cons, List.length_nil, Nat.reduceAdd, Nat.reduceSub, Array.replicate_succ, Array.replicate_zero, List.push_toArray, List.append_toArray, List.nil_append, List.cons_append]
  have hrg := grange_run Tryz.underlying55 W gm es (hJL _ _ h0)
  obtain ⟨W1, hW1⟩ : ∃ W1, W.alloc (.mapIter (some gm) es.length #[] es.length) = W1 := ⟨_, rfl⟩
  have hS1 : Still W.heap.size W W1 := by rw [← hW1]; exact (Still.refl _ _).alloc _
  have hit : W1.heap[W.heap.size]? = some (.mapIter (some gm) es.length #[] es.length) := by rw [← hW1]; exact World.alloc_heap_new _ _
  have hs1 : W1.heap.size = W.heap.size + 1 := by rw [← hW1]; simp
  have hM1 : MapG W1 gm es := (hJL _ _ h0).keep (by rw [← hW1]; exact Below.heap_alloc _ _ _ hgm)
  rw [hW1] at hrg
  have hcnt0 : (#[] : Array Nat).size + (leftOf (entG 0 es).toArray #[]).size ≤ es.length := by
    have h := Array.size_filter_le (p := fun e : MapEntry => !(#[] : Array Nat).contains e.born) (xs := (entG 0 es).toArray)
    have e : (entG 0 es).toArray.size = es.length := by rw [List.size_toArray, entG_length]
    show 0 + _ ≤ _
    rw [Nat.zero_add]
    exact Nat.le_trans h (Nat.le_of_eq e)
  have H1 := hide (And.intro hS1 (And.intro hit (And.intro hs1 hM1)))
  clear hS1 hit hs1 hM1 hW1
  gi_wp2
  gi_loopg [3] ((leftOf (entG 0 es).toArray #[]).size) (fun q s3 wr => ∃ (seen : Array Nat) (O : Nat → Prop) (A : World), q = (leftOf (entG 0 es).toArray seen).size ∧ wr.heap[W.heap.size]? = some (.mapIter (some gm) es.length seen es.length) ∧ MapG wr gm es ∧ seen.toList.Nodup ∧ (∀ b ∈ seen.toList, b < es.length) ∧ J (seen.toList.map (keyAt es), O) A ∧ Still W.heap.size A wr ∧ W.heap.size < wr.heap.size ∧ seen.size + (leftOf (entG 0 es).toArray seen).size ≤ es.length)
  case atStart => exact ⟨#[], O0, W, rfl, H1.out.2.1, H1.out.2.2.2, List.nodup_nil, (fun b hb => by cases hb), h0, H1.out.1, by have := H1.out.2.2.1; omega, hcnt0⟩
  case round =>
    obtain ⟨seen, O, A, hq, hr, hM, hnd, hlt, hJ, hst, hsz, hcnt⟩ := hrel
    rcases run_next_at (P := Tryz.prog) wr 0 W.heap.size gm es.length es.length seen _ es.length hr hM.at_ eG_lt (Nat.le_refl _) with ⟨hz, hnx⟩ | ⟨e, he, wd, hwd, hnx⟩
    · have ha := gleft_none hz
      have hp := gperm hnd hlt ha
      gi_wp2
      go_end0
      exact ⟨⟨_, rfl⟩, .inl ⟨_, O, A, hJ, hst, hp⟩⟩
    · obtain ⟨W2, hW2⟩ : ∃ W2, Go.ChangeMaps.setBlock wd W.heap.size (.mapIter (some gm) es.length (seen.push e.born) es.length) = W2 := ⟨_, rfl⟩
      rw [hW2] at hnx
      have hall : W2.heap[W.heap.size]? = some (.mapIter (some gm) es.length (seen.push e.born) es.length) ∧ (∀ k, k ≠ W.heap.size → W2.heap[k]? = wr.heap[k]?) ∧ W2.heap.size = wr.heap.size ∧ W2.os = wr.os ∧ W2.tape = wr.tape ∧ W2.output = wr.output := by
        have hwh : wd.heap = wr.heap ∧ wd.os = wr.os ∧ wd.tape = wr.tape ∧ wd.output = wr.output := by rcases hwd with rfl | rfl <;> exact ⟨rfl, rfl, rfl, rfl⟩
        have hset : W2.heap = wr.heap.setIfInBounds W.heap.size (.mapIter (some gm) es.length (seen.push e.born) es.length) := by rw [← hW2]; show wd.heap.setIfInBounds _ _ = _; rw [hwh.1]
        exact ⟨by rw [hset]; simp [hsz], fun k hk => by rw [hset, Array.getElem?_setIfInBounds, if_neg (Ne.symm hk)], by rw [hset]; simp, by rw [← hW2]; exact hwh.2.1, by rw [← hW2]; exact hwh.2.2.1, by rw [← hW2]; exact hwh.2.2.2⟩
      obtain ⟨hr2, hsame, hsz2, ho2, ht2, hp2⟩ := hall
      have hst2 : Still W.heap.size A W2 := hst.trans ⟨ho2, ht2, hp2, by omega, fun k c t f hk => (hsame k (fun q => by rw [q, hr] at hk; cases hk)).trans hk, fun k o hN hk _ => (hsame k (by omega)).trans hk⟩
      have hM2 : MapG W2 gm es := hM.keep (hsame gm (by omega))
      obtain ⟨hem, heb, hen, hek, hem2⟩ := gleft_mem he
      have hls := gleft_less he
      have hne := run_entry_at (P := Tryz.prog) W2 W.heap.size gm es.length seen _ es.length e hr2 hM2.at_ hem (eG_nodup es)
      rw [hek] at hnx hne
      have hst3 := hst2.alloc (.cells (gl (keyAt es e.born)).toArray 51)
      obtain ⟨fn, tmps, assign, body, hy, hR⟩ := hY _ O (keyAt es e.born) A _ hJ ⟨hst3, hem2, by rw [List.length_map, Array.length_toList]; omega⟩
      obtain ⟨k0, hk0⟩ : ∃ k0, keyAt es e.born = k0 := ⟨_, rfl⟩
      rw [hk0] at hnx hne hy hR
      obtain ⟨d0, hd0⟩ : ∃ d, k0 / 65536 = d := ⟨_, rfl⟩
      obtain ⟨d1, hd1⟩ : ∃ d, k0 / 256 % 256 = d := ⟨_, rfl⟩
      obtain ⟨d2, hd2⟩ : ∃ d, k0 % 256 = d := ⟨_, rfl⟩
      have hgl : gl k0 = [.int .u8 (d0 : Nat), .int .u8 (d1 : Nat), .int .u8 (d2 : Nat)] := by unfold gl; rw [hd0, hd1, hd2]
      have hgv : gv k0 = .agg #[.int .u8 (d0 : Nat), .int .u8 (d1 : Nat), .int .u8 (d2 : Nat)] := by unfold gv; rw [hgl]
      simp only [encK] at hy
      rw [hgv] at hnx hne hy
      rw [hgl] at hy hR
      have hr3 : (W2.alloc (.cells #[.int .u8 (d0 : Nat), .int .u8 (d1 : Nat), .int .u8 (d2 : Nat)] 51)).heap[W.heap.size]? = some (.mapIter (some gm) es.length (seen.push e.born) es.length) := (Below.heap_alloc _ _ _ (by omega)).trans hr2
      have hs3 : (W2.alloc (.cells #[.int .u8 (d0 : Nat), .int .u8 (d1 : Nat), .int .u8 (d2 : Nat)] 51)).heap.size = wr.heap.size + 1 := by simp [hsz2]
      have HX := hide (And.intro hnd (And.intro hlt (And.intro heb (And.intro hen (And.intro hls (And.intro hr3 (And.intro hs3 hcnt)))))))
      have HM2 := hide hM2
      clear hM2 hem hem2 he hst3 hst2 hsame hr2 hJ hY hst hM hr hcnt hls heb hen hnd hlt hr3 hs3 ho2 ht2 hp2 hwd hW2
      clear hd0 hd1 hd2 hgl hgv
      generalize e.val = ev at hnx hne
      gi_wp2
      refine ⟨wide_deep, hR.mono ?_⟩
      rintro e' W3 (⟨rfl, ⟨O', hJ3, hk3, _⟩, hkf⟩ | ⟨rfl, hJx3, _⟩)
      · gi_wp2
        obtain ⟨hnd, hlt, heb, hen, hls, hr3, hs3, hcnt⟩ := HX.out
        have hsz3 := hk3.size
        have hps : (seen.push e.born).toList = seen.toList ++ [e.born] := by simp
        gi_roundg ((leftOf (entG 0 es).toArray (seen.push e.born)).size)
        case measure => omega
        case rel =>
          refine ⟨seen.push e.born, O', W3, rfl, hkf.same _ _ (by omega) hr3 rfl, hJL _ _ hJ3, ?_, ?_, ?_, Still.refl _ _, by omega, by simp only [Array.size_push]; omega⟩
          · rw [hps]
            exact List.nodup_append.2 ⟨hnd, by simp, fun a ha c hc => by rw [List.mem_singleton.1 hc]; intro q; rw [q] at ha; exact hen ha⟩
          · intro c hc
            rw [hps] at hc
            rcases List.mem_append.1 hc with h | h
            · exact hlt c h
            · rw [List.mem_singleton.1 h]; exact heb
          · rw [hps, List.map_append, List.map_cons, List.map_nil, hk0]
            exact hJ3
      · gi_wp2
        refine bodyPost_ret (results_none rfl _ _ _) rfl ?_
        exact ⟨⟨_, rfl⟩, .inr ⟨_, W3, hJx3, Still.refl _ _⟩⟩

theorem gkeys_seq (n : Nat) (Bs gm : Nat) (es : List (Nat × Value)) (w : World) (hBs : w.cell? ⟨Bs, 0, none⟩ = some (.map (some gm))) (hgm : gm < w.heap.size) :
    SeqL Fence.wide n Tryz.prog 64 #[.pointer (some ⟨Bs, 0, none⟩)] encK (GKey es) (fun _ => False) (SKey es) SpKey (fun A => MapG A gm es) w := fun l J Jx W O0 hW hl _ hJL hY h0 =>
  gkeys1_in n l Bs gm es J Jx W hl hJL hY O0 (cell_thru hBs hW) (by have := hW.size; omega) h0
end Go.Proofs.YtpdlapnliiengaaGreat

/-
  maps.Keys of a map of grams (whose values are rows of places; written by tools/gen-gplace.py), and its iterator.
-/
namespace Go.Proofs.YtpdlapnliiengaaGreat
open Go.RowKit Go.Shelf

attribute [local go_sem] Oper.semAt_some

set_option maxHeartbeats 1000000 in
theorem gkeysP_in (n : Nat) (g : Option Nat) (w : World) :
    CallsIn Fence.wide n Tryz.prog 32 #[.map g] w fun e w' => e = .returned (.func (.func 62) #[] #[.pointer (some ⟨w.heap.size, 0, none⟩)]) ∧ w' = w.alloc (.cells #[.map g] 46) := by
  refine callsIn_of_wp Tryz.func32 rfl trivial ?_ rfl
  simp only [Tryz.ntmps32, List.size_toArray, List.length_cons, List.length_nil, Nat.reduceAdd, Nat.reduceSub, Array.replicate_succ, Array.replicate_zero, List.push_toArray, List.append_toArray, List.nil_append, List.cons_append]
  gi_wp2
  go_ret
  exact ⟨rfl, rfl⟩

set_option maxRecDepth 100000 in
set_option maxHeartbeats 2000000 in
theorem gkeysP1_in (n l Bs gm : Nat) (es : List (Nat × Value)) (J : List Nat × (Nat → Prop) → World → Prop) (Jx : List Nat → World → Prop)
    (W : World) (hl : l < W.heap.size) (hJL : ∀ s A, J s A → MapG A gm es) (hY : ∀ pre O x A B, J (pre, O) A → GKey es W.heap.size pre A x B → YieldAt Fence.wide (n - 1) Tryz.prog l (encK x) B fun e W' =>
      (e = .returned (.bool true) ∧ (∃ O', J (pre ++ [x], O') W' ∧ KeptO O B W' ∧ ∀ k, O' k → (O k ∨ B.heap.size ≤ k) ∧ k < W'.heap.size) ∧ KeepsFrom (l + 1) B W') ∨ (e = .returned (.bool false) ∧ Jx (pre ++ [x]) W' ∧ KeepsFrom (l + 1) B W'))
    (O0 : Nat → Prop) (hBs : W.cell? ⟨Bs, 0, none⟩ = some (.map (some gm))) (hgm : gm < W.heap.size) (h0 : J ([], O0) W) :
    CallsIn Fence.wide n Tryz.prog 62 #[.func (.yield l) #[] #[], .pointer (some ⟨Bs, 0, none⟩)] W fun e W' => (∃ v, e = .returned v) ∧
      ((∃ xs O A, J (xs, O) A ∧ SKey es W.heap.size xs A W') ∨ (∃ pre A, Jx pre A ∧ SpKey W.heap.size pre A W')) := by
  refine callsIn_of_wp Tryz.func62 rfl trivial ?_ rfl
  simp only [Tryz.ntmps62, List.size_toArray, List.length_cons, List.length_nil, Nat.reduceAdd, Nat.reduceSub, Array.replicate_succ, Array.replicate_zero, List.push_toArray, List.append_toArray, List.nil_append, List.cons_append]
  have hrg := grange_run Tryz.underlying46 W gm es (hJL _ _ h0)
  obtain ⟨W1, hW1⟩ : ∃ W1, W.alloc (.mapIter (some gm) es.length #[] es.length) = W1 := ⟨_, rfl⟩
  have hS1 : Still W.heap.size W W1 := by rw [← hW1]; exact (Still.refl _ _).alloc _
  have hit : W1.heap[W.heap.size]? = some (.mapIter (some gm) es.length #[] es.length) := by rw [← hW1]; exact World.alloc_heap_new _ _
  have hs1 : W1.heap.size = W.heap.size + 1 := by rw [← hW1]; simp
  have hM1 : MapG W1 gm es := (hJL _ _ h0).keep (by rw [← hW1]; exact Below.heap_alloc _ _ _ hgm)
  rw [hW1] at hrg
  have hcnt0 : (#[] : Array Nat).size + (leftOf (entG 0 es).toArray #[]).size ≤ es.length := by
    have h := Array.size_filter_le (p := fun e : MapEntry => !(#[] : Array Nat).contains e.born) (xs := (entG 0 es).toArray)
    have e : (entG 0 es).toArray.size = es.length := by rw [List.size_toArray, entG_length]
    show 0 + _ ≤ _
    rw [Nat.zero_add]
    exact Nat.le_trans h (Nat.le_of_eq e)
  have H1 := hide (And.intro hS1 (And.intro hit (And.intro hs1 hM1)))
  clear hS1 hit hs1 hM1 hW1
  gi_wp2
  gi_loopg [3] ((leftOf (entG 0 es).toArray #[]).size) (fun q s3 wr => ∃ (seen : Array Nat) (O : Nat → Prop) (A : World), q = (leftOf (entG 0 es).toArray seen).size ∧ wr.heap[W.heap.size]? = some (.mapIter (some gm) es.length seen es.length) ∧ MapG wr gm es ∧ seen.toList.Nodup ∧ (∀ b ∈ seen.toList, b < es.length) ∧ J (seen.toList.map (keyAt es), O) A ∧ Still W.heap.size A wr ∧ W.heap.size < wr.heap.size ∧ seen.size + (leftOf (entG 0 es).toArray seen).size ≤ es.length)
  case atStart => exact ⟨#[], O0, W, rfl, H1.out.2.1, H1.out.2.2.2, List.nodup_nil, (fun b hb => by cases hb), h0, H1.out.1, by have := H1.out.2.2.1; omega, hcnt0⟩
  case round =>
    obtain ⟨seen, O, A, hq, hr, hM, hnd, hlt, hJ, hst, hsz, hcnt⟩ := hrel
    rcases run_next_at (P := Tryz.prog) wr 0 W.heap.size gm es.length es.length seen _ es.length hr hM.at_ eG_lt (Nat.le_refl _) with ⟨hz, hnx⟩ | ⟨e, he, wd, hwd, hnx⟩
    · have ha := gleft_none hz
      have hp := gperm hnd hlt ha
      gi_wp2
      go_end0
      exact ⟨⟨_, rfl⟩, .inl ⟨_, O, A, hJ, hst, hp⟩⟩
    · obtain ⟨W2, hW2⟩ : ∃ W2, Go.ChangeMaps.setBlock wd W.heap.size (.mapIter (some gm) es.length (seen.push e.born) es.length) = W2 := ⟨_, rfl⟩
      rw [hW2] at hnx
      have hall : W2.heap[W.heap.size]? = some (.mapIter (some gm) es.length (seen.push e.born) es.length) ∧ (∀ k, k ≠ W.heap.size → W2.heap[k]? = wr.heap[k]?) ∧ W2.heap.size = wr.heap.size ∧ W2.os = wr.os ∧ W2.tape = wr.tape ∧ W2.output = wr.output := by
        have hwh : wd.heap = wr.heap ∧ wd.os = wr.os ∧ wd.tape = wr.tape ∧ wd.output = wr.output := by rcases hwd with rfl | rfl <;> exact ⟨rfl, rfl, rfl, rfl⟩
        have hset : W2.heap = wr.heap.setIfInBounds W.heap.size (.mapIter (some gm) es.length (seen.push e.born) es.length) := by rw [← hW2]; show wd.heap.setIfInBounds _ _ = _; rw [hwh.1]
        exact ⟨by rw [hset]; simp [hsz], fun k hk => by rw [hset, Array.getElem?_setIfInBounds, if_neg (Ne.symm hk)], by rw [hset]; simp, by rw [← hW2]; exact hwh.2.1, by rw [← hW2]; exact hwh.2.2.1, by rw [← hW2]; exact hwh.2.2.2⟩
      obtain ⟨hr2, hsame, hsz2, ho2, ht2, hp2⟩ := hall
      have hst2 : Still W.heap.size A W2 := hst.trans ⟨ho2, ht2, hp2, by omega, fun k c t f hk => (hsame k (fun q => by rw [q, hr] at hk; cases hk)).trans hk, fun k o hN hk _ => (hsame k (by omega)).trans hk⟩
      have hM2 : MapG W2 gm es := hM.keep (hsame gm (by omega))
      obtain ⟨hem, heb, hen, hek, hem2⟩ := gleft_mem he
      have hls := gleft_less he
      have hne := run_entry_at (P := Tryz.prog) W2 W.heap.size gm es.length seen _ es.length e hr2 hM2.at_ hem (eG_nodup es)
      rw [hek] at hnx hne
      have hst3 := hst2.alloc (.cells (gl (keyAt es e.born)).toArray 51)
      obtain ⟨fn, tmps, assign, body, hy, hR⟩ := hY _ O (keyAt es e.born) A _ hJ ⟨hst3, hem2, by rw [List.length_map, Array.length_toList]; omega⟩
      obtain ⟨k0, hk0⟩ : ∃ k0, keyAt es e.born = k0 := ⟨_, rfl⟩
      rw [hk0] at hnx hne hy hR
      obtain ⟨d0, hd0⟩ : ∃ d, k0 / 65536 = d := ⟨_, rfl⟩
      obtain ⟨d1, hd1⟩ : ∃ d, k0 / 256 % 256 = d := ⟨_, rfl⟩
      obtain ⟨d2, hd2⟩ : ∃ d, k0 % 256 = d := ⟨_, rfl⟩
      have hgl : gl k0 = [.int .u8 (d0 : Nat), .int .u8 (d1 : Nat), .int .u8 (d2 : Nat)] := by unfold gl; rw [hd0, hd1, hd2]
      have hgv : gv k0 = .agg #[.int .u8 (d0 : Nat), .int .u8 (d1 : Nat), .int .u8 (d2 : Nat)] := by unfold gv; rw [hgl]
      simp only [encK] at hy
      rw [hgv] at hnx hne hy
      rw [hgl] at hy hR
      have hr3 : (W2.alloc (.cells #[.int .u8 (d0 : Nat), .int .u8 (d1 : Nat), .int .u8 (d2 : Nat)] 51)).heap[W.heap.size]? = some (.mapIter (some gm) es.length (seen.push e.born) es.length) := (Below.heap_alloc _ _ _ (by omega)).trans hr2
      have hs3 : (W2.alloc (.cells #[.int .u8 (d0 : Nat), .int .u8 (d1 : Nat), .int .u8 (d2 : Nat)] 51)).heap.size = wr.heap.size + 1 := by simp [hsz2]
      have HX := hide (And.intro hnd (And.intro hlt (And.intro heb (And.intro hen (And.intro hls (And.intro hr3 (And.intro hs3 hcnt)))))))
      have HM2 := hide hM2
      clear hM2 hem hem2 he hst3 hst2 hsame hr2 hJ hY hst hM hr hcnt hls heb hen hnd hlt hr3 hs3 ho2 ht2 hp2 hwd hW2
      clear hd0 hd1 hd2 hgl hgv
      generalize e.val = ev at hnx hne
      gi_wp2
      refine ⟨wide_deep, hR.mono ?_⟩
      rintro e' W3 (⟨rfl, ⟨O', hJ3, hk3, _⟩, hkf⟩ | ⟨rfl, hJx3, _⟩)
      · gi_wp2
        obtain ⟨hnd, hlt, heb, hen, hls, hr3, hs3, hcnt⟩ := HX.out
        have hsz3 := hk3.size
        have hps : (seen.push e.born).toList = seen.toList ++ [e.born] := by simp
        gi_roundg ((leftOf (entG 0 es).toArray (seen.push e.born)).size)
        case measure => omega
        case rel =>
          refine ⟨seen.push e.born, O', W3, rfl, hkf.same _ _ (by omega) hr3 rfl, hJL _ _ hJ3, ?_, ?_, ?_, Still.refl _ _, by omega, by simp only [Array.size_push]; omega⟩
          · rw [hps]
            exact List.nodup_append.2 ⟨hnd, by simp, fun a ha c hc => by rw [List.mem_singleton.1 hc]; intro q; rw [q] at ha; exact hen ha⟩
          · intro c hc
            rw [hps] at hc
            rcases List.mem_append.1 hc with h | h
            · exact hlt c h
            · rw [List.mem_singleton.1 h]; exact heb
          · rw [hps, List.map_append, List.map_cons, List.map_nil, hk0]
            exact hJ3
      · gi_wp2
        refine bodyPost_ret (results_none rfl _ _ _) rfl ?_
        exact ⟨⟨_, rfl⟩, .inr ⟨_, W3, hJx3, Still.refl _ _⟩⟩

theorem gkeysP_seq (n : Nat) (Bs gm : Nat) (es : List (Nat × Value)) (w : World) (hBs : w.cell? ⟨Bs, 0, none⟩ = some (.map (some gm))) (hgm : gm < w.heap.size) :
    SeqL Fence.wide n Tryz.prog 62 #[.pointer (some ⟨Bs, 0, none⟩)] encK (GKey es) (fun _ => False) (SKey es) SpKey (fun A => MapG A gm es) w := fun l J Jx W O0 hW hl _ hJL hY h0 =>
  gkeysP1_in n l Bs gm es J Jx W hl hJL hY O0 (cell_thru hBs hW) (by have := hW.size; omega) h0
end Go.Proofs.YtpdlapnliiengaaGreat
