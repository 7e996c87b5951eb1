/-
  gram.rising: the keys of a map of grams, sorted (values: nothing).
-/
import Derived.Test.YtpdlapnliiengaaGreatGRow
import Derived.Test.YtpdlapnliiengaaGreatGKeyAll
namespace Go.Proofs.YtpdlapnliiengaaGreat
open Go.RowKit Go.Shelf Go.Lib Go.Sort

attribute [local go_sem] Oper.semAt_some

/-- The keys, rising. -/
def sortK (es : List (Nat × Value)) : List Nat := ((es.map fun p => Fin.ofNat 16777216 p.1).mergeSort fun x y => !(ltOf cfG) y x).map (·.val)
theorem perm_sort {l m : List G24} (h : l.Perm m) : (l.mergeSort fun x y => !(ltOf cfG) y x) = m.mergeSort fun x y => !(ltOf cfG) y x := by
  have le_iff : ∀ a b : G24, (!(ltOf cfG) b a) = decide (a.val ≤ b.val) := fun a b => by rw [ltG]; by_cases h : b.val < a.val <;> simp [h] <;> omega
  have tr : ∀ a b c : G24, (!(ltOf cfG) b a) = true → (!(ltOf cfG) c b) = true → (!(ltOf cfG) c a) = true := fun a b c h k => by rw [le_iff, decide_eq_true_eq] at *; omega
  have tot : ∀ a b : G24, ((!(ltOf cfG) b a) || (!(ltOf cfG) a b)) = true := fun a b => by rw [le_iff, le_iff, Bool.or_eq_true, decide_eq_true_eq, decide_eq_true_eq]; omega
  refine List.Perm.eq_of_pairwise (le := fun a b => (!(ltOf cfG) b a) = true) (fun a b _ _ h1 h2 => by rw [le_iff, decide_eq_true_eq] at *; exact Fin.ext (by omega)) (List.pairwise_mergeSort tr tot _) (List.pairwise_mergeSort tr tot _) ?_
  exact ((List.mergeSort_perm _ _).trans h).trans (List.mergeSort_perm _ _).symm
theorem sortK_len (es : List (Nat × Value)) : (sortK es).length = es.length := by simp [sortK]

/-- slices.SortFunc at the row that Collect hands out. -/
theorem gsortrow (g : Nat) (eg : ∀ args w, (callFunc g args).run Tryz.prog w = .ok (.enter g args) w) (hcmp : ∀ (x y : G24) (W : World), Calls Tryz.prog g #[gv x.val, gv y.val] W fun e w' => e = .returned (.int .i64 (cfG x y)) ∧ ∃ q os', w' = grow (W.drewN q) os')
    (base : Nat) (v : Value) (es : List (Nat × Value)) (hok : ∀ p ∈ es, Okg p.1) (hsz : es.length ≤ 14073748835532) (xs : List Nat) (hx : xs.Perm (es.map (·.1))) (w0 w : World) (hown : w.ownsRow base 51 3 v xs.length (gcl xs)) (hB : Below w0.heap.size w0 w) (hb0 : w0.heap.size ≤ base) :
    Calls Tryz.prog 61 #[v, .func (.func g) #[] #[]] w fun e w' => e = .returned (.tuple #[]) ∧ w'.ownsRow base 51 3 v es.length (gcl (sortK es)) ∧ Below w0.heap.size w0 w' := by
  have hlen : xs.length = es.length := by rw [hx.length_eq, List.length_map]
  have hxo : ∀ x ∈ xs, x < 16777216 := fun x h => by
    obtain ⟨p, hp, rfl⟩ := List.mem_map.1 (hx.mem_iff.1 h)
    exact hok p hp
  have hfin : (xs.map (Fin.ofNat 16777216)).map (·.val) = xs := by
    rw [List.map_map]
    refine (List.map_congr_left fun x h => ?_).trans (List.map_id xs)
    show x % 16777216 = x
    exact Nat.mod_eq_of_lt (hxo x h)
  have hpf : (xs.map (Fin.ofNat 16777216)).Perm (es.map fun p => Fin.ofNat 16777216 p.1) := by
    have h := hx.map (Fin.ofNat 16777216)
    rwa [List.map_map] at h
  have hall := hown
  obtain ⟨hl, ⟨rfl, h0⟩ | ⟨b, cap, cur, rfl, hbb, hcur, hnc, hcm, hcs, htake⟩⟩ := hown
  · have hes : es = [] := List.eq_nil_of_length_eq_zero (by omega)
    have hxs : xs = [] := List.eq_nil_of_length_eq_zero (by omega)
    subst hes hxs
    refine (gsort_none none 0 _ w).mono ?_
    rintro e w' ⟨rfl, rfl⟩
    exact ⟨rfl, by rw [show sortK [] = [] by simp [sortK]]; exact hall, hB⟩
  · have hH := gholds (l := xs.map (Fin.ofNat 16777216)) hcur (by rw [hfin, List.length_map]; exact htake)
    have hbl : b < w.heap.size := (Array.getElem?_eq_some_iff.1 hcur).1
    have hs := gsort_any g b 0 cap (xs.map (Fin.ofNat 16777216)).toArray w eg hcmp hH hbl (by simp only [List.size_toArray, List.length_map]; omega)
    simp only [List.size_toArray, List.length_map] at hs
    refine hs.mono ?_
    rintro e w' ⟨rfl, n, os, rfl⟩
    rw [perm_sort hpf]
    refine ⟨rfl, ?_, hB.grown (gsorted_grown _) hB.size (fun k e => by cases e; omega)⟩
    have h := gown_sorted (n := n) (os := os) (l := (es.map fun p => Fin.ofNat 16777216 p.1).mergeSort fun x y => !(ltOf cfG) y x) (m := xs.length) (by rw [List.length_mergeSort, List.length_map, hlen]) hbb hcur hnc hcm hcs
    rw [hlen] at h ⊢
    exact h

set_option maxHeartbeats 1000000 in
theorem gsorted_in (n : Nat) (hn : 11 ≤ n) (g : Nat) (eg : ∀ args w, (callFunc g args).run Tryz.prog w = .ok (.enter g args) w) (hcmp : ∀ (x y : G24) (W : World), Calls Tryz.prog g #[gv x.val, gv y.val] W fun e w' => e = .returned (.int .i64 (cfG x y)) ∧ ∃ q os', w' = grow (W.drewN q) os')
    (gf : Nat) (lb : Array Value) (egf : ∀ args w, (callFunc gf args).run Tryz.prog w = .ok (.enter gf args) w) (gm : Nat) (es : List (Nat × Value)) (w : World) (hM : MapG w gm es) (hsz : es.length ≤ 14073748835532)
    (hseq : SeqL Fence.wide (n - 1 - 1 - 1) Tryz.prog gf lb encK (GKey es) (fun _ => False) (SKey es) SpKey (fun A => MapG A gm es) w) :
    CallsIn Fence.wide n Tryz.prog 31 #[.func (.func gf) #[] lb, .func (.func g) #[] #[]] w fun e w' => ∃ v, e = .returned v ∧ w'.ownsRow w.heap.size 51 3 v es.length (gcl (sortK es)) ∧ Below w.heap.size w w' := by
  have hcol := gcollect_in (n - 1) (by omega) gf lb egf (GKey es) (fun _ => False) (SKey es) SpKey w (Lv := fun A => MapG A gm es) (fun X hX => hM.keep (hX.block _ hM.lt)) hseq es.length hsz (fun xs => xs.Perm (es.map fun p : Nat × Value => p.1)) (fun N pre x A B h => ⟨h.1, h.2.2⟩) (fun N xs A B h => h) (fun N xs A B h => h) (fun k h => h.elim)
  refine callsIn_of_wp Tryz.func31 rfl trivial ?_ rfl
  simp only [Tryz.ntmps31, List.size_toArray, List.length_cons, List.length_nil, Nat.reduceAdd, Nat.reduceSub, Array.replicate_succ, Array.replicate_zero, List.push_toArray, List.append_toArray, List.nil_append, List.cons_append]
  gi_wp2
  refine ⟨trivial, wide_deep, hcol.mono ?_⟩
  rintro e w1 ⟨v, xs, rfl, h1, h2, h3⟩
  have hs := gsortrow g eg hcmp w.heap.size v es hM.ok hsz xs h1 w w1 h2 h3 (Nat.le_refl _)
  gi_wp2
  refine ⟨trivial, wide_deep, (callsIn_wide.2 hs).mono ?_⟩
  rintro e w2 ⟨rfl, h4, h5⟩
  gi_wp2
  go_ret
  exact ⟨v, rfl, h4, h5⟩

set_option maxHeartbeats 1000000 in
/-- gram.rising of a map whose values are nothing. -/
theorem grising_any (gm : Nat) (es : List (Nat × Value)) (w : World) (hM : MapG w gm es) (hsz : es.length ≤ 14073748835532) :
    Calls Tryz.prog 24 #[.map (some gm)] w fun e w' => ∃ v, e = .returned v ∧ w'.ownsRow w.heap.size 51 3 v es.length (gcl (sortK es)) ∧ Below w.heap.size w w' := by
  refine callsIn_wide.1 (show CallsIn Fence.wide 20 _ _ _ _ _ from ?_)
  have eg : ∀ args w, (callFunc 36 args).run Tryz.prog w = .ok (.enter 36 args) w := enters_of Tryz.func36 (by kernel_rfl) rfl
  have egf : ∀ args w, (callFunc 64 args).run Tryz.prog w = .ok (.enter 64 args) w := enters_of Tryz.func64 (by kernel_rfl) rfl
  have hk := gkeys_in 19 (some gm) w
  obtain ⟨W1, hW1⟩ : ∃ W1, w.alloc (.cells #[.map (some gm)] 55) = W1 := ⟨_, rfl⟩
  have hB1 : Below w.heap.size w W1 := by rw [← hW1]; exact below_alloc _ _
  have hs1 : W1.heap.size = w.heap.size + 1 := by rw [← hW1]; simp
  have hM1 : MapG W1 gm es := hM.keep (hB1.block _ hM.lt)
  have hc1 : W1.cell? ⟨w.heap.size, 0, none⟩ = some (.map (some gm)) := by rw [← hW1]; exact (cell_new_l w _ _).1
  have hso := gsorted_in 19 (by omega) _ eg gcmp_any _ #[.pointer (some ⟨w.heap.size, 0, none⟩)] egf gm es W1 hM1 hsz (gkeys_seq _ w.heap.size gm es W1 hc1 hM1.lt)
  rw [hW1] at hk
  clear hW1 eg egf
  refine callsIn_of_wp Tryz.func24 rfl trivial ?_ rfl
  simp only [Tryz.ntmps24, List.size_toArray, List.length_cons, List.length_nil, Nat.reduceAdd, Nat.reduceSub, Array.replicate_succ, Array.replicate_zero, List.push_toArray, List.append_toArray, List.nil_append, List.cons_append]
  gi_wp2
  refine ⟨trivial, hk.mono ?_⟩
  rintro e w1 ⟨rfl, rfl⟩
  gi_wp2
  refine ⟨trivial, hso.mono ?_⟩
  rintro e w2 ⟨v, rfl, h4, h5⟩
  gi_wp2
  go_ret
  exact ⟨v, rfl, ⟨h4.1, h4.2.imp (fun h => h) (fun ⟨g, c, u, h1, h2, h3⟩ => ⟨g, c, u, h1, by omega, h3⟩)⟩, hB1.trans (h5.mono (by omega))⟩
end Go.Proofs.YtpdlapnliiengaaGreat

/-
  gram.rising of a map of rows of places (written by tools/gen-gplace.py).
-/
namespace Go.Proofs.YtpdlapnliiengaaGreat
open Go.RowKit Go.Shelf Go.Lib Go.Sort

attribute [local go_sem] Oper.semAt_some

set_option maxHeartbeats 1000000 in
/-- gram.rising of a map whose values are rows of places. -/
theorem grisingP_any (gm : Nat) (es : List (Nat × Value)) (w : World) (hM : MapG w gm es) (hsz : es.length ≤ 14073748835532) :
    Calls Tryz.prog 22 #[.map (some gm)] w fun e w' => ∃ v, e = .returned v ∧ w'.ownsRow w.heap.size 51 3 v es.length (gcl (sortK es)) ∧ Below w.heap.size w w' := by
  refine callsIn_wide.1 (show CallsIn Fence.wide 20 _ _ _ _ _ from ?_)
  have eg : ∀ args w, (callFunc 33 args).run Tryz.prog w = .ok (.enter 33 args) w := enters_of Tryz.func33 (by kernel_rfl) rfl
  have egf : ∀ args w, (callFunc 62 args).run Tryz.prog w = .ok (.enter 62 args) w := enters_of Tryz.func62 (by kernel_rfl) rfl
  have hk := gkeysP_in 19 (some gm) w
  obtain ⟨W1, hW1⟩ : ∃ W1, w.alloc (.cells #[.map (some gm)] 46) = W1 := ⟨_, rfl⟩
  have hB1 : Below w.heap.size w W1 := by rw [← hW1]; exact below_alloc _ _
  have hs1 : W1.heap.size = w.heap.size + 1 := by rw [← hW1]; simp
  have hM1 : MapG W1 gm es := hM.keep (hB1.block _ hM.lt)
  have hc1 : W1.cell? ⟨w.heap.size, 0, none⟩ = some (.map (some gm)) := by rw [← hW1]; exact (cell_new_l w _ _).1
  have hso := gsorted_in 19 (by omega) _ eg gcmpP_any _ #[.pointer (some ⟨w.heap.size, 0, none⟩)] egf gm es W1 hM1 hsz (gkeysP_seq _ w.heap.size gm es W1 hc1 hM1.lt)
  rw [hW1] at hk
  clear hW1 eg egf
  refine callsIn_of_wp Tryz.func22 rfl trivial ?_ rfl
  simp only [Tryz.ntmps22, List.size_toArray, List.length_cons, List.length_nil, Nat.reduceAdd, Nat.reduceSub, Array.replicate_succ, Array.replicate_zero, List.push_toArray, List.append_toArray, List.nil_append, List.cons_append]
  gi_wp2
  refine ⟨trivial, hk.mono ?_⟩
  rintro e w1 ⟨rfl, rfl⟩
  gi_wp2
  refine ⟨trivial, hso.mono ?_⟩
  rintro e w2 ⟨v, rfl, h4, h5⟩
  gi_wp2
  go_ret
  exact ⟨v, rfl, ⟨h4.1, h4.2.imp (fun h => h) (fun ⟨g, c, u, h1, h2, h3⟩ => ⟨g, c, u, h1, by omega, h3⟩)⟩, hB1.trans (h5.mono (by omega))⟩
end Go.Proofs.YtpdlapnliiengaaGreat
