/-
  gram.rising of a map of rows of places (written by tools/gen-gplace.py).
-/
import Derived.Test.YtpdlapnliiengaaGRise
import Derived.Test.YtpdlapnliiengaaGKeysP
namespace Go.Proofs.Ytpdlapnliiengaa
open Go.RowKit Go.Shelf Go.Lib Go.Sort

attribute [local go_sem] Oper.semAt_some

set_option maxHeartbeats 1000000 in
/-- gram.rising of a map whose values are rows of places. -/
theorem grisingP_any (gm : Nat) (es : List (Nat × Value)) (w : World) (hM : MapG w gm es) (hsz : es.length ≤ 14073748835532) :
    Calls Try.prog 19 #[.map (some gm)] w fun e w' => ∃ v, e = .returned v ∧ w'.ownsRow w.heap.size 47 3 v es.length (gcl (sortK es)) ∧ Below w.heap.size w w' := by
  refine callsIn_wide.1 (show CallsIn Fence.wide 20 _ _ _ _ _ from ?_)
  have eg : ∀ args w, (callFunc 27 args).run Try.prog w = .ok (.enter 27 args) w := enters_of Try.func27 (by kernel_rfl) rfl
  have egf : ∀ args w, (callFunc 32 args).run Try.prog w = .ok (.enter 32 args) w := enters_of Try.func32 (by kernel_rfl) rfl
  have hk := gkeysP_in 19 (some gm) w
  obtain ⟨W1, hW1⟩ : ∃ W1, w.alloc (.cells #[.map (some gm)] 54) = W1 := ⟨_, rfl⟩
  have hB1 : Below w.heap.size w W1 := by rw [← hW1]; exact below_alloc _ _
  have hs1 : W1.heap.size = w.heap.size + 1 := by rw [← hW1]; simp
  have hM1 : MapG W1 gm es := hM.keep (hB1.block _ hM.lt)
  have hc1 : W1.cell? ⟨w.heap.size, 0, none⟩ = some (.map (some gm)) := by rw [← hW1]; exact (cell_new_l w _ _).1
  have hso := gsorted_in 19 (by omega) _ eg gcmpP_any _ #[.pointer (some ⟨w.heap.size, 0, none⟩)] egf gm es W1 hM1 hsz (gkeysP_seq _ w.heap.size gm es W1 hc1 hM1.lt)
  rw [hW1] at hk
  clear hW1 eg egf
  refine callsIn_of_wp Try.func19 rfl trivial ?_ rfl
  simp only [Try.ntmps19, List.size_toArray, List.length_cons, List.length_nil, Nat.reduceAdd, Nat.reduceSub, Array.replicate_succ, Array.replicate_zero, List.push_toArray, List.append_toArray, List.nil_append, List.cons_append]
  gi_wp2
  refine ⟨trivial, hk.mono ?_⟩
  rintro e w1 ⟨rfl, rfl⟩
  gi_wp2
  refine ⟨trivial, hso.mono ?_⟩
  rintro e w2 ⟨v, rfl, h4, h5⟩
  gi_wp2
  go_ret
  exact ⟨v, rfl, ⟨h4.1, h4.2.imp (fun h => h) (fun ⟨g, c, u, h1, h2, h3⟩ => ⟨g, c, u, h1, by omega, h3⟩)⟩, hB1.trans (h5.mono (by omega))⟩
end Go.Proofs.Ytpdlapnliiengaa
