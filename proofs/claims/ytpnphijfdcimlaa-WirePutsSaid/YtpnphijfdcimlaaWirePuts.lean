/-
  For every row of things: WirePuts returns true (whatever is put, one thing behind the other, the bytes are what the document tells; what is lent stays, what is told lies apart; more than 4000 parts are let by), and the argument reads as it did.
-/
import Derived.Test.YtpnphijfdcimlaaRows
import Derived.Test.YtpnphijfdcimlaaDoesW
import Derived.Test.YtpnphijfdcimlaaThingOpen
import Derived.WalkKit
import Derived.ProofKit
import Derived.OpenShut
import Derived.ShutString
import Derived.ChangeOld
import Derived.Below
import Derived.SizedLaws
namespace Go.Proofs.Ytpnphijfdcimlaa.wirePuts
open Go.ChangeShapes Go.WideShapes Go.ChangeAt Go.RowKit Go.Deep
set_option linter.unusedVariables false

theorem own : ownKnob Try.prog.godebug = none := by kernel_rfl
theorem laidOut : laidOutB Try.prog = true := by kernel_rfl

set_option maxRecDepth 100000 in
set_option maxHeartbeats 1000000 in
theorem walk (a : Option Addr) (n cap : Nat) (T : Nat → Thg) (w : World) (hT : Things w a n T) (hn : n ≤ 140737488351232) (hbk : ∀ i, i < n → (T i).B.length ≤ 140737488351232 ∧ (T i).lR ≤ 140737488351232) :
    Calls Try.prog 3 #[.slice a n cap] w fun e w' => e = .returned (.bool true) ∧ Below w.heap.size w w' := by
  have hgr := great_any a n cap T none 0 0 w hT hn (by omega) hbk
  have HT := hide hT
  clear hT hbk
  go_enter Try.func3, Try.ntmps3
  go_wp2_with fail
  refine hgr.mono ?_
  rintro e w1 ⟨t, rfl, ht, m, rfl⟩
  clear hgr
  have hb1 : Below w.heap.size w (w.drewN m) := below_drewN (Below.refl _ _) m
  obtain ⟨w1, hw1⟩ : ∃ w1, w.drewN m = w1 := ⟨_, rfl⟩
  rw [hw1] at hb1 ⊢
  clear hw1
  have hs1 := hb1.size
  cases t with
  | true =>
    clear ht
    have haw := awake_any w1
    go_wp2_with fail
    refine haw.mono ?_
    rintro e w2 ⟨rfl, hb2⟩
    go_wp2_with fail
    go_ret
    exact ⟨rfl, hb1.trans (hb2.mono hs1)⟩
  | false =>
    have hsum := ht rfl
    have hdo := does_any a n cap T w1 (HT.out.kept (Kept.of_below (F := fun _ => False) hb1) (fun _ _ h => h)) (by omega)
    clear ht
    go_wp2_with fail
    refine hdo.mono ?_
    rintro e w2 ⟨A, C, L, rfl, _, _, _, _, _, _, _, hb2⟩
    have hs2 := hb2.size
    have haw := awake_any w2
    clear hdo
    go_wp2_with fail
    refine haw.mono ?_
    rintro e w3 ⟨rfl, hb3⟩
    go_wp2_with fail
    go_ret
    exact ⟨rfl, hb1.trans ((hb2.trans (hb3.mono hs2)).mono hs1)⟩

set_option maxRecDepth 100000 in
theorem lifted (os : Os) (started : os.Started) (H : Type) (enc : TypeId × Value → H) :
    ReturnsInHanded {} Try.checked os 3 .any (Rows.wirePutsSpec.pre6 enc Try.prog Try.f3 Rows.wirePutsRow.domain false) (Rows.wirePutsSpec.post enc Try.prog Try.f3 false true false false) := by
  refine returnsInHanded_of_change_sized (C := Try.checked) own started (by kernel_rfl) Try.func3
    (ChangeSpec.witness6 (enc := enc) (C := Try.checked) false ⟨#[], #[.slice none 0 0], []⟩ 8 (by kernel_rfl) (by kernel_rfl) (by kernel_rfl) (by kernel_rfl)) ?_
  intro W base args ds gs before hval0 hW hcnd hsz0 _
  have hsz : (DataW.weightsEach Try.prog (Try.f3.params.toList ++ Rows.wirePutsSpec.plain.varTypes Try.prog) (ds ++ gs)).all (· ≤ reachBytes) = true := hsz0
  clear hsz0
  have hval : ∀ (j : Nat) t v, Try.f3.params[j]? = some t → args[j]? = some v → Value.okWide Try.prog W .any base t v := hval0
  have hW' := hW
  obtain ⟨p, q, hA0, hV, rfl, hfz, hnd⟩ := hW
  have hA : DataW.TrodAll enc Try.prog W 0 (fun _ => true) true Try.f3.params.toList args.toList ds p := hA0
  rw [Try.params3] at hA hval hsz
  obtain ⟨v0, vs0, d0, ds0, p0, q0, hargs, rfl, rfl, h0, r0⟩ := trodAll_cons hA
  obtain ⟨rfl, rfl, rfl⟩ := trodAll_nil r0
  obtain rfl : args = #[v0] := by cases args; simp_all
  obtain ⟨rfl, rfl⟩ := trodVars_none hV
  obtain ⟨a0, len0, cap0, rfl⟩ := okWide_slice Try.underlying22 (hval 0 22 v0 rfl rfl)
  have k0 := h0
  have lt0 : ∀ x ∈ p0, x.block < W.heap.size := by obtain ⟨m, hm⟩ := k0; exact DataW.trod_lt m _ _ _ hm
  obtain ⟨T, hT, hc0, hn0, hbk⟩ : ∃ T, Things W a0 len0 T ∧ len0 ≤ cap0 ∧ len0 ≤ 140737488351232 ∧ ∀ i, i < len0 → (T i).B.length ≤ 140737488351232 ∧ (T i).lR ≤ 140737488351232 := by
    obtain ⟨fuel, hf⟩ := h0
    obtain ⟨a, len, cap, T, hcs, hl, hm, hT, hw⟩ := open_things hf
    simp [Value.cells] at hcs
    obtain ⟨rfl, rfl, rfl⟩ := hcs
    have h2 := hw (fun y hy => of_decide_eq_true (List.all_eq_true.1 hsz y (DataW.weights_mem_each (j := 0) rfl rfl y hy)))
    exact ⟨T, hT, hl, h2.1, h2.2⟩
  clear hA0 hval0 hsz
  refine (walk a0 len0 cap0 T W hT hn0 hbk).mono fun e W' ⟨he, bel⟩ => ?_
  subst he
  exact ⟨_, rfl, _, _, _, [], _, [], hW', trodAll_mk1 (shut_bool Try.underlying4 _), (trodAll_cons_mk (Below.trod laidOut (by kernel_rfl) (of_decide_eq_true (by kernel_rfl)) k0 bel lt0) trodAll_mk0), rfl, bel.frame _, fun h => by cases h⟩

theorem over : Rows.wirePutsRow.holds Try.pinned (OpenSpec.ofChange Rows.wirePutsSpec) :=
  OpenClaim.holds_of_wide 3 Try.f3 rfl rfl rfl rfl rfl rfl rfl ⟨rfl, rfl, rfl, rfl, rfl⟩ rfl rfl rfl rfl rfl (by kernel_rfl) Try.func3 (by kernel_rfl)
    (of_decide_eq_true (by kernel_rfl)) (by unfold Func.isWrapper; first | (rw [if_pos (by decide +kernel)]; kernel_rfl) | (rw [if_neg (by decide +kernel)]; exact ⟨rfl, rfl⟩))
    (fun os started H enc _ => lifted os started H enc)

end Go.Proofs.Ytpnphijfdcimlaa.wirePuts
namespace Go.Proofs.Ytpnphijfdcimlaa
/-- For every row of things: WirePuts returns true, and the argument reads as it did. -/
theorem wirePuts_holds : Rows.WirePutsSaid := wirePuts.over
#print axioms wirePuts_holds
end Go.Proofs.Ytpnphijfdcimlaa
