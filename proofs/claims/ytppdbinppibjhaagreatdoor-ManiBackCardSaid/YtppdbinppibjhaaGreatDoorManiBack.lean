/-
  For every manifest, number, mask, cut and row of bytes: ManiBack returns true (what is put is got again; nothing wrong is put; what a burst turns, a cut shortens or more lengthens is not got), and the arguments read as they did. The library's variables are taken as the program's text lays them (the card ties them).
-/
import Derived.Test.YtppdbinppibjhaaGreatDoorMLaid
import Derived.Test.YtppdbinppibjhaaGreatDoorMBackW
import Derived.ShutString
import Derived.ChangeOld
import Derived.Below
namespace Go.Proofs.YtppdbinppibjhaaGreatDoor.maniBack
open Go.ChangeShapes Go.WideShapes Go.ChangeAt Go.WideMaps Go.WideElems Go.RowKit
set_option linter.unusedVariables false

set_option maxRecDepth 100000 in
theorem lifted (os : Os) (started : os.Started) (H : Type) (enc : TypeId × Value → H) :
    ReturnsInHanded {} Tryz.checked os 7 .any (fun w args => (Rows.maniBackSpec.pre enc Tryz.prog Tryz.f7 [] false w args ∧ laidMetH Tryz.prog tabLaid w) ∧ sizedMet enc Tryz.prog Tryz.f7 (OpenSpec.ofChange Rows.maniBackSpec) false w args)
      (Rows.maniBackSpec.post enc Tryz.prog Tryz.f7 false true false false) := by
  refine returnsInHanded_of_change_and (C := Tryz.checked) (X := fun w _ => laidMetH Tryz.prog tabLaid w) (fun _ _ _ hh h => h.of_heap hh) own started (by kernel_rfl) Tryz.func7
    (ChangeSpec.witness_shaped (enc := enc) (C := Tryz.checked) (os := os) (X := fun w _ => laidMetH Tryz.prog tabLaid w) false (World.doorLaid Tryz.prog 62 os) #[.agg #[.int .i64 0, .slice none 0 0], .int .i64 0, .int .u32 0, .int .i64 0, .slice none 0 0] 8 rfl (World.shaped_of_RefB (by kernel_rfl) (by kernel_rfl)) (by kernel_rfl) (by kernel_rfl) (by kernel_rfl) (door_met os _)) ?_
  intro W base args ds gs before hval0 hW _ hsz0 hL _
  have hsz : (DataW.weightsEach Tryz.prog (Tryz.f7.params.toList ++ Rows.maniBackSpec.plain.varTypes Tryz.prog) (ds ++ gs)).all (· ≤ reachBytes) = true := hsz0
  clear hsz0
  have hval : ∀ (j : Nat) t v, Tryz.f7.params[j]? = some t → args[j]? = some v → Value.okWide Tryz.prog W .any base t v := hval0
  have hW' := hW
  obtain ⟨p, q, hA0, hV, rfl, hfz, hnd⟩ := hW
  have hA : DataW.TrodAll enc Tryz.prog W 0 (fun _ => true) true Tryz.f7.params.toList args.toList ds p := hA0
  rw [Tryz.params7] at hA hval hsz
  obtain ⟨v0, vs0, d0, ds0, p0, q0, hargs, rfl, rfl, h0, r0⟩ := trodAll_cons hA
  obtain ⟨v1, vs1, d1, ds1, p1, q1, rfl, rfl, rfl, h1, r1⟩ := trodAll_cons r0
  obtain ⟨v2, vs2, d2, ds2, p2, q2, rfl, rfl, rfl, h2, r2⟩ := trodAll_cons r1
  obtain ⟨v3, vs3, d3, ds3, p3, q3, rfl, rfl, rfl, h3, r3⟩ := trodAll_cons r2
  obtain ⟨v4, vs4, d4, ds4, p4, q4, rfl, rfl, rfl, h4, r4⟩ := trodAll_cons r3
  obtain ⟨rfl, rfl, rfl⟩ := trodAll_nil r4
  obtain rfl : args = #[v0, v1, v2, v3, v4] := by cases args; simp_all
  obtain ⟨rfl, rfl⟩ := trodVars_none hV
  have k0 := h0
  have lt0 : ∀ x ∈ p0, x.block < W.heap.size := by obtain ⟨m, hm⟩ := k0; exact DataW.trod_lt m _ _ _ hm
  have k4 := h4
  have lt4 : ∀ x ∈ p4, x.block < W.heap.size := by obtain ⟨m, hm⟩ := k4; exact DataW.trod_lt m _ _ _ hm
  obtain ⟨G0, a0, len0, cap0, P0, e0, wG0, hl0, hc0, hn0, hP0, hz0, hzd0⟩ : ∃ (G : Int) (a : Option Addr) (len cap : Nat) (P : Nat → Shd), v0 = .agg #[.int .i64 G, .slice a len cap] ∧ (Lit.int .i64 G).wf = true ∧ len ≤ cap ∧ cap ≤ 9223372036854775807 ∧ (a = none → cap = 0) ∧ Shds W a len P ∧ len ≤ 140737488351232 ∧ ∀ i, i < len → (P i).D.length ≤ 140737488351232 := by
    obtain ⟨cs, rfl, hcz, _⟩ : ∃ cs, v0 = .agg cs ∧ cs.size = Tryz.prog.cellsOf 24 ∧ Row.okWide Tryz.prog W .any base 24 cs := by
      simpa [Value.okWide, Tryz.underlying24] using hval 0 24 v0 rfl rfl
    rw [cells_mani] at hcz
    obtain ⟨fuel, hf⟩ := h0
    obtain ⟨G, a, len, cap, P, hcs, h1, h2, h3, h4, h5, h6⟩ := open_mani (by simpa [Value.cells] using hcz) hf
    obtain ⟨l⟩ := cs
    simp only [Value.cells] at hcs
    subst hcs
    obtain ⟨h7, h8⟩ := h6 (fun y hy => of_decide_eq_true (List.all_eq_true.1 hsz y (DataW.weights_mem_each (j := 0) rfl rfl y hy)))
    exact ⟨G, a, len, cap, P, rfl, h1, h2, h3, h4, h5, h7, h8⟩
  obtain ⟨x1, rfl, rfl, rfl, wf1⟩ := open_int Tryz.underlying3 (hval 1 3 v1 rfl rfl) h1
  obtain ⟨x2, rfl, rfl, rfl, wf2⟩ := open_int Tryz.underlying52 (hval 2 52 v2 rfl rfl) h2
  have hx2 := u32_bounds wf2
  obtain ⟨n2, e2⟩ : ∃ n : Nat, x2 = (n : Int) := ⟨x2.toNat, by omega⟩
  have hn2 : n2 < 4294967296 := by omega
  obtain ⟨x3, rfl, rfl, rfl, wf3⟩ := open_int Tryz.underlying3 (hval 3 3 v3 rfl rfl) h3
  obtain ⟨a4, len4, cap4, e4⟩ := okWide_slice Tryz.underlying28 (hval 4 28 v4 rfl rfl)
  obtain ⟨zz4, ww4, r4⟩ : ∃ zs, IsRow .u8 W a4 len4 cap4 zs ∧ cap4 ≤ 140737488351232 := by
    obtain ⟨fuel, hf⟩ := h4
    rw [e4] at hf
    rcases open_ints Tryz.underlying28 Tryz.underlying5 (by kernel_rfl) hf with ⟨hcs, _⟩ | ⟨x, l, c, zs, hcs, _, hl, hm, hz, hx0, hcell, hwz⟩
    · simp [Value.cells] at hcs
      obtain ⟨rfl, rfl, rfl⟩ := hcs
      exact ⟨[], .inl ⟨rfl, rfl, rfl, rfl⟩, by omega⟩
    · simp [Value.cells] at hcs
      obtain ⟨rfl, rfl, rfl⟩ := hcs
      simp only [Prod.mk.injEq] at hx0
      obtain ⟨hx0, _⟩ := hx0
      subst hx0
      have hby : Tryz.prog.bytesOf 5 = 1 := by kernel_rfl
      have hout : ((zs.take len4).length + (zs.drop len4).length) * 1 ≤ reachBytes := by
        have := of_decide_eq_true (List.all_eq_true.1 hsz _ (DataW.weights_mem_each (j := 4) (t := 28) rfl rfl (((zs.take len4).length + (zs.drop len4).length) * Tryz.prog.bytesOf 5) (by simp only [DataW.weights, Tryz.underlying28, lits, List.length_map]; exact List.mem_cons_self)))
        rwa [hby] at this
      rw [List.length_take, List.length_drop, show reachBytes = 140737488351232 from rfl] at hout
      have hz' : zs.length = cap4 := by simpa using hz
      exact ⟨zs, .inr ⟨_, rfl, hl, hm, hz', hcell, hwz⟩, by omega⟩
  obtain ⟨L4, hL4, hS4⟩ := row_sb ww4
  clear hA0 hval0
  refine (show Calls Tryz.prog 7 #[v0, .int .i64 x1, .int .u32 x2, .int .i64 x3, v4] W fun e w' => e = .returned (.bool true) ∧ Below W.heap.size W w' by rw [e0, e2, e4]; exact back_walk G0 a0 len0 cap0 P0 x1 x3 n2 a4 len4 cap4 L4 W hz0 wG0 hP0 hzd0 wf1 wf3 hn2 hL4 hS4).mono fun e W' ⟨he, bel⟩ => ?_
  subst he
  exact ⟨_, rfl, _, _, _, [], _, [], hW', trodAll_mk1 (shut_bool Tryz.underlying4 _), (trodAll_cons_mk (Below.trod laidOut (by kernel_rfl) (of_decide_eq_true (by kernel_rfl)) k0 bel lt0) (trodAll_cons_mk (shut_int Tryz.underlying3 wf1) (trodAll_cons_mk (shut_int Tryz.underlying52 wf2) (trodAll_cons_mk (shut_int Tryz.underlying3 wf3) (trodAll_cons_mk (Below.trod laidOut (by kernel_rfl) (of_decide_eq_true (by kernel_rfl)) k4 bel lt4) trodAll_mk0))))), rfl, bel.frame _, fun h => by cases h⟩

theorem over : Rows.ManiBackSaid :=
  OpenClaim.holds_of_wide 7 Tryz.f7 rfl rfl rfl rfl rfl rfl rfl ⟨rfl, rfl, rfl, rfl, rfl⟩ rfl rfl rfl rfl rfl (by kernel_rfl) Tryz.func7 (by kernel_rfl)
    (of_decide_eq_true (by kernel_rfl)) (by unfold Func.isWrapper; first | (rw [if_pos (by decide +kernel)]; kernel_rfl) | (rw [if_neg (by decide +kernel)]; exact ⟨rfl, rfl⟩))
    (fun os started H enc _ => lifted os started H enc)
end Go.Proofs.YtppdbinppibjhaaGreatDoor.maniBack
namespace Go.Proofs.YtppdbinppibjhaaGreatDoor
/-- The card. -/
theorem maniBack_card : Rows.ManiBackCardSaid :=
  Claim7.holds_tied_plain_at .later [] [.data, .data, .data, .sentinel, .sentinel] true _ true
    maniBack.over (fun _ h => by cases h) (by kernel_rfl) (fun _ h => by cases h) maniBack_row_tie rfl ⟨rfl, rfl⟩ (by kernel_rfl) rfl
    (fun f fn hf hfn => by
      obtain rfl : f = 7 := Option.some.inj ((show Tryz.prog.funcNamed "mudlark/mudlarklaw25.ManiBack" = some 7 by kernel_rfl).symm.trans hf) |>.symm
      obtain rfl : fn = Tryz.f7 := (Option.some.inj (Tryz.func7.symm.trans hfn)).symm
      exact ⟨by kernel_rfl, fun j t ht => by
        rw [Tryz.params7] at ht
        have hm : t ∈ [24, 3, 52, 3, 28] := by simpa using Array.mem_of_getElem? ht
        have hall : (([24, 3, 52, 3, 28] : List TypeId).all fun u => !Tryz.prog.wantsStandIn u) = true := by kernel_rfl
        exact (show Tryz.prog.wantsStandIn t = false by simpa using List.all_eq_true.1 hall t hm)⟩)
    (by kernel_rfl)
#print axioms maniBack_card
end Go.Proofs.YtppdbinppibjhaaGreatDoor
