/-
  For every row of parts, every number and bit: CrcTells returns true (the sum of the parts, a sum gone on by each of them, and a number with a bit more are what the document tells; the parts stay; more than 20000 parts and bytes are let by), and the arguments read as they did.
-/
import Derived.Test.YtdcpgoijjnkjaaaRows
import Derived.Test.YtdcpgoijjnkjaaaTellsW
import Derived.WalkKit
import Derived.ProofKit
import Derived.OpenShut
import Derived.ShutString
import Derived.ChangeOld
import Derived.Below
import Derived.SizedLaws
import Derived.Deep.Matrix
namespace Go.Proofs.Ytdcpgoijjnkjaaa.crcTells
open Go.ChangeShapes Go.WideShapes Go.ChangeAt Go.RowKit Go.Deep
set_option linter.unusedVariables false

theorem own : ownKnob Try.prog.godebug = none := by kernel_rfl
theorem laidOut : laidOutB Try.prog = true := by kernel_rfl
theorem bytesRow : Try.prog.bytesOf 24 = 24 := by kernel_rfl
theorem bytesByte : Try.prog.bytesOf 5 = 1 := by kernel_rfl
theorem reach_eq : reachBytes = 140737488351232 := rfl
theorem weightsAll_mem {H : Type} {P : Program} {e : TypeId} : ∀ {l : List (DataW H)} {d : DataW H}, d ∈ l → ∀ n ∈ d.weights P e, n ∈ DataW.weightsAll P e l
  | d' :: r, d, hd, n, hn => by
    simp only [DataW.weightsAll, List.mem_append]
    rcases List.mem_cons.1 hd with rfl | h
    · exact Or.inl hn
    · exact Or.inr (weightsAll_mem h n hn)
theorem row_reach {H : Type} {P : Program} {ts : List TypeId} {ds : List (DataW H)} (h : (DataW.weightsEach P ts ds).all (· ≤ reachBytes) = true) {j : Nat} {t e q : TypeId} {elems spare e' sp' : List (DataW H)}
    (ht : ts[j]? = some t) (hd : ds[j]? = some (.slice elems spare)) (hu : P.underlying t = some (.slice e)) (hu2 : P.underlying e = some (.slice q)) (hx : DataW.slice e' sp' ∈ elems) : (e'.length + sp'.length) * P.bytesOf q ≤ reachBytes := by
  refine of_decide_eq_true (List.all_eq_true.1 h _ (DataW.weights_mem_each ht hd _ ?_))
  simp only [DataW.weights, hu, List.mem_cons, List.mem_append]
  exact Or.inr (Or.inl (weightsAll_mem hx _ (by simp [DataW.weights, hu2])))

/-- What the walk is told of rows that came in. -/
def Came (w : World) (a : Option Addr) (n : Nat) : Prop :=
  n ≤ 140737488351232 ∧ ∃ (p : Nat → Option Addr) (l c : Nat → Nat) (z : Nat → Nat → Nat), (∀ j, j < n → l j ≤ 140737488351232) ∧ (∀ j i, z j i < 256) ∧ InRows w a n p l c z

theorem walk (a0 : Option Addr) (len0 cap0 : Nat) (a1 : Int) (a2 : Bool) (w : World) (w0 : Came w a0 len0) (w1 : (Lit.int .u32 a1).wf = true) :
    Calls Try.prog 3 #[.slice a0 len0 cap0, .int .u32 a1, .bool a2] w fun e w' => e = .returned (.bool true) ∧ Below w.heap.size w w' := by
  obtain ⟨hn, p, l, c, z, hl, hz, hP⟩ := w0
  have hm := u32_bounds w1
  have h := tells_walk a0 len0 cap0 p l c z a1.toNat a2 w (by omega) hn hl hz hP
  rw [Int.toNat_of_nonneg hm.1] at h
  exact h

set_option maxRecDepth 100000 in
theorem lifted (os : Os) (started : os.Started) (H : Type) (enc : TypeId × Value → H) :
    ReturnsInHanded {} Try.checked os 3 .any (Rows.crcTellsSpec.pre6 enc Try.prog Try.f3 Rows.crcTellsRow.domain false) (Rows.crcTellsSpec.post enc Try.prog Try.f3 false true false false) := by
  refine returnsInHanded_of_change_sized (C := Try.checked) own started (by kernel_rfl) Try.func3
    (ChangeSpec.witness6 (enc := enc) (C := Try.checked) false ⟨#[], #[.slice none 0 0, .int .u32 0, .bool false], []⟩ 8 (by kernel_rfl) (by kernel_rfl) (by kernel_rfl) (by kernel_rfl)) ?_
  intro W base args ds gs before hval0 hW hcnd hsz0 _
  have hsz : (DataW.weightsEach Try.prog (Try.f3.params.toList ++ Rows.crcTellsSpec.plain.varTypes Try.prog) (ds ++ gs)).all (· ≤ reachBytes) = true := hsz0
  clear hsz0
  have hval : ∀ (j : Nat) t v, Try.f3.params[j]? = some t → args[j]? = some v → Value.okWide Try.prog W .any base t v := hval0
  have hW' := hW
  obtain ⟨p, q, hA0, hV, rfl, hfz, hnd⟩ := hW
  have hA : DataW.TrodAll enc Try.prog W 0 (fun _ => true) true Try.f3.params.toList args.toList ds p := hA0
  rw [Try.params3] at hA hval hsz
  obtain ⟨v0, vs0, d0, ds0, p0, q0, hargs, rfl, rfl, h0, r0⟩ := trodAll_cons hA
  obtain ⟨v1, vs1, d1, ds1, p1, q1, rfl, rfl, rfl, h1, r1⟩ := trodAll_cons r0
  obtain ⟨v2, vs2, d2, ds2, p2, q2, rfl, rfl, rfl, h2, r2⟩ := trodAll_cons r1
  obtain ⟨rfl, rfl, rfl⟩ := trodAll_nil r2
  obtain rfl : args = #[v0, v1, v2] := by cases args; simp_all
  obtain ⟨rfl, rfl⟩ := trodVars_none hV
  obtain ⟨a0, len0, cap0, rfl⟩ := okWide_slice Try.underlying22 (hval 0 22 v0 rfl rfl)
  have k0 := h0
  have lt0 : ∀ x ∈ p0, x.block < W.heap.size := by obtain ⟨m, hm⟩ := k0; exact DataW.trod_lt m _ _ _ hm
  have w0 : Came W a0 len0 := by
    obtain ⟨fuel, hf⟩ := h0
    rcases open_int_rows Try.underlying22 Try.underlying24 Try.underlying5 (by kernel_rfl) (by kernel_rfl) hf with ⟨hcs, _⟩ | ⟨x, n', cap', A, L, C, Z, hcs, _, hl, hm, hx, hrows⟩
    · simp [Value.cells] at hcs
      obtain ⟨rfl, rfl, rfl⟩ := hcs
      exact ⟨by omega, fun _ => none, fun _ => 0, fun _ => 0, fun _ _ => 0, fun j hj => by omega, fun _ _ => by show 0 < 256; omega, .inl rfl⟩
    · simp [Value.cells] at hcs
      obtain ⟨rfl, rfl, rfl⟩ := hcs
      simp only [Prod.mk.injEq] at hx
      obtain ⟨hx, _⟩ := hx
      subst hx
      have hout := sized_slice hsz (j := 0) (t := 22) (e := 24) rfl rfl Try.underlying22
      simp only [List.length_map, List.length_range, bytesRow, reach_eq] at hout
      have hLb : ∀ r, r < len0 → L r ≤ 140737488351232 := fun r hr => by
        obtain ⟨_, hL, hC, hZ, _, hN, _⟩ := hrows r (by omega)
        cases hAr : A r with
        | none => have := hN hAr; omega
        | some a' =>
          have hin := row_reach hsz (j := 0) (t := 22) (e := 24) (q := 5) rfl rfl Try.underlying22 Try.underlying24
            (e' := lits .u8 ((Z r).take (L r))) (sp' := lits .u8 ((Z r).drop (L r)))
            (List.mem_map.2 ⟨r, List.mem_range.2 hr, by simp [intRow, hAr]⟩)
          simp only [lits, List.length_map, List.length_take, List.length_drop, bytesByte, reach_eq] at hin
          omega
      have hbyt : ∀ r, r < cap0 → L r ≤ C r ∧ C r ≤ 9223372036854775807 ∧ (A r = none → C r = 0) ∧ ∃ z, Byt W (A r) (L r) z := fun r hr => by
        obtain ⟨_, hL, hC, hZ, hwf, hN, hcell⟩ := hrows r hr
        have hir : IsRow .u8 W (A r) (L r) (C r) (Z r) := by
          cases hAr : A r with
          | none =>
            have h0 := hN hAr
            exact .inl ⟨rfl, by omega, h0, List.eq_nil_of_length_eq_zero (by omega)⟩
          | some a' => exact .inr ⟨a', rfl, hL, hC, hZ, fun i hi => (hcell a' hAr).2 i (by omega), hwf⟩
        exact hir.byt
      have hch : ∀ r, ∃ z : Nat → Nat, (∀ i, z i < 256) ∧ (r < cap0 → Byt W (A r) (L r) z) := fun r => by
        by_cases hr : r < cap0
        · obtain ⟨_, _, _, z, hz⟩ := hbyt r hr
          exact ⟨z, hz.1, fun _ => hz⟩
        · exact ⟨fun _ => 0, fun _ => by show 0 < 256; omega, fun h => absurd h hr⟩
      refine ⟨by omega, A, L, C, fun r => Classical.choose (hch r), hLb, fun r i => (Classical.choose_spec (hch r)).1 i, ?_⟩
      rcases Nat.eq_zero_or_pos len0 with h0 | hp
      · exact .inl h0
      · obtain ⟨b, off, spot⟩ := x
        have hs := World.cell?_spot (hrows 0 (by omega)).1
        have hsp : spot = none := by simpa [Addr.add] using hs
        subst hsp
        refine .inr ⟨b, off, rfl, fun r hr => ⟨?_, (hbyt r (by omega)).1, (hbyt r (by omega)).2.1, (hbyt r (by omega)).2.2.1, (Classical.choose_spec (hch r)).2 (by omega)⟩⟩
        have h := (hrows r (by omega)).1
        rw [← h]
        unfold Addr.add
        split
        · rename_i e; rw [e, Nat.add_zero]
        · rfl
  obtain ⟨a1, rfl, rfl, rfl, w1⟩ := open_int Try.underlying23 (hval 1 23 v1 rfl rfl) h1
  obtain ⟨a2, rfl, rfl, rfl⟩ := open_bool Try.underlying4 (hval 2 4 v2 rfl rfl) h2
  clear hA0 hval0 hsz
  refine (walk a0 len0 cap0 a1 a2 W w0 w1).mono fun e W' ⟨he, bel⟩ => ?_
  subst he
  exact ⟨_, rfl, _, _, _, [], _, [], hW', trodAll_mk1 (shut_bool Try.underlying4 _), (trodAll_cons_mk (Below.trod laidOut (by kernel_rfl) (of_decide_eq_true (by kernel_rfl)) k0 bel lt0) (trodAll_cons_mk (shut_int Try.underlying23 w1) (trodAll_cons_mk (shut_bool Try.underlying4 a2) trodAll_mk0))), rfl, bel.frame _, fun h => by cases h⟩

theorem over : Rows.crcTellsRow.holds Try.pinned (OpenSpec.ofChange Rows.crcTellsSpec) :=
  OpenClaim.holds_of_wide 3 Try.f3 rfl rfl rfl rfl rfl rfl rfl ⟨rfl, rfl, rfl, rfl, rfl⟩ rfl rfl rfl rfl rfl (by kernel_rfl) Try.func3 (by kernel_rfl)
    (of_decide_eq_true (by kernel_rfl)) (by unfold Func.isWrapper; first | (rw [if_pos (by decide +kernel)]; kernel_rfl) | (rw [if_neg (by decide +kernel)]; exact ⟨rfl, rfl⟩))
    (fun os started H enc _ => lifted os started H enc)

end Go.Proofs.Ytdcpgoijjnkjaaa.crcTells
namespace Go.Proofs.Ytdcpgoijjnkjaaa
/-- For every row of parts, every number and bit: CrcTells returns true, and the arguments read as they did. -/
theorem crcTells_holds : Rows.CrcTellsSaid := crcTells.over
#print axioms crcTells_holds
end Go.Proofs.Ytdcpgoijjnkjaaa
