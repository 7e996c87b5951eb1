/-
  A scope that no jump comes to, inside a fence.
-/
import Derived.WalkKit
import Derived.WalkMore
import Derived.ControlIn
namespace Go.Proofs.YtppdbinppibjhaaGreatDoor

section
variable {F : Fence} {n : Nat} {P : Program} {Q : Exit → Act → World → Prop} {b : Frame} {a : Act} {k : List Item} {cs : List Frame} {w : World}
theorem scope_in {c : Code} : step P (lone (b.atR a (.code (.scope c) :: k)) cs w) = .next (lone (b.atR a (.code c :: .inScope c :: k)) cs w) :=
  step_lone_go (by simp [stepG, stepG.exec, Frame.atR])
theorem scope_out {c : Code} : step P (lone (b.atR a (.inScope c :: k)) cs w) = .next (lone (b.atR a k) cs w) :=
  step_lone_go (by simp [stepG, stepG.exec, Frame.atR])
theorem wpIn_scope {c : Code} (h : c.wpIn F n P (Exit.noGoto Q) a w) : (Code.scope c).wpIn F n P Q a w := by
  intro b k cs hro hb hr
  have h0 : (lone (b.atR a (.code (.scope c) :: k)) cs w).fenced P F := fenced_calm hb hr rfl
  obtain ⟨e, a1, w1, hq, harr⟩ := h b (.inScope c :: k) cs hro hb hr
  cases e with
  | normal => exact ⟨.normal, a1, w1, hq, .head h0 scope_in (StepsIn.trans harr (.one (fenced_calm hb hr rfl) scope_out))⟩
  | exit id =>
    have hx : exitTo id (.inScope c :: k) = exitTo id k := by simp [exitTo]
    refine ⟨.exit id, a1, w1, hq, fun k' hk => .head h0 scope_in (harr.1 k' (hx.trans hk)), fun hr' hk => ?_⟩
    obtain ⟨k1, h1, h2⟩ := harr.2 hr' (hx.trans hk)
    exact ⟨k1, h1, .head h0 scope_in h2⟩
  | goto l => exact hq.elim
  | ret => exact ⟨_, a1, w1, hq, .of_steps (.one h0 scope_in) harr⟩
  | panic ch => exact ⟨_, a1, w1, hq, .of_steps (.one h0 scope_in) harr⟩
  | outgrown => exact ⟨_, a1, w1, hq, .of_steps (.one h0 scope_in) harr⟩
end
end Go.Proofs.YtppdbinppibjhaaGreatDoor
