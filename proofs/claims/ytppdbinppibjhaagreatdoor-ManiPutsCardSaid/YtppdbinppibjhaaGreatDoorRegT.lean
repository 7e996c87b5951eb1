/-
  A region whose order is open, whose last operations (from m on) each wait for all others ahead of them: by what each of the first m leaves in its slot. What can be told by looking at the operations alone is told by programs (dstB, injB, backB, tailB).
-/
import Derived.Test.YtppdbinppibjhaaGreatDoorRegionsA
import Derived.Test.YtppdbinppibjhaaGreatDoorRelM
import Derived.Test.YtppdbinppibjhaaGreatDoorRows2
import Derived.RangeFuncCalls
import Derived.Laws.Tables
set_option linter.unusedVariables false
set_option linter.unusedSimpArgs false
namespace Go.Proofs.YtppdbinppibjhaaGreatDoor
open Go.RowKit
def slotOf (ops : Array Oper) (i : Nat) : Nat := ((ops[i]?).bind fun o => o.dst).getD 0
def dstB (ops : Array Oper) (m nt : Nat) : Bool := (List.range m).all fun i => (ops[i]?).any fun o => o.dst.isSome && decide (slotOf ops i < nt)
def injB (ops : Array Oper) (m : Nat) : Bool := (List.range m).all fun i => (List.range i).all fun j => slotOf ops i != slotOf ops j
def backB (ops : Array Oper) : Bool := (List.range ops.size).all fun i => (ops[i]?).all fun o => o.after.toList.all fun e => !Region.binds .any e || decide (e.on < i)
def maskL : List Edge → Nat
 | [] => 0
 | e :: r => if Region.binds .any e then 2 ^ e.on ||| maskL r else maskL r
def maskOf (ops : Array Oper) (i : Nat) : Nat := match ops[i]? with | some o => maskL o.after.toList | none => 0
def clo (ops : Array Oper) : Nat → Nat → Nat
 | 0, S => S
 | j + 1, S => clo ops j (if S.testBit j then S ||| maskOf ops j else S)
def tailB (ops : Array Oper) (m : Nat) : Bool := (List.range' m (ops.size - m)).all fun k => (List.range k).all fun j => (clo ops k (maskOf ops k)).testBit j
theorem all_listedB {ops : Array Oper} (hac : ∀ (i : Nat) (o : Oper), ops[i]? = some o → ∀ e ∈ o.after, Region.binds .any e = true → e.on < i) {listed : Array Bool} (hs : listed.size = ops.size) (hr : Region.ready .any ops listed = []) : ∀ i, i < ops.size → listed.getD i false = true := by
 intro i
 induction i using Nat.strongRecOn with
 | ind i ih =>
   intro hi
   cases hb : listed.getD i false with
   | true => rfl
   | false =>
     exfalso
     have hx : listed.getD i true = listed.getD i false := by
      simp only [Array.getD_eq_getD_getElem?, Array.getElem?_eq_getElem (show i < listed.size by omega)]; rfl
     have hm : i ∈ Region.ready .any ops listed := mem_ready.2 ⟨by rw [hx, hb], ops[i], Array.getElem?_eq_getElem hi, fun e he hbb => ih e.on (hac i _ (Array.getElem?_eq_getElem hi) e he hbb) (by have := hac i _ (Array.getElem?_eq_getElem hi) e he hbb; omega)⟩
     rw [hr] at hm
     cases hm
theorem mask_bit (l : List Edge) (j : Nat) (h : (maskL l).testBit j = true) : ∃ e ∈ l, Region.binds .any e = true ∧ e.on = j := by
 induction l with
 | nil => simp [maskL] at h
 | cons e r ih =>
   unfold maskL at h
   split at h
   ·rename_i hb
    rw [Nat.testBit_or, Bool.or_eq_true] at h
    rcases h with h | h
    ·rw [Nat.testBit_two_pow] at h
     exact ⟨e, by simp, hb, by simpa using h⟩
    ·obtain ⟨e', h1, h2, h3⟩ := ih h
     exact ⟨e', by simp [h1], h2, h3⟩
   ·obtain ⟨e', h1, h2, h3⟩ := ih h
    exact ⟨e', by simp [h1], h2, h3⟩
theorem clo_sound {ops : Array Oper} {listed : Array Bool} (hup : upTo ops listed) : ∀ (j S : Nat), (∀ i, S.testBit i = true → listed.getD i false = true) → ∀ i, (clo ops j S).testBit i = true → listed.getD i false = true
 | 0, _, h => h
 | j + 1, S, h => by
   refine clo_sound hup j _ ?_
   intro i hi
   split at hi
   ·rename_i hj
    rw [Nat.testBit_or, Bool.or_eq_true] at hi
    rcases hi with hi | hi
    ·exact h i hi
    ·unfold maskOf at hi
     split at hi
     ·rename_i o ho
      obtain ⟨e, h1, h2, rfl⟩ := mask_bit _ _ hi
      exact hup j o ho (h j hj) e (by simpa using h1) h2
     ·simp at hi
   ·exact h i hi
theorem tail_reach {ops : Array Oper} {m : Nat} (ht : tailB ops m = true) {k : Nat} (hm : m ≤ k) (hk : k < ops.size) {listed : Array Bool} {o : Oper} (hup : upTo ops listed) (ho : ops[k]? = some o) (hd : ∀ e ∈ o.after, Region.binds .any e = true → listed.getD e.on false = true) : ∀ j, j < k → listed.getD j false = true := by
 intro j hj
 have h1 := List.all_eq_true.1 ht k (List.mem_range'_1.2 ⟨hm, by omega⟩)
 have h2 := List.all_eq_true.1 h1 j (List.mem_range.2 hj)
 refine clo_sound hup k _ ?_ j h2
 intro i hi
 unfold maskOf at hi
 rw [ho] at hi
 obtain ⟨e, he, hb, rfl⟩ := mask_bit _ _ hi
 exact hd e (by simpa using he) hb
section
variable {F : Fence} {n : Nat} {P : Program} {ops : Array Oper} {Q : Exit → Act → World → Prop}
end
def Wide (F : Fence) : Prop := F = Fence.wide ∨ ∃ l, F = Fence.wide.inRound l
theorem Wide.fn {F : Fence} (h : Wide F) (f : FuncId) : F.fn f := by
 rcases h with rfl | ⟨l, rfl⟩ <;> trivial
theorem Wide.deep {F : Fence} (h : Wide F) {k : Nat} : F.depth.isSome = true → 1 ≤ k := by
 rcases h with rfl | ⟨l, rfl⟩ <;> exact fun h => by cases h
theorem Wide.call {F : Fence} (h : Wide F) {n : Nat} {P : Program} {f : FuncId} {args : Array Value} {w : World} {R : Ending → World → Prop} (hc : Calls P f args w R) : CallsIn F n P f args w R := by
 rcases h with rfl | ⟨l, rfl⟩
 ·exact callsIn_wide.2 hc
 ·exact CallsIn.inRound l (callsIn_wide.2 hc)
theorem wide_plain : Wide Fence.wide := .inl rfl
theorem wide_round (l : Nat) : Wide (Fence.wide.inRound l) := .inr ⟨l, rfl⟩
end Go.Proofs.YtppdbinppibjhaaGreatDoor
