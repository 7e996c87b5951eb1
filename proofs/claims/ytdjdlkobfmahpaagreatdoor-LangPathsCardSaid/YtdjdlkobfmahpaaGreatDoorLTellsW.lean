/-
  LangTells's walk.
-/
import Derived.Test.YtdjdlkobfmahpaaGreatDoorLRefs
namespace Go.Proofs.YtdjdlkobfmahpaaGreatDoor
open Go.RowKit Go.Shelf

set_option maxRecDepth 100000 in
set_option maxHeartbeats 2000000 in
theorem langTells_any (L : List UInt8) (w : World) (hL : L.length ≤ 140737488351232) :
    Calls Tryz.prog 4 #[by8 L] w fun e w' => e = .returned (.bool true) ∧ Below w.heap.size w w' := by
  have hsz : (⟨L.toArray⟩ : ByteArray).size = L.length := by simp [ByteArray.size]
  unfold by8
  go_enter Tryz.func4, Tryz.ntmps4
  go_wp2_with fail
  refine (awake_any w).mono ?_
  rintro e w1 ⟨rfl, hb1⟩
  have R1 := hide hb1
  clear hb1
  by_cases hm : L.length ≤ 4000
  · have hm1 : ¬ (4000 : Int) < (L.length : Int) := by omega
    have hm2 : (L.length : Int) ≤ 4000 := by omega
    go_wp2_with fail
    refine (right_any L w1 (by omega)).mono ?_
    rintro e w2 ⟨rfl, hb2⟩
    have R2 := hide (R1.out.trans (hb2.mono R1.out.size))
    clear hb2
    generalize hr : rightP L = rr
    have HR := hide hr
    clear hr
    go_wp2_with fail
    refine (refRight_any L w2 (by omega)).mono ?_
    rintro e w3 ⟨rfl, hb3⟩
    have R3 := hide (R2.out.trans (hb3.mono R2.out.size))
    clear hb3
    rw [HR.out]
    have hrr : (rr == rr) = true := by simp
    go_wp2_with fail
    refine (of_any L w3 (by omega)).mono ?_
    rintro e w4 ⟨rfl, hb4⟩
    have R4 := hide (R3.out.trans (hb4.mono R3.out.size))
    clear hb4
    go_wp2_with fail
    refine (refOf_any L w4 (by omega)).mono ?_
    rintro e w5 ⟨rfl, hb5⟩
    have R5 := hide (R4.out.trans (hb5.mono R4.out.size))
    clear hb5
    unfold by8
    generalize ofL L = q
    have hqq : ((⟨q.toArray⟩ : ByteArray) == ⟨q.toArray⟩) = true := by rw [by8_beq]; simp
    go_wp2_with fail
    go_ret
    exact ⟨rfl, R5.out⟩
  · have hm1 : (4000 : Int) < (L.length : Int) := by omega
    go_wp2_with fail
    go_ret
    exact ⟨rfl, R1.out⟩
end Go.Proofs.YtdjdlkobfmahpaaGreatDoor
