/-
  The kit's question whether two rows of bytes of one length are the same, whatever they hold: it answers.
-/
import Derived.Test.YtppdbinppibjhaaGreatDoorSame
namespace Go.Proofs.YtppdbinppibjhaaGreatDoor
open Go.RowKit

set_option maxHeartbeats 400000 in
theorem sameBytes_bool (a b : Option Addr) (n ca cb : Nat) (L M : List Nat) (w : World) (hL : L.length = n) (hM : M.length = n) (hn : n ≤ 9223372036854775807) (ha : BL w a L) (hb : BL w b M) :
    Calls Tryz.prog 14 #[.slice a n ca, .slice b n cb] w fun e w' => ∃ t, e = .returned (.bool t) ∧ Below w.heap.size w w' := by
  go_enter Tryz.func14, Tryz.ntmps14
  go_wp2
  go_loopg [5] n (fun q s5 wr => ∃ k : Nat, k + q = n ∧ s5 = .int .i64 k ∧ Below w.heap.size w wr)
  case atStart => exact ⟨0, by omega, rfl, Below.refl _ _⟩
  case round =>
    obtain ⟨k, hkq, rfl, hbr⟩ := hrel
    cases gk with
    | zero =>
      obtain rfl : k = n := by omega
      clear ha hb hL hM
      go_wp2
      go_ret
      exact ⟨_, rfl, hbr⟩
    | succ q =>
      have hkz : (k : Int) < (n : Int) := by omega
      have hk0 : (0 : Int) ≤ (k : Int) := by omega
      obtain ⟨g1, o1, rfl, c1⟩ := ha.cell (by omega)
      obtain ⟨g2, o2, rfl, c2⟩ := hb.cell (by omega)
      have d1 := cell_thru (c1 k (by omega)) hbr
      have d2 := cell_thru (c2 k (by omega)) hbr
      clear c1 c2 ha hb hL hM
      generalize L.getD k 0 = x at d1
      generalize M.getD k 0 = y at d2
      by_cases hxy : x = y
      · subst hxy
        go_upto_region 6 with fail
        go_cut [25] (fun s wx => s = .bool false ∧ Below w.heap.size w wx)
        case first =>
          go_quiet (fail)
          all_goals
            go_wp2_with fail
            go_meet
            exact ⟨rfl, below_drewN hbr _⟩
        case rest =>
          obtain ⟨rfl, hbc⟩ := hcut
          go_wp2_with fail
          go_roundg q
          case measure => omega
          case rel => exact ⟨k + 1, by omega, by go_num, hbc⟩
      · have hne : ((x : Int) != (y : Int)) = true := by simp; omega
        go_upto_region 6 with fail
        go_cut [25] (fun s wx => s = .bool true ∧ Below w.heap.size w wx)
        case first =>
          go_quiet (fail)
          all_goals
            go_wp2_with fail
            go_meet
            exact ⟨rfl, below_drewN hbr _⟩
        case rest =>
          obtain ⟨rfl, hbc⟩ := hcut
          go_wp2_with fail
          go_ret
          exact ⟨_, rfl, hbc⟩
end Go.Proofs.YtppdbinppibjhaaGreatDoor
