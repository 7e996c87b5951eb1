/-
  The reference's Lines and Line.
-/
import Derived.Test.YteanibapabafnaaTLines
import Derived.Test.YteanibapabafnaaSame
import Derived.Laws.BytesArg
namespace Go.Proofs.Yteanibapabafnaa
open Go.RowKit

theorem bg_yes {z : Nat → Nat} {k : Nat} (h : z k = 10) : bg z (k + 1) = bg z k ++ [k + 1] := by
  unfold bg
  rw [fd_yes (show isF z k = true by unfold isF; rw [h]; rfl)]
  simp
theorem bg_no {z : Nat → Nat} {k : Nat} (h : z k ≠ 10) : bg z (k + 1) = bg z k := by
  unfold bg
  rw [fd_no (show isF z k = false by unfold isF; simpa using h)]
set_option maxRecDepth 100000 in
set_option maxHeartbeats 1000000 in
theorem refLines_any (a : Option Addr) (len cap : Nat) (z : Nat → Nat) (w : World) (hlen : len ≤ 1000000) (hz : Byt w a len z) :
    Calls Try.prog 12 #[.slice a len cap] w fun e w' => ∃ v, e = .returned v ∧ w'.ownsRow w.heap.size 3 1 v (bg z len).length (icl (bg z len)) ∧ Below w.heap.size w w' := by
  obtain ⟨i0, hi, hq0, hq1, hq2⟩ := info_parts info_int
  have hrow0 : (w.alloc (.cells #[.int .i64 0] 3)).ownsRow w.heap.size 3 1 (.slice (some ⟨w.heap.size, 0, none⟩) 1 1) 1 (icl (bg z 0)) := ⟨rfl, .inr ⟨w.heap.size, 1, #[.int .i64 0], rfl, Nat.le_refl _, heap_alloc_new _ _, Nat.le_refl _, by unfold maxLen; omega, rfl, rfl⟩⟩
  have HR0 := hide hrow0
  clear hrow0
  go_enter Try.func12, Try.ntmps12
  go_wp2_with fail
  go_loopg [3, 4] len (fun q s3 s4 wr => ∃ (k : Nat) (A : Option Addr) (C : Nat), k + q = len ∧ s4 = .int .i64 k ∧ s3 = .slice A (bg z k).length C ∧ wr.ownsRow w.heap.size 3 1 (.slice A (bg z k).length C) (bg z k).length (icl (bg z k)) ∧ Below w.heap.size w wr)
  case atStart => exact ⟨0, _, _, by omega, rfl, rfl, HR0.out, below_alloc _ _⟩
  case round =>
    obtain ⟨k, A, C, hkq, rfl, rfl, hown, hbr⟩ := hrel
    have HO := hide hown
    have HB := hide hbr
    cases gk with
    | zero =>
      obtain rfl : k = len := by omega
      have hkz : ¬ ((k : Int) < (k : Int)) := by omega
      clear hown hbr hz
      go_wp2_with fail
      go_ret
      exact ⟨_, rfl, HO.out, HB.out⟩
    | succ q =>
      have hkl : k < len := by omega
      have hk1 : (k : Int) < (len : Int) := by omega
      obtain ⟨b, off, rfl, hc⟩ : ∃ b off, a = some ⟨b, off, none⟩ ∧ ∀ i, i < len → w.cell? ⟨b, off + i, none⟩ = some (.int .u8 (z i : Nat)) := by
        rcases hz.2 with h | h
        · omega
        · exact h
      have hck := cell_thru (hc k hkl) hbr
      have hgl : (bg z k).length ≤ k + 1 := bg_length_le z k
      clear hc
      by_cases hf : z k = 10
      · have hb := hide (bg_yes hf)
        have hf' := hf
        rw [hf] at hck
        have hnew := cell_one_new wr (.int .i64 ((k : Int) + 1)) 3
        have hrA := owns_thru hown (below_alloc wr (.cells #[.int .i64 ((k : Int) + 1)] 3))
        have hsz := hbr.size
        obtain ⟨m, hm⟩ : ∃ m, (bg z k).length = m := ⟨_, rfl⟩
        rw [hm] at hrA hgl ⊢
        have HM := hide hm
        clear hown hbr hf hz hm
        go_wp2_with (at_builtin; go_must (refine wpList_append_foot _ rfl (.tmp 17) (.tmp 20) 23 rfl 3 i0 (.int .i64 0) 8 Try.underlying23 hi hq0 hq1 hq2 rfl w.heap.size _ m (icl (bg z k)) rfl hrA (some ⟨wr.heap.size, 0, none⟩) 1 1 [.int .i64 ((k : Int) + 1)] rfl rfl (fun e => by cases e) (fun ad e => by cases e; exact hnew) (by simp [Value.oneCell']) (by unfold maxLen; omega) (by omega) (by simp; omega) ?_); intro A' C' w1 hown' hG')
        go_roundg q
        case measure => omega
        case rel =>
          have hlen' : (bg z (k + 1)).length = m + 1 := by rw [hb.out, List.length_append, HM.out]; rfl
          refine ⟨k + 1, A', C', by omega, by go_num, by rw [hlen'], ?_, ?_⟩
          · rw [hlen', hb.out, icl_snoc]; exact hown'
          · have hG2 : Grew (wr.alloc (.cells #[.int .i64 ((k : Int) + 1)] 3)) w1 (.slice A m C) (.slice A' (m + 1) C') := hG'
            have hb2 : Below w.heap.size (wr.alloc (.cells #[.int .i64 ((k : Int) + 1)] 3)) w1 := (hG2.kept (F := fun x => (Value.slice A m C).ownBlock = some x) (fun _ h => h)).below (fun x hx => (owns_cells HO.out x (by rw [← hx, HM.out])).2.1) (by simp; omega)
            exact HB.out.trans (((below_alloc wr _).mono hsz).trans hb2)
      · have hb := hide (bg_no hf)
        have hne : ((z k : Nat) : Int) ≠ 10 := by omega
        clear hown hbr hf hz
        generalize hx : z k = x at hck hne
        go_wp2_with fail
        go_roundg q
        case measure => omega
        case rel => exact ⟨k + 1, A, C, by omega, by go_num, by rw [hb.out], by rw [hb.out]; exact HO.out, HB.out⟩

set_option maxRecDepth 100000 in
set_option maxHeartbeats 1000000 in
theorem refLine_any (a : Option Addr) (len cap : Nat) (z : Nat → Int) (at_ : Int) (w : World) (hlen : len ≤ 140737488355328) (hz : Ints w a len z) :
    Calls Try.prog 14 #[.slice a len cap, .int .i64 at_] w fun e w' => ∃ m : Nat, e = .returned (.int .i64 (m : Int)) ∧ Lead z len at_ m ∧ Below w.heap.size w w' := by
  go_enter Try.func14, Try.ntmps14
  go_wp2_with fail
  go_loopg [5] len (fun q s5 wr => ∃ k : Nat, k + q = len ∧ s5 = .int .i64 k ∧ (∀ i, i < k → z i ≤ at_) ∧ Below w.heap.size w wr)
  case atStart => exact ⟨0, by omega, rfl, fun i hi => by omega, Below.refl _ _⟩
  case round =>
    obtain ⟨k, hkq, rfl, hle, hbr⟩ := hrel
    have HL := hide hle
    have HB := hide hbr
    cases gk with
    | zero =>
      obtain rfl : k = len := by omega
      have hkz : ¬ ((k : Int) < (k : Int)) := by omega
      clear hle hbr hz
      go_wp2_with fail
      go_ret
      exact ⟨k, rfl, ⟨Nat.le_refl _, HL.out, .inl rfl⟩, HB.out⟩
    | succ q =>
      have hkl : k < len := by omega
      have hk1 : (k : Int) < (len : Int) := by omega
      obtain ⟨b, off, rfl, hc⟩ := hz.cell (by omega)
      have hck := cell_thru (hc k hkl) hbr
      clear hc hle hbr hz
      by_cases hz1 : at_ < z k
      · have hz2 := hide hz1
        generalize z k = y at hck hz1
        go_wp2_with fail
        go_ret
        exact ⟨k, rfl, ⟨by omega, HL.out, .inr hz2.out⟩, HB.out⟩
      · have hz3 : z k ≤ at_ := by omega
        have hz4 : Hid (z k ≤ at_) := hz3
        generalize z k = y at hck hz1 hz3
        go_wp2_with fail
        go_roundg q
        case measure => omega
        case rel =>
          refine ⟨k + 1, by omega, by go_num, fun i hi => ?_, HB.out⟩
          rcases Nat.lt_or_ge i k with h | h
          · exact HL.out i h
          · obtain rfl : i = k := by omega
            exact hz4.out

/-- The walk to a line's end by the index. -/
theorem EndAt.step {z : Nat → Nat} {len i k : Nat} (_ : i ≤ k) (hk : k < len) (hj : ∀ j, i ≤ j → j < k → z j ≠ 10) (hz : z k ≠ 10) : ∀ j, i ≤ j → j < k + 1 → z j ≠ 10 := fun j h1 h2 => by
  rcases Nat.lt_or_ge j k with h | h
  · exact hj j h1 h
  · obtain rfl : j = k := by omega
    have := hk
    exact hz
set_option maxRecDepth 100000 in
set_option maxHeartbeats 1000000 in
theorem refText_any (a b : Option Addr) (len cap n cb : Nat) (z : Nat → Nat) (s : Nat → Int) (line : Int) (w : World) (hlen : len ≤ 1000000) (hn : n ≤ 1000000) (hcap : len ≤ cap) (hl1 : -9223372036854775808 ≤ line) (hl2 : line ≤ 9223372036854775807) (hz : Byt w a len z) (hs : Ints w b n s) :
    Calls Try.prog 16 #[.slice a len cap, .slice b n cb, .int .i64 line] w fun e w' => ∃ v, e = .returned v ∧ TextIs z len s n line v ∧ Below w.heap.size w w' := by
  by_cases h1 : line < 1
  · clear hz hs
    go_enter Try.func16, Try.ntmps16
    go_wp2_with fail
    go_ret
    exact ⟨_, rfl, .inl ⟨.inl h1, rfl⟩, Below.refl _ _⟩
  by_cases h2 : (n : Int) < line
  · clear hz hs
    go_enter Try.func16, Try.ntmps16
    go_wp2_with fail
    go_ret
    exact ⟨_, rfl, .inl ⟨.inr h2, rfl⟩, Below.refl _ _⟩
  obtain ⟨l, rfl⟩ : ∃ l : Nat, line = (l : Int) + 1 := ⟨(line - 1).toNat, by omega⟩
  have hln : l < n := by omega
  obtain ⟨bb, bo, rfl, hc⟩ := hs.cell (by omega)
  have hcl := hc l hln
  clear hc hs hl1 hl2
  by_cases h3 : s l < 0
  · have H3 := hide h3
    generalize hsl : s l = sl at hcl h3
    have HSL := hide hsl
    clear hz hsl
    go_enter Try.func16, Try.ntmps16
    go_wp2_with fail
    go_ret
    exact ⟨_, rfl, .inr ⟨l, rfl, hln, .inl ⟨.inl H3.out, rfl⟩⟩, Below.refl _ _⟩
  by_cases h4 : (len : Int) < s l
  · have H4 := hide h4
    generalize hsl : s l = sl at hcl h3 h4
    have HSL := hide hsl
    clear hz hsl
    go_enter Try.func16, Try.ntmps16
    go_wp2_with fail
    go_ret
    exact ⟨_, rfl, .inr ⟨l, rfl, hln, .inl ⟨.inr H4.out, rfl⟩⟩, Below.refl _ _⟩
  obtain ⟨i, hi⟩ : ∃ i : Nat, s l = (i : Int) := ⟨(s l).toNat, by omega⟩
  rw [hi] at hcl h3 h4
  have hil : i ≤ len := by omega
  have HI := hide hi
  clear hi h3 h4
  go_enter Try.func16, Try.ntmps16
  go_wp2_with fail
  go_loopg [8] (len - i) (fun q s8 wr => ∃ k : Nat, k + q = len ∧ i ≤ k ∧ s8 = .int .i64 k ∧ (∀ j, i ≤ j → j < k → z j ≠ 10) ∧ Below w.heap.size w wr)
  case atStart => exact ⟨i, by omega, Nat.le_refl _, rfl, fun j h1 h2 => by omega, Below.refl _ _⟩
  case round =>
    obtain ⟨k, hkq, hik, rfl, hle, hbr⟩ := hrel
    have HL := hide hle
    have HB := hide hbr
    have HZ := hide (hz.below hbr)
    have fin : ∀ k', i ≤ k' → k' ≤ len → (k' = len ∨ z k' = 10) → k' = k → ∃ A, (∀ wx, (Instr.slice 22 (.slice a len cap) (some (.int .i64 (i : Int))) (some (.int .i64 (k' : Int))) none).run Try.prog wx = .ok (.slice A (k' - i) (cap - i)) wx) ∧ (convert 22 9 (.slice A (k' - i) (cap - i))).run Try.prog wr = .ok (txt (cut z i k')) wr := fun k' h1 h2 _ _ => by
      obtain ⟨A, hA, hB⟩ := mid_at a len cap i k' h1 h2 hcap
      exact ⟨A, hA, conv_byt (hB wr z (hz.below hbr))⟩
    cases gk with
    | zero =>
      obtain rfl : k = len := by omega
      have hkz : ¬ ((k : Int) < (k : Int)) := by omega
      obtain ⟨A, hA, hB⟩ := fin k hik (Nat.le_refl _) (.inl rfl) rfl
      clear hle hbr hz fin hcl
      go_wp2_with fail
      go_ret
      exact ⟨_, rfl, .inr ⟨l, rfl, hln, .inr ⟨i, k, HI.out, hil, ⟨hik, Nat.le_refl _, HL.out, .inl rfl⟩, rfl⟩⟩, HB.out⟩
    | succ q =>
      have hkl : k < len := by omega
      have hk1 : (k : Int) < (len : Int) := by omega
      obtain ⟨b, off, rfl, hc⟩ : ∃ b off, a = some ⟨b, off, none⟩ ∧ ∀ i, i < len → w.cell? ⟨b, off + i, none⟩ = some (.int .u8 (z i : Nat)) := by
        rcases hz.2 with h | h
        · omega
        · exact h
      have hck := cell_thru (hc k hkl) hbr
      by_cases hf : z k = 10
      · obtain ⟨A, hA, hB⟩ := fin k hik (by omega) (.inr hf) rfl
        have HF := hide hf
        rw [hf] at hck
        clear hle hbr hz fin hc hcl hf
        go_wp2_with fail
        go_ret
        exact ⟨_, rfl, .inr ⟨l, rfl, hln, .inr ⟨i, k, HI.out, hil, ⟨hik, by omega, HL.out, .inr HF.out⟩, rfl⟩⟩, HB.out⟩
      · have hne : ((z k : Nat) : Int) ≠ 10 := by omega
        have HF := hide hf
        clear hle hbr hz fin hc hcl hf
        generalize hx : z k = x at hck hne
        have HX := hide hx
        clear hx
        go_wp2_with fail
        go_roundg q
        case measure => omega
        case rel => exact ⟨k + 1, by omega, by omega, by go_num, EndAt.step hik hkl HL.out HF.out, HB.out⟩
end Go.Proofs.Yteanibapabafnaa
