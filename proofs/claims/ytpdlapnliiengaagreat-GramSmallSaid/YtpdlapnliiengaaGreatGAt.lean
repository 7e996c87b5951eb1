/-
  gram.At, gram.text: three bytes as a text.
-/
import Derived.Test.YtpdlapnliiengaaGreatGIter
namespace Go.Proofs.YtpdlapnliiengaaGreat
open Go.RowKit Go.Shelf

attribute [local go_sem] Oper.semAt_some

/-- The bytes of a gram; the gram as a text. -/
def gd (g : Nat) : List Nat := [g / 65536, g / 256 % 256, g % 256]
def gtx (g : Nat) : Value := txt (gd g)
theorem gd_gN {z : Nat → Nat} (h : ∀ i, z i < 256) (i : Nat) : gd (gN z i) = cut z i (i + 3) := by
  have h1 := h i
  have h2 := h (i + 1)
  have h3 := h (i + 2)
  have e1 : (z i * 65536 + z (i + 1) * 256 + z (i + 2)) / 65536 = z i := by omega
  have e2 : (z i * 65536 + z (i + 1) * 256 + z (i + 2)) / 256 % 256 = z (i + 1) := by omega
  have e3 : (z i * 65536 + z (i + 1) * 256 + z (i + 2)) % 256 = z (i + 2) := by omega
  unfold gd gN cut tx
  rw [e1, e2, e3, Nat.add_sub_cancel_left]
  rfl
theorem gbyt (w : World) (g : Nat) (h : Okg g) : Byt (w.alloc (.cells (gl g).toArray 51)) (some ⟨w.heap.size, 0, none⟩) 3 (fun j => (gd g).getD j 0) := by
  unfold Okg at h
  have h1 : g / 65536 < 256 := by omega
  have h2 : g / 256 % 256 < 256 := Nat.mod_lt _ (by decide)
  have h3 : g % 256 < 256 := Nat.mod_lt _ (by decide)
  refine ⟨fun i => ?_, .inr ⟨_, 0, rfl, fun i hi => ?_⟩⟩
  · match i with
    | 0 => exact h1
    | 1 => exact h2
    | 2 => exact h3
    | i + 3 => show 0 < 256; decide
  · match i, hi with
    | 0, _ => simp [gl, gd]
    | 1, _ => simp [gl, gd]
    | 2, _ => simp [gl, gd]

set_option maxHeartbeats 1000000 in
theorem gtext_in (n : Nat) (g : Nat) (hg : Okg g) (w : World) : CallsIn Fence.wide n Tryz.prog 23 #[gv g] w fun e w' => e = .returned (gtx g) ∧ w' = w.alloc (.cells (gl g).toArray 51) := by
  refine callsIn_of_wp Tryz.func23 rfl trivial ?_ rfl
  simp only [Tryz.ntmps23, List.size_toArray, List.length_cons, List.length_nil, Nat.reduceAdd, Nat.reduceSub, Array.replicate_succ, Array.replicate_zero, List.push_toArray, List.append_toArray, List.nil_append, List.cons_append]
  have hcv : (convert 22 9 (.slice (some ⟨w.heap.size, 0, none⟩) 3 3)).run Tryz.prog (w.alloc (.cells (gl g).toArray 51)) = .ok (gtx g) (w.alloc (.cells (gl g).toArray 51)) := conv_byt (gbyt w g hg)
  unfold gv
  unfold gl at hcv ⊢
  generalize gtx g = T at *
  generalize g / 65536 = d0 at *
  generalize g / 256 % 256 = d1 at *
  generalize g % 256 = d2 at *
  gi_wp2
  go_ret
  exact ⟨rfl, rfl⟩

/-- What At answers. -/
def atV (z : Nat → Nat) (len : Nat) (i : Int) : Value := if 0 ≤ i ∧ i + 2 < len then .tuple #[gtx (gN z i.toNat), .bool true] else .tuple #[.string ⟨#[]⟩, .bool false]
set_option maxHeartbeats 1000000 in
theorem gat_any (a : Option Addr) (len cap : Nat) (z : Nat → Nat) (i : Int) (w : World) (hlen : len ≤ 140737488355328) (hcap : len ≤ cap) (hz : Byt w a len z) (hi : -9223372036854775808 ≤ i ∧ i ≤ 9223372036854775807) :
    Calls Tryz.prog 7 #[.slice a len cap, .int .i64 i] w fun e w' => e = .returned (atV z len i) ∧ w' = w := by
  unfold atV
  by_cases h0 : i < 0
  · rw [if_neg (by omega)]
    go_enter Tryz.func7, Tryz.ntmps7
    go_wp2_with fail
    go_ret2
    exact ⟨rfl, rfl⟩
  · obtain ⟨k, rfl⟩ : ∃ k : Nat, i = (k : Int) := ⟨i.toNat, by omega⟩
    by_cases h1 : (k : Int) ≥ (len : Int) - 2
    · rw [if_neg (by omega)]
      go_enter Tryz.func7, Tryz.ntmps7
      go_wp2_with fail
      go_ret2
      exact ⟨rfl, rfl⟩
    · rw [if_pos (by omega)]
      obtain ⟨A, hA, hB⟩ := mid_at a len cap k (k + 3) (by omega) (by omega) hcap
      have hcv := conv_byt (c := cap - k) (hB w z hz)
      have e : tx (fun j => z (k + j)) (k + 3 - k) = gd (gN z ((k : Nat) : Int).toNat) := by rw [Int.toNat_natCast, gd_gN hz.1]; rfl
      rw [e] at hcv
      have hcv' : (convert 22 9 (.slice A (k + 3 - k) (cap - k))).run Tryz.prog w = .ok (gtx (gN z ((k : Nat) : Int).toNat)) w := hcv
      rw [Nat.add_sub_cancel_left] at hcv'
      have hA' := hA w
      rw [Nat.add_sub_cancel_left] at hA'
      have e3 : ((k + 3 : Nat) : Int) = (k : Int) + 3 := by omega
      rw [e3] at hA'
      clear hcv hA hB e
      generalize gtx (gN z ((k : Nat) : Int).toNat) = T at *
      go_enter Tryz.func7, Tryz.ntmps7
      go_wp2_with fail
      go_ret2
      exact ⟨rfl, rfl⟩
end Go.Proofs.YtpdlapnliiengaaGreat
