/-
  Texts out of bytes: string(b[i:k]).
-/
import Derived.Test.YtpdlapnliiengaaGreatKit
import Derived.Test.YtpdlapnliiengaaGreatFoot
import Derived.Laws.BytesArg
namespace Go.Proofs.YtpdlapnliiengaaGreat
open Go.RowKit

/-- Bytes as a text. -/
def txt (L : List Nat) : Value := .string (strOfNums (L.map fun x : Nat => (x : Int)))
/-- The bytes of z from i up to k. -/
def cut (z : Nat → Nat) (i k : Nat) : List Nat := tx (fun j => z (i + j)) (k - i)
theorem run_loadCells_nil {P : Program} (w : World) (ad : Addr) : (loadCells ad 0).run P w = .ok #[] w :=
  run_loadCells_list (P := P) w ad [] (fun j v h => by simp at h)
/-- string(b). -/
theorem conv_byt {w : World} {a : Option Addr} {n c : Nat} {y : Nat → Nat} (hz : Byt w a n y) : (convert 22 9 (.slice a n c)).run Tryz.prog w = .ok (txt (tx y n)) w := by
  rcases hz.2 with h0 | ⟨b, off, rfl, hc⟩
  · subst h0
    cases a with
    | none => exact run_convert_bytes_nil (P := Tryz.prog) w 22 5 Tryz.underlying22 Tryz.underlying5 _ _ 9 Tryz.underlying9
    | some ad =>
      rw [run_convert_bytes_string (P := Tryz.prog) w 22 9 5 _ _ _ Tryz.underlying22 Tryz.underlying5 Tryz.underlying9, run_bytesToString w ad 0 c [] (run_loadCells_nil w ad)]
      rfl
  · have h := run_convert_bytes_arg (P := Tryz.prog) w 22 5 Tryz.underlying22 Tryz.underlying5 b off n c ((tx y n).map fun x : Nat => (x : Int)) (by simp [tx]) (fun j hj => by
      rw [hc j hj]
      simp [tx, hj]) 9 Tryz.underlying9
    exact h
/-- b[i:k]. -/
theorem mid_at (a : Option Addr) (n cap i k : Nat) (hik : i ≤ k) (hk : k ≤ n) (hc : n ≤ cap) :
    ∃ A, (∀ wx, (Instr.slice 22 (.slice a n cap) (some (.int .i64 (i : Int))) (some (.int .i64 (k : Int))) none).run Tryz.prog wx = .ok (.slice A (k - i) (cap - i)) wx) ∧ ∀ (wx : World) (z : Nat → Nat), Byt wx a n z → Byt wx A (k - i) (fun j => z (i + j)) := by
  have ht : Tryz.prog.underlying 22 = some (.slice (Tryz.prog.elem 22)) := by kernel_rfl
  have hs : ∀ wx, (sizeOf (Tryz.prog.elem 22)).run Tryz.prog wx = .ok 1 wx := fun wx => by kernel_rfl
  refine ⟨if cap = i then a else a.map (·.add (i * 1)), fun wx => ?_, fun wx z hz => ?_⟩
  · rw [run_slice_lh wx _ a n cap ht .i64 .i64 (i : Int) (k : Int) (by omega) (by omega) (by omega), hs]
    simp [Result.andThen, sliced]
  · rcases Nat.eq_zero_or_pos (k - i) with h0 | h0
    · exact ⟨fun j => hz.1 _, .inl h0⟩
    · rcases hz.2 with h1 | ⟨b, off, rfl, hcell⟩
      · omega
      · rw [if_neg (by omega)]
        have e : (some (⟨b, off, none⟩ : Addr)).map (·.add (i * 1)) = some ⟨b, off + i, none⟩ := by
          simp only [Option.map_some, Nat.mul_one]
          unfold Addr.add
          split
          · rename_i e; rw [e, Nat.add_zero]
          · rfl
        rw [e]
        exact (Byt.drop hz.1 hcell i).take (by omega)
end Go.Proofs.YtpdlapnliiengaaGreat
