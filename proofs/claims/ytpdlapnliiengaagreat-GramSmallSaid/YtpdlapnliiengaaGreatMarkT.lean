/-
  The marks of any list and place, as texts.
-/
import Derived.Test.YtpdlapnliiengaaGreatFlatMs
import Derived.Laws.IdiomStrings
import Derived.Deep.MidRow
namespace Go.Proofs.YtpdlapnliiengaaGreat
open Go.RowKit

def markL (k i : Nat) : List UInt8 := [35, UInt8.ofNat k, UInt8.ofNat (k / 256), UInt8.ofNat (k / 65536), 47, UInt8.ofNat i, UInt8.ofNat (i / 256), UInt8.ofNat (i / 65536)]
def markT (k i : Nat) : ByteArray := ⟨(markL k i).toArray⟩
set_option maxRecDepth 100000 in
set_option maxHeartbeats 1000000 in
theorem markTextN (k i : Nat) (w : World) (hk : k ≤ 1000000) :
    Calls Tryz.prog 66 #[.int .i64 k, .int .i64 i] w fun e w' => e = .returned (.string (markT k i)) ∧ Below w.heap.size w w' := by
  obtain ⟨C, hC⟩ : ∃ C : Array Value, #[Value.int .u8 35, Value.int .u8 ((k : Int) % 256), Value.int .u8 ((k : Int) / 256 % 256), Value.int .u8 ((k : Int) / 65536), Value.int .u8 47, Value.int .u8 ((i : Int) % 256), Value.int .u8 ((i : Int) / 256 % 256), Value.int .u8 ((i : Int) / 65536 % 256)] = C := ⟨_, rfl⟩
  have hb : Below w.heap.size w (w.alloc (.cells C 5)) := below_alloc w _
  have hcv := run_convert_bytes_back (P := Tryz.prog) (w.alloc (.cells C 5)) 22 9 5 ⟨w.heap.size, 0, none⟩ 8 (markL k i) Tryz.underlying22 Tryz.underlying5 Tryz.underlying9 (fun j hj => by
    have hj8 : j < 8 := hj
    have hc : (w.alloc (.cells C 5)).cell? ((⟨w.heap.size, 0, none⟩ : Addr).add j) = C[j]? := by
      rw [Addr.add_mid, Nat.zero_add, World.cell?_alloc_new]
    rw [hc, ← hC]
    match j, hj8 with
    | 0, _ => rfl
    | 1, _ => simp [markL]
    | 2, _ => simp [markL]
    | 3, _ => simp [markL]; omega
    | 4, _ => rfl
    | 5, _ => simp [markL]
    | 6, _ => simp [markL]
    | 7, _ => simp [markL])
  have e8 : (markL k i).length = 8 := rfl
  rw [e8] at hcv
  change _ = Result.ok (Value.string (markT k i)) _ at hcv
  generalize markT k i = t at hcv ⊢
  rw [← hC] at hcv hb
  have HB := hide hb
  clear hC hb e8
  go_enter Tryz.func66, Tryz.ntmps66
  go_wp2_with fail
  go_ret
  exact ⟨rfl, HB.out⟩
end Go.Proofs.YtpdlapnliiengaaGreat
