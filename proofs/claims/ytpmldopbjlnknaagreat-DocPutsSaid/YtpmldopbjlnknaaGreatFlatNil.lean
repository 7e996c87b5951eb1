/-
  Lists of none lie apart.
-/
import Derived.Test.YtpmldopbjlnknaaGreatFlatMs
import Derived.Deep.OwnRows
import Derived.LoopN
import Derived.Deep.CutBlock
import Derived.Outline
import Derived.Deep.DeepCutAuto
import Derived.Deep.LoopGhost
import Derived.Deep.DeepMust
import Derived.BigQuiet
import Derived.Deep.QuietTactic
import Derived.Deep.RegionHeld3
import Derived.Laws.MakeOwn
set_option maxHeartbeats 1000000
set_option maxRecDepth 100000
set_option linter.unusedVariables false
set_option linter.unusedSimpArgs false
namespace Go.Proofs.YtpmldopbjlnknaaGreat
open Go.RowKit
theorem info_Limbs : (Tryz.prog.info? 173).map (fun i => (i.zero, i.size, i.bytes)) = some (some (.slice none 0 0), 1, 24) := by kernel_rfl
theorem nil_Limbs (w : World) : Calls Tryz.prog 69 #[.slice none 0 0] w fun e w' => e = .returned (.bool true) ∧ Below w.heap.size w w' := by
 have hmk : ∀ wx, (Instr.makeSlice 72 (.int .i64 0) (.int .i64 0)).run Tryz.prog wx = .ok (.slice (some ⟨wx.heap.size, 0, none⟩) 0 0) (wx.alloc (.cells (madeCells #[.slice none 0 0] 0) 173)) := fun wx => run_make_row' (P := Tryz.prog) 72 173 (.slice none 0 0) 24 Tryz.underlying72 info_Limbs rfl .i64 .i64 0 (by omega) (by omega) wx
 go_enter Tryz.func69, Tryz.ntmps69
 go_wp2_with fail
 iterate 5 (refine wp_loop_rounds 1 ?_; rw [rounds_succ]; go_wp2_with fail)
 go_ret
 exact ⟨rfl, below_alloc _ _⟩
theorem info_Words : (Tryz.prog.info? 174).map (fun i => (i.zero, i.size, i.bytes)) = some (some (.slice none 0 0), 1, 24) := by kernel_rfl
theorem nil_Words (w : World) : Calls Tryz.prog 70 #[.slice none 0 0] w fun e w' => e = .returned (.bool true) ∧ Below w.heap.size w w' := by
 have hmk : ∀ wx, (Instr.makeSlice 73 (.int .i64 0) (.int .i64 0)).run Tryz.prog wx = .ok (.slice (some ⟨wx.heap.size, 0, none⟩) 0 0) (wx.alloc (.cells (madeCells #[.slice none 0 0] 0) 174)) := fun wx => run_make_row' (P := Tryz.prog) 73 174 (.slice none 0 0) 24 Tryz.underlying73 info_Words rfl .i64 .i64 0 (by omega) (by omega) wx
 go_enter Tryz.func70, Tryz.ntmps70
 go_wp2_with fail
 iterate 5 (refine wp_loop_rounds 1 ?_; rw [rounds_succ]; go_wp2_with fail)
 go_ret
 exact ⟨rfl, below_alloc _ _⟩
theorem info_Ints : (Tryz.prog.info? 107).map (fun i => (i.zero, i.size, i.bytes)) = some (some (.slice none 0 0), 1, 24) := by kernel_rfl
theorem nil_Ints (w : World) : Calls Tryz.prog 71 #[.slice none 0 0] w fun e w' => e = .returned (.bool true) ∧ Below w.heap.size w w' := by
 have hmk : ∀ wx, (Instr.makeSlice 74 (.int .i64 0) (.int .i64 0)).run Tryz.prog wx = .ok (.slice (some ⟨wx.heap.size, 0, none⟩) 0 0) (wx.alloc (.cells (madeCells #[.slice none 0 0] 0) 107)) := fun wx => run_make_row' (P := Tryz.prog) 74 107 (.slice none 0 0) 24 Tryz.underlying74 info_Ints rfl .i64 .i64 0 (by omega) (by omega) wx
 go_enter Tryz.func71, Tryz.ntmps71
 go_wp2_with fail
 iterate 5 (refine wp_loop_rounds 1 ?_; rw [rounds_succ]; go_wp2_with fail)
 go_ret
 exact ⟨rfl, below_alloc _ _⟩
theorem info_Longs : (Tryz.prog.info? 176).map (fun i => (i.zero, i.size, i.bytes)) = some (some (.slice none 0 0), 1, 24) := by kernel_rfl
theorem nil_Longs (w : World) : Calls Tryz.prog 72 #[.slice none 0 0] w fun e w' => e = .returned (.bool true) ∧ Below w.heap.size w w' := by
 have hmk : ∀ wx, (Instr.makeSlice 75 (.int .i64 0) (.int .i64 0)).run Tryz.prog wx = .ok (.slice (some ⟨wx.heap.size, 0, none⟩) 0 0) (wx.alloc (.cells (madeCells #[.slice none 0 0] 0) 176)) := fun wx => run_make_row' (P := Tryz.prog) 75 176 (.slice none 0 0) 24 Tryz.underlying75 info_Longs rfl .i64 .i64 0 (by omega) (by omega) wx
 go_enter Tryz.func72, Tryz.ntmps72
 go_wp2_with fail
 iterate 5 (refine wp_loop_rounds 1 ?_; rw [rounds_succ]; go_wp2_with fail)
 go_ret
 exact ⟨rfl, below_alloc _ _⟩
theorem info_Texts : (Tryz.prog.info? 37).map (fun i => (i.zero, i.size, i.bytes)) = some (some (.slice none 0 0), 1, 24) := by kernel_rfl
theorem nil_Texts (w : World) : Calls Tryz.prog 73 #[.slice none 0 0] w fun e w' => e = .returned (.bool true) ∧ Below w.heap.size w w' := by
 have hmk : ∀ wx, (Instr.makeSlice 76 (.int .i64 0) (.int .i64 0)).run Tryz.prog wx = .ok (.slice (some ⟨wx.heap.size, 0, none⟩) 0 0) (wx.alloc (.cells (madeCells #[.slice none 0 0] 0) 37)) := fun wx => run_make_row' (P := Tryz.prog) 76 37 (.slice none 0 0) 24 Tryz.underlying76 info_Texts rfl .i64 .i64 0 (by omega) (by omega) wx
 go_enter Tryz.func73, Tryz.ntmps73
 go_wp2_with fail
 iterate 5 (refine wp_loop_rounds 1 ?_; rw [rounds_succ]; go_wp2_with fail)
 go_ret
 exact ⟨rfl, below_alloc _ _⟩
theorem info_Truths : (Tryz.prog.info? 178).map (fun i => (i.zero, i.size, i.bytes)) = some (some (.slice none 0 0), 1, 24) := by kernel_rfl
theorem nil_Truths (w : World) : Calls Tryz.prog 75 #[.slice none 0 0] w fun e w' => e = .returned (.bool true) ∧ Below w.heap.size w w' := by
 have hmk : ∀ wx, (Instr.makeSlice 77 (.int .i64 0) (.int .i64 0)).run Tryz.prog wx = .ok (.slice (some ⟨wx.heap.size, 0, none⟩) 0 0) (wx.alloc (.cells (madeCells #[.slice none 0 0] 0) 178)) := fun wx => run_make_row' (P := Tryz.prog) 77 178 (.slice none 0 0) 24 Tryz.underlying77 info_Truths rfl .i64 .i64 0 (by omega) (by omega) wx
 go_enter Tryz.func75, Tryz.ntmps75
 go_wp2_with fail
 iterate 5 (refine wp_loop_rounds 1 ?_; rw [rounds_succ]; go_wp2_with fail)
 go_ret
 exact ⟨rfl, below_alloc _ _⟩
theorem info_Nodes : (Tryz.prog.info? 179).map (fun i => (i.zero, i.size, i.bytes)) = some (some (.slice none 0 0), 1, 24) := by kernel_rfl
theorem nil_Nodes (w : World) : Calls Tryz.prog 76 #[.slice none 0 0] w fun e w' => e = .returned (.bool true) ∧ Below w.heap.size w w' := by
 have hmk : ∀ wx, (Instr.makeSlice 78 (.int .i64 0) (.int .i64 0)).run Tryz.prog wx = .ok (.slice (some ⟨wx.heap.size, 0, none⟩) 0 0) (wx.alloc (.cells (madeCells #[.slice none 0 0] 0) 179)) := fun wx => run_make_row' (P := Tryz.prog) 78 179 (.slice none 0 0) 24 Tryz.underlying78 info_Nodes rfl .i64 .i64 0 (by omega) (by omega) wx
 go_enter Tryz.func76, Tryz.ntmps76
 go_wp2_with fail
 iterate 5 (refine wp_loop_rounds 1 ?_; rw [rounds_succ]; go_wp2_with fail)
 go_ret
 exact ⟨rfl, below_alloc _ _⟩
theorem info_Insts : (Tryz.prog.info? 187).map (fun i => (i.zero, i.size, i.bytes)) = some (some (.slice none 0 0), 1, 24) := by kernel_rfl
theorem nil_Insts (w : World) : Calls Tryz.prog 77 #[.slice none 0 0] w fun e w' => e = .returned (.bool true) ∧ Below w.heap.size w w' := by
 have hmk : ∀ wx, (Instr.makeSlice 79 (.int .i64 0) (.int .i64 0)).run Tryz.prog wx = .ok (.slice (some ⟨wx.heap.size, 0, none⟩) 0 0) (wx.alloc (.cells (madeCells #[.slice none 0 0] 0) 187)) := fun wx => run_make_row' (P := Tryz.prog) 79 187 (.slice none 0 0) 24 Tryz.underlying79 info_Insts rfl .i64 .i64 0 (by omega) (by omega) wx
 go_enter Tryz.func77, Tryz.ntmps77
 go_wp2_with fail
 iterate 5 (refine wp_loop_rounds 1 ?_; rw [rounds_succ]; go_wp2_with fail)
 go_ret
 exact ⟨rfl, below_alloc _ _⟩
theorem info_Queries : (Tryz.prog.info? 192).map (fun i => (i.zero, i.size, i.bytes)) = some (some (.slice none 0 0), 1, 24) := by kernel_rfl
theorem nil_Queries (w : World) : Calls Tryz.prog 78 #[.slice none 0 0] w fun e w' => e = .returned (.bool true) ∧ Below w.heap.size w w' := by
 have hmk : ∀ wx, (Instr.makeSlice 80 (.int .i64 0) (.int .i64 0)).run Tryz.prog wx = .ok (.slice (some ⟨wx.heap.size, 0, none⟩) 0 0) (wx.alloc (.cells (madeCells #[.slice none 0 0] 0) 192)) := fun wx => run_make_row' (P := Tryz.prog) 80 192 (.slice none 0 0) 24 Tryz.underlying80 info_Queries rfl .i64 .i64 0 (by omega) (by omega) wx
 go_enter Tryz.func78, Tryz.ntmps78
 go_wp2_with fail
 iterate 5 (refine wp_loop_rounds 1 ?_; rw [rounds_succ]; go_wp2_with fail)
 go_ret
 exact ⟨rfl, below_alloc _ _⟩
theorem info_Files : (Tryz.prog.info? 40).map (fun i => (i.zero, i.size, i.bytes)) = some (some (.slice none 0 0), 1, 24) := by kernel_rfl
theorem nil_Files (w : World) : Calls Tryz.prog 79 #[.slice none 0 0] w fun e w' => e = .returned (.bool true) ∧ Below w.heap.size w w' := by
 have hmk : ∀ wx, (Instr.makeSlice 81 (.int .i64 0) (.int .i64 0)).run Tryz.prog wx = .ok (.slice (some ⟨wx.heap.size, 0, none⟩) 0 0) (wx.alloc (.cells (madeCells #[.slice none 0 0] 0) 40)) := fun wx => run_make_row' (P := Tryz.prog) 81 40 (.slice none 0 0) 24 Tryz.underlying81 info_Files rfl .i64 .i64 0 (by omega) (by omega) wx
 go_enter Tryz.func79, Tryz.ntmps79
 go_wp2_with fail
 iterate 5 (refine wp_loop_rounds 1 ?_; rw [rounds_succ]; go_wp2_with fail)
 go_ret
 exact ⟨rfl, below_alloc _ _⟩
theorem info_Docs : (Tryz.prog.info? 22).map (fun i => (i.zero, i.size, i.bytes)) = some (some (.slice none 0 0), 1, 24) := by kernel_rfl
theorem nil_Docs (w : World) : Calls Tryz.prog 80 #[.slice none 0 0] w fun e w' => e = .returned (.bool true) ∧ Below w.heap.size w w' := by
 have hmk : ∀ wx, (Instr.makeSlice 82 (.int .i64 0) (.int .i64 0)).run Tryz.prog wx = .ok (.slice (some ⟨wx.heap.size, 0, none⟩) 0 0) (wx.alloc (.cells (madeCells #[.slice none 0 0] 0) 22)) := fun wx => run_make_row' (P := Tryz.prog) 82 22 (.slice none 0 0) 24 Tryz.underlying82 info_Docs rfl .i64 .i64 0 (by omega) (by omega) wx
 go_enter Tryz.func80, Tryz.ntmps80
 go_wp2_with fail
 iterate 5 (refine wp_loop_rounds 1 ?_; rw [rounds_succ]; go_wp2_with fail)
 go_ret
 exact ⟨rfl, below_alloc _ _⟩
theorem info_Places : (Tryz.prog.info? 198).map (fun i => (i.zero, i.size, i.bytes)) = some (some (.slice none 0 0), 1, 24) := by kernel_rfl
theorem nil_Places (w : World) : Calls Tryz.prog 81 #[.slice none 0 0] w fun e w' => e = .returned (.bool true) ∧ Below w.heap.size w w' := by
 have hmk : ∀ wx, (Instr.makeSlice 83 (.int .i64 0) (.int .i64 0)).run Tryz.prog wx = .ok (.slice (some ⟨wx.heap.size, 0, none⟩) 0 0) (wx.alloc (.cells (madeCells #[.slice none 0 0] 0) 198)) := fun wx => run_make_row' (P := Tryz.prog) 83 198 (.slice none 0 0) 24 Tryz.underlying83 info_Places rfl .i64 .i64 0 (by omega) (by omega) wx
 go_enter Tryz.func81, Tryz.ntmps81
 go_wp2_with fail
 iterate 5 (refine wp_loop_rounds 1 ?_; rw [rounds_succ]; go_wp2_with fail)
 go_ret
 exact ⟨rfl, below_alloc _ _⟩
theorem info_Postings : (Tryz.prog.info? 202).map (fun i => (i.zero, i.size, i.bytes)) = some (some (.slice none 0 0), 1, 24) := by kernel_rfl
theorem nil_Postings (w : World) : Calls Tryz.prog 82 #[.slice none 0 0] w fun e w' => e = .returned (.bool true) ∧ Below w.heap.size w w' := by
 have hmk : ∀ wx, (Instr.makeSlice 84 (.int .i64 0) (.int .i64 0)).run Tryz.prog wx = .ok (.slice (some ⟨wx.heap.size, 0, none⟩) 0 0) (wx.alloc (.cells (madeCells #[.slice none 0 0] 0) 202)) := fun wx => run_make_row' (P := Tryz.prog) 84 202 (.slice none 0 0) 24 Tryz.underlying84 info_Postings rfl .i64 .i64 0 (by omega) (by omega) wx
 go_enter Tryz.func82, Tryz.ntmps82
 go_wp2_with fail
 iterate 5 (refine wp_loop_rounds 1 ?_; rw [rounds_succ]; go_wp2_with fail)
 go_ret
 exact ⟨rfl, below_alloc _ _⟩
theorem info_ShardRefs : (Tryz.prog.info? 207).map (fun i => (i.zero, i.size, i.bytes)) = some (some (.slice none 0 0), 1, 24) := by kernel_rfl
theorem nil_ShardRefs (w : World) : Calls Tryz.prog 83 #[.slice none 0 0] w fun e w' => e = .returned (.bool true) ∧ Below w.heap.size w w' := by
 have hmk : ∀ wx, (Instr.makeSlice 85 (.int .i64 0) (.int .i64 0)).run Tryz.prog wx = .ok (.slice (some ⟨wx.heap.size, 0, none⟩) 0 0) (wx.alloc (.cells (madeCells #[.slice none 0 0] 0) 207)) := fun wx => run_make_row' (P := Tryz.prog) 85 207 (.slice none 0 0) 24 Tryz.underlying85 info_ShardRefs rfl .i64 .i64 0 (by omega) (by omega) wx
 go_enter Tryz.func83, Tryz.ntmps83
 go_wp2_with fail
 iterate 5 (refine wp_loop_rounds 1 ?_; rw [rounds_succ]; go_wp2_with fail)
 go_ret
 exact ⟨rfl, below_alloc _ _⟩
theorem info_Manifests : (Tryz.prog.info? 212).map (fun i => (i.zero, i.size, i.bytes)) = some (some (.slice none 0 0), 1, 24) := by kernel_rfl
theorem nil_Manifests (w : World) : Calls Tryz.prog 84 #[.slice none 0 0] w fun e w' => e = .returned (.bool true) ∧ Below w.heap.size w w' := by
 have hmk : ∀ wx, (Instr.makeSlice 86 (.int .i64 0) (.int .i64 0)).run Tryz.prog wx = .ok (.slice (some ⟨wx.heap.size, 0, none⟩) 0 0) (wx.alloc (.cells (madeCells #[.slice none 0 0] 0) 212)) := fun wx => run_make_row' (P := Tryz.prog) 86 212 (.slice none 0 0) 24 Tryz.underlying86 info_Manifests rfl .i64 .i64 0 (by omega) (by omega) wx
 go_enter Tryz.func84, Tryz.ntmps84
 go_wp2_with fail
 iterate 5 (refine wp_loop_rounds 1 ?_; rw [rounds_succ]; go_wp2_with fail)
 go_ret
 exact ⟨rfl, below_alloc _ _⟩
theorem info_Asks : (Tryz.prog.info? 217).map (fun i => (i.zero, i.size, i.bytes)) = some (some (.slice none 0 0), 1, 24) := by kernel_rfl
theorem nil_Asks (w : World) : Calls Tryz.prog 85 #[.slice none 0 0] w fun e w' => e = .returned (.bool true) ∧ Below w.heap.size w w' := by
 have hmk : ∀ wx, (Instr.makeSlice 87 (.int .i64 0) (.int .i64 0)).run Tryz.prog wx = .ok (.slice (some ⟨wx.heap.size, 0, none⟩) 0 0) (wx.alloc (.cells (madeCells #[.slice none 0 0] 0) 217)) := fun wx => run_make_row' (P := Tryz.prog) 87 217 (.slice none 0 0) 24 Tryz.underlying87 info_Asks rfl .i64 .i64 0 (by omega) (by omega) wx
 go_enter Tryz.func85, Tryz.ntmps85
 go_wp2_with fail
 iterate 5 (refine wp_loop_rounds 1 ?_; rw [rounds_succ]; go_wp2_with fail)
 go_ret
 exact ⟨rfl, below_alloc _ _⟩
theorem info_Hits : (Tryz.prog.info? 224).map (fun i => (i.zero, i.size, i.bytes)) = some (some (.slice none 0 0), 1, 24) := by kernel_rfl
theorem nil_Hits (w : World) : Calls Tryz.prog 86 #[.slice none 0 0] w fun e w' => e = .returned (.bool true) ∧ Below w.heap.size w w' := by
 have hmk : ∀ wx, (Instr.makeSlice 88 (.int .i64 0) (.int .i64 0)).run Tryz.prog wx = .ok (.slice (some ⟨wx.heap.size, 0, none⟩) 0 0) (wx.alloc (.cells (madeCells #[.slice none 0 0] 0) 224)) := fun wx => run_make_row' (P := Tryz.prog) 88 224 (.slice none 0 0) 24 Tryz.underlying88 info_Hits rfl .i64 .i64 0 (by omega) (by omega) wx
 go_enter Tryz.func86, Tryz.ntmps86
 go_wp2_with fail
 iterate 5 (refine wp_loop_rounds 1 ?_; rw [rounds_succ]; go_wp2_with fail)
 go_ret
 exact ⟨rfl, below_alloc _ _⟩
theorem info_Answers : (Tryz.prog.info? 228).map (fun i => (i.zero, i.size, i.bytes)) = some (some (.slice none 0 0), 1, 24) := by kernel_rfl
theorem nil_Answers (w : World) : Calls Tryz.prog 87 #[.slice none 0 0] w fun e w' => e = .returned (.bool true) ∧ Below w.heap.size w w' := by
 have hmk : ∀ wx, (Instr.makeSlice 89 (.int .i64 0) (.int .i64 0)).run Tryz.prog wx = .ok (.slice (some ⟨wx.heap.size, 0, none⟩) 0 0) (wx.alloc (.cells (madeCells #[.slice none 0 0] 0) 228)) := fun wx => run_make_row' (P := Tryz.prog) 89 228 (.slice none 0 0) 24 Tryz.underlying89 info_Answers rfl .i64 .i64 0 (by omega) (by omega) wx
 go_enter Tryz.func87, Tryz.ntmps87
 go_wp2_with fail
 iterate 5 (refine wp_loop_rounds 1 ?_; rw [rounds_succ]; go_wp2_with fail)
 go_ret
 exact ⟨rfl, below_alloc _ _⟩
theorem info_Parts : (Tryz.prog.info? 233).map (fun i => (i.zero, i.size, i.bytes)) = some (some (.slice none 0 0), 1, 24) := by kernel_rfl
theorem nil_Parts (w : World) : Calls Tryz.prog 88 #[.slice none 0 0] w fun e w' => e = .returned (.bool true) ∧ Below w.heap.size w w' := by
 have hmk : ∀ wx, (Instr.makeSlice 90 (.int .i64 0) (.int .i64 0)).run Tryz.prog wx = .ok (.slice (some ⟨wx.heap.size, 0, none⟩) 0 0) (wx.alloc (.cells (madeCells #[.slice none 0 0] 0) 233)) := fun wx => run_make_row' (P := Tryz.prog) 90 233 (.slice none 0 0) 24 Tryz.underlying90 info_Parts rfl .i64 .i64 0 (by omega) (by omega) wx
 go_enter Tryz.func88, Tryz.ntmps88
 go_wp2_with fail
 iterate 5 (refine wp_loop_rounds 1 ?_; rw [rounds_succ]; go_wp2_with fail)
 go_ret
 exact ⟨rfl, below_alloc _ _⟩
theorem info_Changes : (Tryz.prog.info? 238).map (fun i => (i.zero, i.size, i.bytes)) = some (some (.slice none 0 0), 1, 24) := by kernel_rfl
theorem nil_Changes (w : World) : Calls Tryz.prog 89 #[.slice none 0 0] w fun e w' => e = .returned (.bool true) ∧ Below w.heap.size w w' := by
 have hmk : ∀ wx, (Instr.makeSlice 91 (.int .i64 0) (.int .i64 0)).run Tryz.prog wx = .ok (.slice (some ⟨wx.heap.size, 0, none⟩) 0 0) (wx.alloc (.cells (madeCells #[.slice none 0 0] 0) 238)) := fun wx => run_make_row' (P := Tryz.prog) 91 238 (.slice none 0 0) 24 Tryz.underlying91 info_Changes rfl .i64 .i64 0 (by omega) (by omega) wx
 go_enter Tryz.func89, Tryz.ntmps89
 go_wp2_with fail
 iterate 5 (refine wp_loop_rounds 1 ?_; rw [rounds_succ]; go_wp2_with fail)
 go_ret
 exact ⟨rfl, below_alloc _ _⟩
end Go.Proofs.YtpmldopbjlnknaaGreat
