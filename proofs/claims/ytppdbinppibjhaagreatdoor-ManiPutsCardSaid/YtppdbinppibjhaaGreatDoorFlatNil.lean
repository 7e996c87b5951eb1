/-
  Lists of none lie apart.
-/
import Derived.Test.YtppdbinppibjhaaGreatDoorFlatMs
import Derived.Deep.OwnRows
import Derived.LoopN
import Derived.Deep.CutBlock
import Derived.Outline
import Derived.Deep.DeepCutAuto
import Derived.Deep.LoopGhost
import Derived.Deep.DeepMust
import Derived.BigQuiet
import Derived.Deep.QuietTactic
import Derived.Deep.RegionHeld3
import Derived.Laws.MakeOwn
set_option maxHeartbeats 1000000
set_option maxRecDepth 100000
set_option linter.unusedVariables false
set_option linter.unusedSimpArgs false
namespace Go.Proofs.YtppdbinppibjhaaGreatDoor
open Go.RowKit
theorem info_Limbs : (Tryz.prog.info? 192).map (fun i => (i.zero, i.size, i.bytes)) = some (some (.slice none 0 0), 1, 24) := by kernel_rfl
theorem nil_Limbs (w : World) : Calls Tryz.prog 84 #[.slice none 0 0] w fun e w' => e = .returned (.bool true) ∧ Below w.heap.size w w' := by
 have hmk : ∀ wx, (Instr.makeSlice 81 (.int .i64 0) (.int .i64 0)).run Tryz.prog wx = .ok (.slice (some ⟨wx.heap.size, 0, none⟩) 0 0) (wx.alloc (.cells (madeCells #[.slice none 0 0] 0) 192)) := fun wx => run_make_row' (P := Tryz.prog) 81 192 (.slice none 0 0) 24 Tryz.underlying81 info_Limbs rfl .i64 .i64 0 (by omega) (by omega) wx
 go_enter Tryz.func84, Tryz.ntmps84
 go_wp2_with fail
 iterate 5 (refine wp_loop_rounds 1 ?_; rw [rounds_succ]; go_wp2_with fail)
 go_ret
 exact ⟨rfl, below_alloc _ _⟩
theorem info_Words : (Tryz.prog.info? 193).map (fun i => (i.zero, i.size, i.bytes)) = some (some (.slice none 0 0), 1, 24) := by kernel_rfl
theorem nil_Words (w : World) : Calls Tryz.prog 85 #[.slice none 0 0] w fun e w' => e = .returned (.bool true) ∧ Below w.heap.size w w' := by
 have hmk : ∀ wx, (Instr.makeSlice 82 (.int .i64 0) (.int .i64 0)).run Tryz.prog wx = .ok (.slice (some ⟨wx.heap.size, 0, none⟩) 0 0) (wx.alloc (.cells (madeCells #[.slice none 0 0] 0) 193)) := fun wx => run_make_row' (P := Tryz.prog) 82 193 (.slice none 0 0) 24 Tryz.underlying82 info_Words rfl .i64 .i64 0 (by omega) (by omega) wx
 go_enter Tryz.func85, Tryz.ntmps85
 go_wp2_with fail
 iterate 5 (refine wp_loop_rounds 1 ?_; rw [rounds_succ]; go_wp2_with fail)
 go_ret
 exact ⟨rfl, below_alloc _ _⟩
theorem info_Ints : (Tryz.prog.info? 49).map (fun i => (i.zero, i.size, i.bytes)) = some (some (.slice none 0 0), 1, 24) := by kernel_rfl
theorem nil_Ints (w : World) : Calls Tryz.prog 86 #[.slice none 0 0] w fun e w' => e = .returned (.bool true) ∧ Below w.heap.size w w' := by
 have hmk : ∀ wx, (Instr.makeSlice 83 (.int .i64 0) (.int .i64 0)).run Tryz.prog wx = .ok (.slice (some ⟨wx.heap.size, 0, none⟩) 0 0) (wx.alloc (.cells (madeCells #[.slice none 0 0] 0) 49)) := fun wx => run_make_row' (P := Tryz.prog) 83 49 (.slice none 0 0) 24 Tryz.underlying83 info_Ints rfl .i64 .i64 0 (by omega) (by omega) wx
 go_enter Tryz.func86, Tryz.ntmps86
 go_wp2_with fail
 iterate 5 (refine wp_loop_rounds 1 ?_; rw [rounds_succ]; go_wp2_with fail)
 go_ret
 exact ⟨rfl, below_alloc _ _⟩
theorem info_Longs : (Tryz.prog.info? 194).map (fun i => (i.zero, i.size, i.bytes)) = some (some (.slice none 0 0), 1, 24) := by kernel_rfl
theorem nil_Longs (w : World) : Calls Tryz.prog 87 #[.slice none 0 0] w fun e w' => e = .returned (.bool true) ∧ Below w.heap.size w w' := by
 have hmk : ∀ wx, (Instr.makeSlice 84 (.int .i64 0) (.int .i64 0)).run Tryz.prog wx = .ok (.slice (some ⟨wx.heap.size, 0, none⟩) 0 0) (wx.alloc (.cells (madeCells #[.slice none 0 0] 0) 194)) := fun wx => run_make_row' (P := Tryz.prog) 84 194 (.slice none 0 0) 24 Tryz.underlying84 info_Longs rfl .i64 .i64 0 (by omega) (by omega) wx
 go_enter Tryz.func87, Tryz.ntmps87
 go_wp2_with fail
 iterate 5 (refine wp_loop_rounds 1 ?_; rw [rounds_succ]; go_wp2_with fail)
 go_ret
 exact ⟨rfl, below_alloc _ _⟩
theorem info_Texts : (Tryz.prog.info? 195).map (fun i => (i.zero, i.size, i.bytes)) = some (some (.slice none 0 0), 1, 24) := by kernel_rfl
theorem nil_Texts (w : World) : Calls Tryz.prog 88 #[.slice none 0 0] w fun e w' => e = .returned (.bool true) ∧ Below w.heap.size w w' := by
 have hmk : ∀ wx, (Instr.makeSlice 85 (.int .i64 0) (.int .i64 0)).run Tryz.prog wx = .ok (.slice (some ⟨wx.heap.size, 0, none⟩) 0 0) (wx.alloc (.cells (madeCells #[.slice none 0 0] 0) 195)) := fun wx => run_make_row' (P := Tryz.prog) 85 195 (.slice none 0 0) 24 Tryz.underlying85 info_Texts rfl .i64 .i64 0 (by omega) (by omega) wx
 go_enter Tryz.func88, Tryz.ntmps88
 go_wp2_with fail
 iterate 5 (refine wp_loop_rounds 1 ?_; rw [rounds_succ]; go_wp2_with fail)
 go_ret
 exact ⟨rfl, below_alloc _ _⟩
theorem info_Truths : (Tryz.prog.info? 197).map (fun i => (i.zero, i.size, i.bytes)) = some (some (.slice none 0 0), 1, 24) := by kernel_rfl
theorem nil_Truths (w : World) : Calls Tryz.prog 90 #[.slice none 0 0] w fun e w' => e = .returned (.bool true) ∧ Below w.heap.size w w' := by
 have hmk : ∀ wx, (Instr.makeSlice 86 (.int .i64 0) (.int .i64 0)).run Tryz.prog wx = .ok (.slice (some ⟨wx.heap.size, 0, none⟩) 0 0) (wx.alloc (.cells (madeCells #[.slice none 0 0] 0) 197)) := fun wx => run_make_row' (P := Tryz.prog) 86 197 (.slice none 0 0) 24 Tryz.underlying86 info_Truths rfl .i64 .i64 0 (by omega) (by omega) wx
 go_enter Tryz.func90, Tryz.ntmps90
 go_wp2_with fail
 iterate 5 (refine wp_loop_rounds 1 ?_; rw [rounds_succ]; go_wp2_with fail)
 go_ret
 exact ⟨rfl, below_alloc _ _⟩
theorem info_Nodes : (Tryz.prog.info? 198).map (fun i => (i.zero, i.size, i.bytes)) = some (some (.slice none 0 0), 1, 24) := by kernel_rfl
theorem nil_Nodes (w : World) : Calls Tryz.prog 91 #[.slice none 0 0] w fun e w' => e = .returned (.bool true) ∧ Below w.heap.size w w' := by
 have hmk : ∀ wx, (Instr.makeSlice 87 (.int .i64 0) (.int .i64 0)).run Tryz.prog wx = .ok (.slice (some ⟨wx.heap.size, 0, none⟩) 0 0) (wx.alloc (.cells (madeCells #[.slice none 0 0] 0) 198)) := fun wx => run_make_row' (P := Tryz.prog) 87 198 (.slice none 0 0) 24 Tryz.underlying87 info_Nodes rfl .i64 .i64 0 (by omega) (by omega) wx
 go_enter Tryz.func91, Tryz.ntmps91
 go_wp2_with fail
 iterate 5 (refine wp_loop_rounds 1 ?_; rw [rounds_succ]; go_wp2_with fail)
 go_ret
 exact ⟨rfl, below_alloc _ _⟩
theorem info_Insts : (Tryz.prog.info? 206).map (fun i => (i.zero, i.size, i.bytes)) = some (some (.slice none 0 0), 1, 24) := by kernel_rfl
theorem nil_Insts (w : World) : Calls Tryz.prog 92 #[.slice none 0 0] w fun e w' => e = .returned (.bool true) ∧ Below w.heap.size w w' := by
 have hmk : ∀ wx, (Instr.makeSlice 88 (.int .i64 0) (.int .i64 0)).run Tryz.prog wx = .ok (.slice (some ⟨wx.heap.size, 0, none⟩) 0 0) (wx.alloc (.cells (madeCells #[.slice none 0 0] 0) 206)) := fun wx => run_make_row' (P := Tryz.prog) 88 206 (.slice none 0 0) 24 Tryz.underlying88 info_Insts rfl .i64 .i64 0 (by omega) (by omega) wx
 go_enter Tryz.func92, Tryz.ntmps92
 go_wp2_with fail
 iterate 5 (refine wp_loop_rounds 1 ?_; rw [rounds_succ]; go_wp2_with fail)
 go_ret
 exact ⟨rfl, below_alloc _ _⟩
theorem info_Queries : (Tryz.prog.info? 211).map (fun i => (i.zero, i.size, i.bytes)) = some (some (.slice none 0 0), 1, 24) := by kernel_rfl
theorem nil_Queries (w : World) : Calls Tryz.prog 93 #[.slice none 0 0] w fun e w' => e = .returned (.bool true) ∧ Below w.heap.size w w' := by
 have hmk : ∀ wx, (Instr.makeSlice 89 (.int .i64 0) (.int .i64 0)).run Tryz.prog wx = .ok (.slice (some ⟨wx.heap.size, 0, none⟩) 0 0) (wx.alloc (.cells (madeCells #[.slice none 0 0] 0) 211)) := fun wx => run_make_row' (P := Tryz.prog) 89 211 (.slice none 0 0) 24 Tryz.underlying89 info_Queries rfl .i64 .i64 0 (by omega) (by omega) wx
 go_enter Tryz.func93, Tryz.ntmps93
 go_wp2_with fail
 iterate 5 (refine wp_loop_rounds 1 ?_; rw [rounds_succ]; go_wp2_with fail)
 go_ret
 exact ⟨rfl, below_alloc _ _⟩
theorem info_Files : (Tryz.prog.info? 217).map (fun i => (i.zero, i.size, i.bytes)) = some (some (.slice none 0 0), 1, 24) := by kernel_rfl
theorem nil_Files (w : World) : Calls Tryz.prog 94 #[.slice none 0 0] w fun e w' => e = .returned (.bool true) ∧ Below w.heap.size w w' := by
 have hmk : ∀ wx, (Instr.makeSlice 90 (.int .i64 0) (.int .i64 0)).run Tryz.prog wx = .ok (.slice (some ⟨wx.heap.size, 0, none⟩) 0 0) (wx.alloc (.cells (madeCells #[.slice none 0 0] 0) 217)) := fun wx => run_make_row' (P := Tryz.prog) 90 217 (.slice none 0 0) 24 Tryz.underlying90 info_Files rfl .i64 .i64 0 (by omega) (by omega) wx
 go_enter Tryz.func94, Tryz.ntmps94
 go_wp2_with fail
 iterate 5 (refine wp_loop_rounds 1 ?_; rw [rounds_succ]; go_wp2_with fail)
 go_ret
 exact ⟨rfl, below_alloc _ _⟩
theorem info_Docs : (Tryz.prog.info? 222).map (fun i => (i.zero, i.size, i.bytes)) = some (some (.slice none 0 0), 1, 24) := by kernel_rfl
theorem nil_Docs (w : World) : Calls Tryz.prog 95 #[.slice none 0 0] w fun e w' => e = .returned (.bool true) ∧ Below w.heap.size w w' := by
 have hmk : ∀ wx, (Instr.makeSlice 91 (.int .i64 0) (.int .i64 0)).run Tryz.prog wx = .ok (.slice (some ⟨wx.heap.size, 0, none⟩) 0 0) (wx.alloc (.cells (madeCells #[.slice none 0 0] 0) 222)) := fun wx => run_make_row' (P := Tryz.prog) 91 222 (.slice none 0 0) 24 Tryz.underlying91 info_Docs rfl .i64 .i64 0 (by omega) (by omega) wx
 go_enter Tryz.func95, Tryz.ntmps95
 go_wp2_with fail
 iterate 5 (refine wp_loop_rounds 1 ?_; rw [rounds_succ]; go_wp2_with fail)
 go_ret
 exact ⟨rfl, below_alloc _ _⟩
theorem info_Places : (Tryz.prog.info? 226).map (fun i => (i.zero, i.size, i.bytes)) = some (some (.slice none 0 0), 1, 24) := by kernel_rfl
theorem nil_Places (w : World) : Calls Tryz.prog 96 #[.slice none 0 0] w fun e w' => e = .returned (.bool true) ∧ Below w.heap.size w w' := by
 have hmk : ∀ wx, (Instr.makeSlice 92 (.int .i64 0) (.int .i64 0)).run Tryz.prog wx = .ok (.slice (some ⟨wx.heap.size, 0, none⟩) 0 0) (wx.alloc (.cells (madeCells #[.slice none 0 0] 0) 226)) := fun wx => run_make_row' (P := Tryz.prog) 92 226 (.slice none 0 0) 24 Tryz.underlying92 info_Places rfl .i64 .i64 0 (by omega) (by omega) wx
 go_enter Tryz.func96, Tryz.ntmps96
 go_wp2_with fail
 iterate 5 (refine wp_loop_rounds 1 ?_; rw [rounds_succ]; go_wp2_with fail)
 go_ret
 exact ⟨rfl, below_alloc _ _⟩
theorem info_Postings : (Tryz.prog.info? 230).map (fun i => (i.zero, i.size, i.bytes)) = some (some (.slice none 0 0), 1, 24) := by kernel_rfl
theorem nil_Postings (w : World) : Calls Tryz.prog 97 #[.slice none 0 0] w fun e w' => e = .returned (.bool true) ∧ Below w.heap.size w w' := by
 have hmk : ∀ wx, (Instr.makeSlice 93 (.int .i64 0) (.int .i64 0)).run Tryz.prog wx = .ok (.slice (some ⟨wx.heap.size, 0, none⟩) 0 0) (wx.alloc (.cells (madeCells #[.slice none 0 0] 0) 230)) := fun wx => run_make_row' (P := Tryz.prog) 93 230 (.slice none 0 0) 24 Tryz.underlying93 info_Postings rfl .i64 .i64 0 (by omega) (by omega) wx
 go_enter Tryz.func97, Tryz.ntmps97
 go_wp2_with fail
 iterate 5 (refine wp_loop_rounds 1 ?_; rw [rounds_succ]; go_wp2_with fail)
 go_ret
 exact ⟨rfl, below_alloc _ _⟩
theorem info_ShardRefs : (Tryz.prog.info? 22).map (fun i => (i.zero, i.size, i.bytes)) = some (some (.slice none 0 0), 1, 24) := by kernel_rfl
theorem nil_ShardRefs (w : World) : Calls Tryz.prog 98 #[.slice none 0 0] w fun e w' => e = .returned (.bool true) ∧ Below w.heap.size w w' := by
 have hmk : ∀ wx, (Instr.makeSlice 94 (.int .i64 0) (.int .i64 0)).run Tryz.prog wx = .ok (.slice (some ⟨wx.heap.size, 0, none⟩) 0 0) (wx.alloc (.cells (madeCells #[.slice none 0 0] 0) 22)) := fun wx => run_make_row' (P := Tryz.prog) 94 22 (.slice none 0 0) 24 Tryz.underlying94 info_ShardRefs rfl .i64 .i64 0 (by omega) (by omega) wx
 go_enter Tryz.func98, Tryz.ntmps98
 go_wp2_with fail
 iterate 5 (refine wp_loop_rounds 1 ?_; rw [rounds_succ]; go_wp2_with fail)
 go_ret
 exact ⟨rfl, below_alloc _ _⟩
theorem info_Manifests : (Tryz.prog.info? 46).map (fun i => (i.zero, i.size, i.bytes)) = some (some (.slice none 0 0), 1, 24) := by kernel_rfl
theorem nil_Manifests (w : World) : Calls Tryz.prog 99 #[.slice none 0 0] w fun e w' => e = .returned (.bool true) ∧ Below w.heap.size w w' := by
 have hmk : ∀ wx, (Instr.makeSlice 47 (.int .i64 0) (.int .i64 0)).run Tryz.prog wx = .ok (.slice (some ⟨wx.heap.size, 0, none⟩) 0 0) (wx.alloc (.cells (madeCells #[.slice none 0 0] 0) 46)) := fun wx => run_make_row' (P := Tryz.prog) 47 46 (.slice none 0 0) 24 Tryz.underlying47 info_Manifests rfl .i64 .i64 0 (by omega) (by omega) wx
 go_enter Tryz.func99, Tryz.ntmps99
 go_wp2_with fail
 iterate 5 (refine wp_loop_rounds 1 ?_; rw [rounds_succ]; go_wp2_with fail)
 go_ret
 exact ⟨rfl, below_alloc _ _⟩
theorem info_Asks : (Tryz.prog.info? 236).map (fun i => (i.zero, i.size, i.bytes)) = some (some (.slice none 0 0), 1, 24) := by kernel_rfl
theorem nil_Asks (w : World) : Calls Tryz.prog 100 #[.slice none 0 0] w fun e w' => e = .returned (.bool true) ∧ Below w.heap.size w w' := by
 have hmk : ∀ wx, (Instr.makeSlice 95 (.int .i64 0) (.int .i64 0)).run Tryz.prog wx = .ok (.slice (some ⟨wx.heap.size, 0, none⟩) 0 0) (wx.alloc (.cells (madeCells #[.slice none 0 0] 0) 236)) := fun wx => run_make_row' (P := Tryz.prog) 95 236 (.slice none 0 0) 24 Tryz.underlying95 info_Asks rfl .i64 .i64 0 (by omega) (by omega) wx
 go_enter Tryz.func100, Tryz.ntmps100
 go_wp2_with fail
 iterate 5 (refine wp_loop_rounds 1 ?_; rw [rounds_succ]; go_wp2_with fail)
 go_ret
 exact ⟨rfl, below_alloc _ _⟩
theorem info_Hits : (Tryz.prog.info? 243).map (fun i => (i.zero, i.size, i.bytes)) = some (some (.slice none 0 0), 1, 24) := by kernel_rfl
theorem nil_Hits (w : World) : Calls Tryz.prog 101 #[.slice none 0 0] w fun e w' => e = .returned (.bool true) ∧ Below w.heap.size w w' := by
 have hmk : ∀ wx, (Instr.makeSlice 96 (.int .i64 0) (.int .i64 0)).run Tryz.prog wx = .ok (.slice (some ⟨wx.heap.size, 0, none⟩) 0 0) (wx.alloc (.cells (madeCells #[.slice none 0 0] 0) 243)) := fun wx => run_make_row' (P := Tryz.prog) 96 243 (.slice none 0 0) 24 Tryz.underlying96 info_Hits rfl .i64 .i64 0 (by omega) (by omega) wx
 go_enter Tryz.func101, Tryz.ntmps101
 go_wp2_with fail
 iterate 5 (refine wp_loop_rounds 1 ?_; rw [rounds_succ]; go_wp2_with fail)
 go_ret
 exact ⟨rfl, below_alloc _ _⟩
theorem info_Answers : (Tryz.prog.info? 247).map (fun i => (i.zero, i.size, i.bytes)) = some (some (.slice none 0 0), 1, 24) := by kernel_rfl
theorem nil_Answers (w : World) : Calls Tryz.prog 102 #[.slice none 0 0] w fun e w' => e = .returned (.bool true) ∧ Below w.heap.size w w' := by
 have hmk : ∀ wx, (Instr.makeSlice 97 (.int .i64 0) (.int .i64 0)).run Tryz.prog wx = .ok (.slice (some ⟨wx.heap.size, 0, none⟩) 0 0) (wx.alloc (.cells (madeCells #[.slice none 0 0] 0) 247)) := fun wx => run_make_row' (P := Tryz.prog) 97 247 (.slice none 0 0) 24 Tryz.underlying97 info_Answers rfl .i64 .i64 0 (by omega) (by omega) wx
 go_enter Tryz.func102, Tryz.ntmps102
 go_wp2_with fail
 iterate 5 (refine wp_loop_rounds 1 ?_; rw [rounds_succ]; go_wp2_with fail)
 go_ret
 exact ⟨rfl, below_alloc _ _⟩
theorem info_Parts : (Tryz.prog.info? 41).map (fun i => (i.zero, i.size, i.bytes)) = some (some (.slice none 0 0), 1, 24) := by kernel_rfl
theorem nil_Parts (w : World) : Calls Tryz.prog 103 #[.slice none 0 0] w fun e w' => e = .returned (.bool true) ∧ Below w.heap.size w w' := by
 have hmk : ∀ wx, (Instr.makeSlice 98 (.int .i64 0) (.int .i64 0)).run Tryz.prog wx = .ok (.slice (some ⟨wx.heap.size, 0, none⟩) 0 0) (wx.alloc (.cells (madeCells #[.slice none 0 0] 0) 41)) := fun wx => run_make_row' (P := Tryz.prog) 98 41 (.slice none 0 0) 24 Tryz.underlying98 info_Parts rfl .i64 .i64 0 (by omega) (by omega) wx
 go_enter Tryz.func103, Tryz.ntmps103
 go_wp2_with fail
 iterate 5 (refine wp_loop_rounds 1 ?_; rw [rounds_succ]; go_wp2_with fail)
 go_ret
 exact ⟨rfl, below_alloc _ _⟩
theorem info_Changes : (Tryz.prog.info? 254).map (fun i => (i.zero, i.size, i.bytes)) = some (some (.slice none 0 0), 1, 24) := by kernel_rfl
theorem nil_Changes (w : World) : Calls Tryz.prog 104 #[.slice none 0 0] w fun e w' => e = .returned (.bool true) ∧ Below w.heap.size w w' := by
 have hmk : ∀ wx, (Instr.makeSlice 99 (.int .i64 0) (.int .i64 0)).run Tryz.prog wx = .ok (.slice (some ⟨wx.heap.size, 0, none⟩) 0 0) (wx.alloc (.cells (madeCells #[.slice none 0 0] 0) 254)) := fun wx => run_make_row' (P := Tryz.prog) 99 254 (.slice none 0 0) 24 Tryz.underlying99 info_Changes rfl .i64 .i64 0 (by omega) (by omega) wx
 go_enter Tryz.func104, Tryz.ntmps104
 go_wp2_with fail
 iterate 5 (refine wp_loop_rounds 1 ?_; rw [rounds_succ]; go_wp2_with fail)
 go_ret
 exact ⟨rfl, below_alloc _ _⟩
end Go.Proofs.YtppdbinppibjhaaGreatDoor
