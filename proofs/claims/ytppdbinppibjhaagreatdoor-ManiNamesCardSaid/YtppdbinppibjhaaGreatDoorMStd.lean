/-
  The library's variables as the program's text lays them, for the contracts of names.
-/
import Derived.Test.YtppdbinppibjhaaGreatDoorMLaid
import Derived.Test.YtppdbinppibjhaaGreatDoorMName
import Derived.Lib.LaidU8
namespace Go.Proofs.YtppdbinppibjhaaGreatDoor
open Go.ChangeShapes Go.WideShapes Go.ChangeAt Go.RowKit

theorem laid_reads {W : World} (h : laidMetH Tryz.prog tabLaid W) {n : String} {d : DataW Unit} (hm : (n, d) ∈ tabLaid) : Lib.VarReads Tryz.prog W n d := by
  rw [MakeChecks.laidMetH_plain _ _ _ (by kernel_rfl)] at h
  exact Lib.laidMet.reads h hm
theorem iface_of {P : Program} {w : World} {base fuel : Nat} {t : TypeId} {ms : Array (String × TypeId)} {cs : List Value} {x : DataW Unit × List MemPlace} (ht : P.underlying t = some (.interface ms))
    (h : DataW.trod (fun _ => ()) P w base (fun _ => true) false fuel t cs = some x) : ∃ v, cs = [v] ∧ (v = .nilIface ∨ ∃ te pe, v = .iface te pe) := by
  cases fuel with
  | zero => simp [DataW.trod] at h
  | succ n =>
    match cs, h with
    | [], h => simp [DataW.trod, ht] at h
    | [v], h =>
      refine ⟨v, rfl, ?_⟩
      cases v <;> first | exact .inl rfl | exact .inr ⟨_, _, rfl⟩ | (simp [DataW.trod, ht] at h)
    | a :: b :: r, h => simp [DataW.trod, ht] at h
theorem err_of_laid {W : World} {g : Nat} {n : String} {d : DataW Unit} (hg : Tryz.prog.globalNamed n = some g) (hty : (Tryz.prog.globals[g]?).map (·.type) = some 126) (h : Lib.VarReads Tryz.prog W n d) :
    ∃ ev, W.cell? ⟨g, 0, none⟩ = some ev ∧ (ev = .nilIface ∨ ∃ te pe, ev = .iface te pe) := by
  obtain ⟨g', t, cs, fuel, p, hg', ht', hv, hd⟩ := h
  obtain rfl := Option.some.inj (hg.symm.trans hg')
  obtain rfl := Option.some.inj (hty.symm.trans ht')
  obtain ⟨v, hc, hk⟩ := iface_of Tryz.underlying126 hd
  refine ⟨v, ?_, hk⟩
  rw [World.var?_cell hg hv 0, ← Array.getElem?_toList, hc]
  rfl
theorem pow_data : (Rows.laid_internal_strconv_uint64pow10 : DataW Unit) = Lib.tabData .u64 Lib.pow10Tab := by kernel_rfl
theorem std_of_laid {W : World} (h : laidMetH Tryz.prog tabLaid W) : StdW W := by
  refine ⟨?_, err_of_laid (n := "strconv.ErrSyntax") (d := Rows.laid_strconv_ErrSyntax) (by kernel_rfl) (by kernel_rfl) (laid_reads h (by simp [tabLaid])), err_of_laid (n := "strconv.ErrRange") (d := Rows.laid_strconv_ErrRange) (by kernel_rfl) (by kernel_rfl) (laid_reads h (by simp [tabLaid]))⟩
  obtain ⟨g, t, cs, fuel, p, hg, ht, hv, hd⟩ := laid_reads h (n := "internal/strconv.uint64pow10") (d := Rows.laid_internal_strconv_uint64pow10) (by simp [tabLaid])
  obtain rfl := Option.some.inj ((show Tryz.prog.globalNamed "internal/strconv.uint64pow10" = some 0 by kernel_rfl).symm.trans hg)
  obtain rfl := Option.some.inj ((show (Tryz.prog.globals[0]?).map (·.type) = some 288 by kernel_rfl).symm.trans ht)
  rw [pow_data] at hd
  have hcs := Lib.cells_of_tab Tryz.underlying288 Tryz.underlying162 (by kernel_rfl) (by kernel_rfl) hd
  show W.var? Tryz.prog "internal/strconv.uint64pow10" = _
  rw [hv, ← hcs]
end Go.Proofs.YtppdbinppibjhaaGreatDoor
