/-
  The reference's parts of a path.
-/
import Derived.Test.YteignimfggkgnaaLAwake
import Derived.Test.YteignimfggkgnaaAppend
namespace Go.Proofs.Yteignimfggkgnaa
open Go.RowKit Go.Shelf

theorem info_str : (Try.prog.info? 9).map (fun i => (i.zero, i.size, i.bytes)) = some (some (.string ⟨#[]⟩), 1, 16) := by kernel_rfl
theorem parts_no : ∀ X : List UInt8, (∀ j, j < X.length → X[j]? ≠ some 47) → partsL X = [X]
  | [], _ => by simp [partsL]
  | c :: X, h => by
    have hc : c ≠ 47 := fun e => h 0 (by simp) (by simp [e])
    rw [parts_cons, if_neg hc, parts_no X (fun j hj => by have := h (j + 1) (by simp; omega); simpa using this)]
theorem drop_at {L : List UInt8} {f k : Nat} (hf : f ≤ k) (hk : L[k]? = some 47) : L.drop f = (L.drop f).take (k - f) ++ 47 :: L.drop (k + 1) := by
  have h1 : L.drop f = (L.drop f).take (k - f) ++ (L.drop f).drop (k - f) := (List.take_append_drop _ _).symm
  have h2 : (L.drop f).drop (k - f) = L.drop k := by rw [List.drop_drop]; congr 1; omega
  have hkl := (List.getElem?_eq_some_iff.1 hk).1
  have h3 : L.drop k = 47 :: L.drop (k + 1) := by
    rw [List.drop_eq_getElem_cons hkl]
    rw [List.getElem?_eq_getElem hkl] at hk
    rw [Option.some.inj hk]
  rw [h2, h3] at h1
  exact h1
theorem no_in {L : List UInt8} {f k : Nat} (hno : ∀ j, f ≤ j → j < k → L[j]? ≠ some 47) : ∀ j, j < ((L.drop f).take (k - f)).length → ((L.drop f).take (k - f))[j]? ≠ some 47 := by
  intro j hj
  rw [List.length_take] at hj
  rw [List.getElem?_take_of_lt (by omega), List.getElem?_drop]
  exact hno (f + j) (by omega) (by omega)
theorem parts_slash {L : List UInt8} {f k : Nat} (hf : f ≤ k) (hk : L[k]? = some 47) (hno : ∀ j, f ≤ j → j < k → L[j]? ≠ some 47) : partsL (L.drop f) = (L.drop f).take (k - f) :: partsL (L.drop (k + 1)) := by
  rw [drop_at hf hk, parts_join, parts_no _ (no_in hno), ← drop_at hf hk]
  rfl
theorem parts_end {L : List UInt8} {f : Nat} (hno : ∀ j, f ≤ j → j < L.length → L[j]? ≠ some 47) : partsL (L.drop f) = [(L.drop f).take (L.length - f)] := by
  have e : (L.drop f).take (L.length - f) = L.drop f := List.take_of_length_le (by simp)
  rw [e]
  exact parts_no _ (by have := no_in hno; rwa [e] at this)

set_option maxRecDepth 100000 in
set_option maxHeartbeats 2000000 in
theorem refParts_any (L : List UInt8) (w : World) (hL : L.length ≤ 1000000) :
    Calls Try.prog 15 #[by8 L] w fun e w' => ∃ A C, e = .returned (.slice A (partsL L).length C) ∧ w'.ownsRow w.heap.size 9 1 (.slice A (partsL L).length C) (partsL L).length ((partsL L).map by8) ∧ Below w.heap.size w w' := by
  have hsz := (show (⟨L.toArray⟩ : ByteArray).size = L.length by simp [ByteArray.size])
  obtain ⟨i0, hi, hq0, hq1, hq2⟩ := info_parts info_str
  unfold by8
  go_enter Try.func15, Try.ntmps15
  go_wp2_with fail
  go_loopg [3, 4, 5] (L.length + 1) (fun q s3 s4 s5 wr => ∃ (k f : Nat) (D : List (List UInt8)) (A : Option Addr) (C : Nat), k + q = L.length + 1 ∧ s5 = .int .i64 k ∧ s4 = .int .i64 f ∧ s3 = .slice A D.length C ∧ (k ≤ L.length → D ++ partsL (L.drop f) = partsL L ∧ f ≤ k ∧ ∀ j, f ≤ j → j < k → L[j]? ≠ some 47) ∧ (k = L.length + 1 → D = partsL L) ∧ D.length ≤ k ∧ wr.ownsRow w.heap.size 9 1 (.slice A D.length C) D.length (D.map by8) ∧ Below w.heap.size w wr)
  case atStart => exact ⟨0, 0, [], none, 0, by omega, rfl, rfl, rfl, fun _ => ⟨rfl, Nat.le_refl _, fun j _ h => by omega⟩, fun h => by omega, by simp, World.ownsRow_nil _ _ _ _, Below.refl _ _⟩
  case round =>
    obtain ⟨k, f, D, A, C, hkq, rfl, rfl, rfl, hin, hout, hDk, hown, hbr⟩ := hrel
    have HO := hide hown
    have HB := hide hbr
    have HI := hide hin
    have HU := hide hout
    clear hown hbr hin hout
    cases gk with
    | zero =>
      obtain rfl : k = L.length + 1 := by omega
      have hD := HU.out rfl
      have hgt : ¬ ((L.length : Int) + 1 ≤ (L.length : Int)) := by omega
      go_wp2_with fail
      go_ret
      exact ⟨A, C, by rw [← hD]; rfl, by rw [← hD]; exact HO.out, HB.out⟩
    | succ q =>
      have hkl : k ≤ L.length := by omega
      have hkl1 : (k : Int) ≤ (L.length : Int) := by omega
      obtain ⟨hpp, hfk, hno⟩ := HI.out hkl
      by_cases hend : k = L.length
      · subst hend
        have hex : (⟨L.toArray⟩ : ByteArray).extract f L.length = ⟨((L.drop f).take (L.length - f)).toArray⟩ := Lib.extract_eq _ _ _
        have hnew := cell_one_new wr (.string ⟨((L.drop f).take (L.length - f)).toArray⟩) 9
        have hrA := owns_thru HO.out (below_alloc wr (.cells #[.string ⟨((L.drop f).take (L.length - f)).toArray⟩] 9))
        have hszw := HB.out.size
        go_wp2_with (at_builtin; go_must (refine wpList_append_foot _ rfl (.tmp 22) (.tmp 27) 26 rfl 9 i0 (.string ⟨#[]⟩) 16 Try.underlying26 hi hq0 hq1 hq2 rfl w.heap.size _ D.length (D.map by8) rfl hrA (some ⟨wr.heap.size, 0, none⟩) 1 1 [.string ⟨((L.drop f).take (L.length - f)).toArray⟩] rfl rfl (fun e => by cases e) (fun ad e => by cases e; exact hnew) (by simp [Value.oneCell']) (by unfold maxLen; omega) (by omega) (by simp; omega) ?_); intro A' C' w1 hown' hG')
        have hG2 : Grew (wr.alloc (.cells #[.string ⟨((L.drop f).take (L.length - f)).toArray⟩] 9)) w1 (.slice A D.length C) (.slice A' (D.length + 1) C') := hG'
        have hb2 : Below w.heap.size (wr.alloc (.cells #[.string ⟨((L.drop f).take (L.length - f)).toArray⟩] 9)) w1 := (hG2.kept (F := fun x => (Value.slice A D.length C).ownBlock = some x) (fun _ h => h)).below (fun x hx => (owns_cells HO.out x hx).2.1) (by simp; omega)
        have HB2 := hide (HB.out.trans (((below_alloc wr _).mono hszw).trans hb2))
        have hown2 : w1.ownsRow w.heap.size 9 1 (.slice A' (D ++ [(L.drop f).take (L.length - f)]).length C') (D ++ [(L.drop f).take (L.length - f)]).length ((D ++ [(L.drop f).take (L.length - f)]).map by8) := by
          rw [List.map_append, List.length_append]
          exact hown'
        have HO2 := hide hown2
        clear hown' hG' hG2 hb2 hown2 hnew hrA
        go_wp2_with fail
        go_roundg q
        case measure => omega
        case rel =>
          refine ⟨L.length + 1, L.length + 1, D ++ [(L.drop f).take (L.length - f)], A', C', by omega, by go_num, by go_num, by rw [List.length_append]; rfl, (fun h => by omega), (fun _ => by rw [← hpp, parts_end hno]), by rw [List.length_append]; simp only [List.length_cons, List.length_nil]; omega, HO2.out, HB2.out⟩
      · have hne : ¬ ((k : Int) = (L.length : Int)) := by omega
        have hlt : k < L.length := by omega
        have hkg : L[k]? = some L[k] := List.getElem?_eq_getElem hlt
        have hbk : ((⟨L.toArray⟩ : ByteArray)[k]'(by rw [hsz]; exact hlt)) = L[k] := by simp [ByteArray.getElem_eq_getElem_data]
        generalize L[k] = c at hkg hbk
        by_cases hc : c = 47
        · subst hc
          have hex : (⟨L.toArray⟩ : ByteArray).extract f k = ⟨((L.drop f).take (k - f)).toArray⟩ := Lib.extract_eq _ _ _
          have hnew := cell_one_new wr (.string ⟨((L.drop f).take (k - f)).toArray⟩) 9
          have hrA := owns_thru HO.out (below_alloc wr (.cells #[.string ⟨((L.drop f).take (k - f)).toArray⟩] 9))
          have hszw := HB.out.size
          go_wp2_with (at_builtin; go_must (refine wpList_append_foot _ rfl (.tmp 22) (.tmp 27) 26 rfl 9 i0 (.string ⟨#[]⟩) 16 Try.underlying26 hi hq0 hq1 hq2 rfl w.heap.size _ D.length (D.map by8) rfl hrA (some ⟨wr.heap.size, 0, none⟩) 1 1 [.string ⟨((L.drop f).take (k - f)).toArray⟩] rfl rfl (fun e => by cases e) (fun ad e => by cases e; exact hnew) (by simp [Value.oneCell']) (by unfold maxLen; omega) (by omega) (by simp; omega) ?_); intro A' C' w1 hown' hG')
          have hG2 : Grew (wr.alloc (.cells #[.string ⟨((L.drop f).take (k - f)).toArray⟩] 9)) w1 (.slice A D.length C) (.slice A' (D.length + 1) C') := hG'
          have hb2 : Below w.heap.size (wr.alloc (.cells #[.string ⟨((L.drop f).take (k - f)).toArray⟩] 9)) w1 := (hG2.kept (F := fun x => (Value.slice A D.length C).ownBlock = some x) (fun _ h => h)).below (fun x hx => (owns_cells HO.out x hx).2.1) (by simp; omega)
          have HB2 := hide (HB.out.trans (((below_alloc wr _).mono hszw).trans hb2))
          have hown2 : w1.ownsRow w.heap.size 9 1 (.slice A' (D ++ [(L.drop f).take (k - f)]).length C') (D ++ [(L.drop f).take (k - f)]).length ((D ++ [(L.drop f).take (k - f)]).map by8) := by
            rw [List.map_append, List.length_append]
            exact hown'
          have HO2 := hide hown2
          clear hown' hG' hG2 hb2 hown2 hnew hrA
          go_wp2_with fail
          go_roundg q
          case measure => omega
          case rel =>
            refine ⟨k + 1, k + 1, D ++ [(L.drop f).take (k - f)], A', C', by omega, by go_num, by go_num, by rw [List.length_append]; rfl, (fun h => ⟨by rw [← hpp, parts_slash hfk hkg hno, List.append_assoc]; rfl, Nat.le_refl _, fun j h1 h2 => by omega⟩), (fun h => by omega), by rw [List.length_append]; simp only [List.length_cons, List.length_nil]; omega, HO2.out, HB2.out⟩
        · have hcn : ((c.toNat : Int) == 47) = false := by
            rw [beq_eq_false_iff_ne]
            intro e
            exact hc (UInt8.toNat_inj.1 (by show c.toNat = 47; omega))
          have hcn2 : ¬ (c.toNat = 47) := fun e => hc (UInt8.toNat_inj.1 e)
          go_wp2_with fail
          go_roundg q
          case measure => omega
          case rel =>
            exact ⟨k + 1, f, D, A, C, by omega, by go_num, rfl, rfl, fun h => ⟨hpp, by omega, fun j h1 h2 => by
              rcases Nat.lt_or_ge j k with h3 | h3
              · exact hno j h1 h3
              · obtain rfl : j = k := by omega
                rw [hkg]; intro e; exact hc (Option.some.inj e)⟩, fun h => by omega, by omega, HO.out, HB.out⟩
end Go.Proofs.Yteignimfggkgnaa
