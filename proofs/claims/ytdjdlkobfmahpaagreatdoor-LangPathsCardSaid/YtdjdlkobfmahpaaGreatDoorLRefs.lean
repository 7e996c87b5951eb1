/-
  The reference's parts of a path.
-/
import Derived.Test.YtdjdlkobfmahpaaGreatDoorLAwake
import Derived.Test.YtdjdlkobfmahpaaGreatDoorAppendS
import Derived.Test.YtdjdlkobfmahpaaGreatDoorRegT
namespace Go.Proofs.YtdjdlkobfmahpaaGreatDoor
open Go.RowKit Go.Shelf

theorem info_str : (Tryz.prog.info? 9).map (fun i => (i.zero, i.size, i.bytes)) = some (some (.string ⟨#[]⟩), 1, 16) := by kernel_rfl
theorem parts_no : ∀ X : List UInt8, (∀ j, j < X.length → X[j]? ≠ some 47) → partsL X = [X]
  | [], _ => by simp [partsL]
  | c :: X, h => by
    have hc : c ≠ 47 := fun e => h 0 (by simp) (by simp [e])
    rw [parts_cons, if_neg hc, parts_no X (fun j hj => by have := h (j + 1) (by simp; omega); simpa using this)]
theorem drop_at {L : List UInt8} {f k : Nat} (hf : f ≤ k) (hk : L[k]? = some 47) : L.drop f = (L.drop f).take (k - f) ++ 47 :: L.drop (k + 1) := by
  have h1 : L.drop f = (L.drop f).take (k - f) ++ (L.drop f).drop (k - f) := (List.take_append_drop _ _).symm
  have h2 : (L.drop f).drop (k - f) = L.drop k := by rw [List.drop_drop]; congr 1; omega
  have hkl := (List.getElem?_eq_some_iff.1 hk).1
  have h3 : L.drop k = 47 :: L.drop (k + 1) := by
    rw [List.drop_eq_getElem_cons hkl]
    rw [List.getElem?_eq_getElem hkl] at hk
    rw [Option.some.inj hk]
  rw [h2, h3] at h1
  exact h1
theorem no_in {L : List UInt8} {f k : Nat} (hno : ∀ j, f ≤ j → j < k → L[j]? ≠ some 47) : ∀ j, j < ((L.drop f).take (k - f)).length → ((L.drop f).take (k - f))[j]? ≠ some 47 := by
  intro j hj
  rw [List.length_take] at hj
  rw [List.getElem?_take_of_lt (by omega), List.getElem?_drop]
  exact hno (f + j) (by omega) (by omega)
theorem parts_slash {L : List UInt8} {f k : Nat} (hf : f ≤ k) (hk : L[k]? = some 47) (hno : ∀ j, f ≤ j → j < k → L[j]? ≠ some 47) : partsL (L.drop f) = (L.drop f).take (k - f) :: partsL (L.drop (k + 1)) := by
  rw [drop_at hf hk, parts_join, parts_no _ (no_in hno), ← drop_at hf hk]
  rfl
theorem parts_end {L : List UInt8} {f : Nat} (hno : ∀ j, f ≤ j → j < L.length → L[j]? ≠ some 47) : partsL (L.drop f) = [(L.drop f).take (L.length - f)] := by
  have e : (L.drop f).take (L.length - f) = L.drop f := List.take_of_length_le (by simp)
  rw [e]
  exact parts_no _ (by have := no_in hno; rwa [e] at this)

set_option maxRecDepth 100000 in
set_option maxHeartbeats 2000000 in
theorem refParts_any (L : List UInt8) (w : World) (hL : L.length ≤ 1000000) :
    Calls Tryz.prog 34 #[by8 L] w fun e w' => ∃ A C, e = .returned (.slice A (partsL L).length C) ∧ w'.ownsRow w.heap.size 9 1 (.slice A (partsL L).length C) (partsL L).length ((partsL L).map by8) ∧ Below w.heap.size w w' := by
  have hsz := (show (⟨L.toArray⟩ : ByteArray).size = L.length by simp [ByteArray.size])
  obtain ⟨i0, hi, hq0, hq1, hq2⟩ := info_parts info_str
  unfold by8
  go_enter Tryz.func34, Tryz.ntmps34
  go_wp2_with fail
  go_loopg [3, 4, 5] (L.length + 1) (fun q s3 s4 s5 wr => ∃ (k f : Nat) (D : List (List UInt8)) (A : Option Addr) (C : Nat), k + q = L.length + 1 ∧ s5 = .int .i64 k ∧ s4 = .int .i64 f ∧ s3 = .slice A D.length C ∧ (k ≤ L.length → D ++ partsL (L.drop f) = partsL L ∧ f ≤ k ∧ ∀ j, f ≤ j → j < k → L[j]? ≠ some 47) ∧ (k = L.length + 1 → D = partsL L) ∧ D.length ≤ k ∧ wr.ownsRow w.heap.size 9 1 (.slice A D.length C) D.length (D.map by8) ∧ Below w.heap.size w wr)
  case atStart => exact ⟨0, 0, [], none, 0, by omega, rfl, rfl, rfl, fun _ => ⟨rfl, Nat.le_refl _, fun j _ h => by omega⟩, fun h => by omega, by simp, World.ownsRow_nil _ _ _ _, Below.refl _ _⟩
  case round =>
    obtain ⟨k, f, D, A, C, hkq, rfl, rfl, rfl, hin, hout, hDk, hown, hbr⟩ := hrel
    have HO := hide hown
    have HB := hide hbr
    have HI := hide hin
    have HU := hide hout
    clear hown hbr hin hout
    cases gk with
    | zero =>
      obtain rfl : k = L.length + 1 := by omega
      have hD := HU.out rfl
      have hgt : ¬ ((L.length : Int) + 1 ≤ (L.length : Int)) := by omega
      go_wp2_with fail
      go_ret
      exact ⟨A, C, by rw [← hD]; rfl, by rw [← hD]; exact HO.out, HB.out⟩
    | succ q =>
      have hkl : k ≤ L.length := by omega
      have hkl1 : (k : Int) ≤ (L.length : Int) := by omega
      obtain ⟨hpp, hfk, hno⟩ := HI.out hkl
      by_cases hend : k = L.length
      · subst hend
        have hex : (⟨L.toArray⟩ : ByteArray).extract f L.length = ⟨((L.drop f).take (L.length - f)).toArray⟩ := Lib.extract_eq _ _ _
        have hnew := cell_one_new wr (.string ⟨((L.drop f).take (L.length - f)).toArray⟩) 9
        have hrA := owns_thru HO.out (below_alloc wr (.cells #[.string ⟨((L.drop f).take (L.length - f)).toArray⟩] 9))
        have hszw := HB.out.size
        go_wp2_with (at_builtin; go_must (refine wpList_append_foot _ rfl (.tmp 22) (.tmp 27) 24 rfl 9 i0 (.string ⟨#[]⟩) 16 Tryz.underlying24 hi hq0 hq1 hq2 rfl w.heap.size _ D.length (D.map by8) rfl hrA (some ⟨wr.heap.size, 0, none⟩) 1 1 [.string ⟨((L.drop f).take (L.length - f)).toArray⟩] rfl rfl (fun e => by cases e) (fun ad e => by cases e; exact hnew) (by simp [Value.oneCell']) (by unfold maxLen; omega) (by omega) (by simp; omega) ?_); intro A' C' w1 hown' hG')
        have hG2 : Grew (wr.alloc (.cells #[.string ⟨((L.drop f).take (L.length - f)).toArray⟩] 9)) w1 (.slice A D.length C) (.slice A' (D.length + 1) C') := hG'
        have hb2 : Below w.heap.size (wr.alloc (.cells #[.string ⟨((L.drop f).take (L.length - f)).toArray⟩] 9)) w1 := (hG2.kept (F := fun x => (Value.slice A D.length C).ownBlock = some x) (fun _ h => h)).below (fun x hx => (owns_cells HO.out x hx).2.1) (by simp; omega)
        have HB2 := hide (HB.out.trans (((below_alloc wr _).mono hszw).trans hb2))
        have hown2 : w1.ownsRow w.heap.size 9 1 (.slice A' (D ++ [(L.drop f).take (L.length - f)]).length C') (D ++ [(L.drop f).take (L.length - f)]).length ((D ++ [(L.drop f).take (L.length - f)]).map by8) := by
          rw [List.map_append, List.length_append]
          exact hown'
        have HO2 := hide hown2
        clear hown' hG' hG2 hb2 hown2 hnew hrA
        go_wp2_with fail
        go_roundg q
        case measure => omega
        case rel =>
          refine ⟨L.length + 1, L.length + 1, D ++ [(L.drop f).take (L.length - f)], A', C', by omega, by go_num, by go_num, by rw [List.length_append]; rfl, (fun h => by omega), (fun _ => by rw [← hpp, parts_end hno]), by rw [List.length_append]; simp only [List.length_cons, List.length_nil]; omega, HO2.out, HB2.out⟩
      · have hne : ¬ ((k : Int) = (L.length : Int)) := by omega
        have hlt : k < L.length := by omega
        have hkg : L[k]? = some L[k] := List.getElem?_eq_getElem hlt
        have hbk : ((⟨L.toArray⟩ : ByteArray)[k]'(by rw [hsz]; exact hlt)) = L[k] := by simp [ByteArray.getElem_eq_getElem_data]
        generalize L[k] = c at hkg hbk
        by_cases hc : c = 47
        · subst hc
          have hex : (⟨L.toArray⟩ : ByteArray).extract f k = ⟨((L.drop f).take (k - f)).toArray⟩ := Lib.extract_eq _ _ _
          have hnew := cell_one_new wr (.string ⟨((L.drop f).take (k - f)).toArray⟩) 9
          have hrA := owns_thru HO.out (below_alloc wr (.cells #[.string ⟨((L.drop f).take (k - f)).toArray⟩] 9))
          have hszw := HB.out.size
          go_wp2_with (at_builtin; go_must (refine wpList_append_foot _ rfl (.tmp 22) (.tmp 27) 24 rfl 9 i0 (.string ⟨#[]⟩) 16 Tryz.underlying24 hi hq0 hq1 hq2 rfl w.heap.size _ D.length (D.map by8) rfl hrA (some ⟨wr.heap.size, 0, none⟩) 1 1 [.string ⟨((L.drop f).take (k - f)).toArray⟩] rfl rfl (fun e => by cases e) (fun ad e => by cases e; exact hnew) (by simp [Value.oneCell']) (by unfold maxLen; omega) (by omega) (by simp; omega) ?_); intro A' C' w1 hown' hG')
          have hG2 : Grew (wr.alloc (.cells #[.string ⟨((L.drop f).take (k - f)).toArray⟩] 9)) w1 (.slice A D.length C) (.slice A' (D.length + 1) C') := hG'
          have hb2 : Below w.heap.size (wr.alloc (.cells #[.string ⟨((L.drop f).take (k - f)).toArray⟩] 9)) w1 := (hG2.kept (F := fun x => (Value.slice A D.length C).ownBlock = some x) (fun _ h => h)).below (fun x hx => (owns_cells HO.out x hx).2.1) (by simp; omega)
          have HB2 := hide (HB.out.trans (((below_alloc wr _).mono hszw).trans hb2))
          have hown2 : w1.ownsRow w.heap.size 9 1 (.slice A' (D ++ [(L.drop f).take (k - f)]).length C') (D ++ [(L.drop f).take (k - f)]).length ((D ++ [(L.drop f).take (k - f)]).map by8) := by
            rw [List.map_append, List.length_append]
            exact hown'
          have HO2 := hide hown2
          clear hown' hG' hG2 hb2 hown2 hnew hrA
          go_wp2_with fail
          go_roundg q
          case measure => omega
          case rel =>
            refine ⟨k + 1, k + 1, D ++ [(L.drop f).take (k - f)], A', C', by omega, by go_num, by go_num, by rw [List.length_append]; rfl, (fun h => ⟨by rw [← hpp, parts_slash hfk hkg hno, List.append_assoc]; rfl, Nat.le_refl _, fun j h1 h2 => by omega⟩), (fun h => by omega), by rw [List.length_append]; simp only [List.length_cons, List.length_nil]; omega, HO2.out, HB2.out⟩
        · have hcn : ((c.toNat : Int) == 47) = false := by
            rw [beq_eq_false_iff_ne]
            intro e
            exact hc (UInt8.toNat_inj.1 (by show c.toNat = 47; omega))
          have hcn2 : ¬ (c.toNat = 47) := fun e => hc (UInt8.toNat_inj.1 e)
          go_wp2_with fail
          go_roundg q
          case measure => omega
          case rel =>
            exact ⟨k + 1, f, D, A, C, by omega, by go_num, rfl, rfl, fun h => ⟨hpp, by omega, fun j h1 h2 => by
              rcases Nat.lt_or_ge j k with h3 | h3
              · exact hno j h1 h3
              · obtain rfl : j = k := by omega
                rw [hkg]; intro e; exact hc (Option.some.inj e)⟩, fun h => by omega, by omega, HO.out, HB.out⟩
end Go.Proofs.YtdjdlkobfmahpaaGreatDoor

/-
  The reference's Right.
-/
namespace Go.Proofs.YtdjdlkobfmahpaaGreatDoor
open Go.RowKit Go.Shelf

theorem part_bytes : ∀ (L p : List UInt8) (c : UInt8), p ∈ partsL L → c ∈ p → c ∈ L
  | [], p, c, hp, hc => by simp [partsL] at hp; subst hp; exact hc
  | d :: L, p, c, hp, hc => by
    have ih := part_bytes L
    rw [parts_cons] at hp
    split at hp
    · rcases List.mem_cons.1 hp with rfl | h
      · cases hc
      · exact List.mem_cons_of_mem _ (ih p c h hc)
    · split at hp
      · rename_i e
        exact absurd e (parts_ne L)
      · rename_i q r e
        rcases List.mem_cons.1 hp with rfl | h
        · rcases List.mem_cons.1 hc with rfl | h2
          · exact List.mem_cons_self
          · exact List.mem_cons_of_mem _ (ih q c (by rw [e]; exact List.mem_cons_self) h2)
        · exact List.mem_cons_of_mem _ (ih p c (by rw [e]; exact List.mem_cons_of_mem _ h) hc)
theorem bytes_part : ∀ (L : List UInt8) (c : UInt8), c ∈ L → c ≠ 47 → ∃ p ∈ partsL L, c ∈ p
  | d :: L, c, hc, hn => by
    have ih := bytes_part L c
    rw [parts_cons]
    rcases List.mem_cons.1 hc with rfl | h
    · rw [if_neg hn]
      split
      · exact ⟨[c], by simp, by simp⟩
      · rename_i q r e
        exact ⟨c :: q, by simp, by simp⟩
    · obtain ⟨p, hp, hcp⟩ := ih h hn
      split
      · exact ⟨p, List.mem_cons_of_mem _ hp, hcp⟩
      · split
        · rename_i e
          exact absurd e (parts_ne L)
        · rename_i q r e
          rw [e] at hp
          rcases List.mem_cons.1 hp with rfl | h2
          · exact ⟨d :: p, by simp, List.mem_cons_of_mem _ hcp⟩
          · exact ⟨p, List.mem_cons_of_mem _ h2, hcp⟩
theorem right_bad {L : List UInt8} {k : Nat} {c : UInt8} (hk : L[k]? = some c) (hc : ¬ (32 ≤ c.toNat ∧ c.toNat ≠ 127)) : rightP L = false := by
  have hm : c ∈ L := List.mem_of_getElem? hk
  have hn : c ≠ 47 := by intro e; subst e; exact hc (by decide)
  obtain ⟨p, hp, hcp⟩ := bytes_part L c hm hn
  unfold rightP
  rw [Bool.and_eq_false_iff]
  right
  rw [List.all_eq_false]
  refine ⟨p, hp, ?_⟩
  unfold okP
  intro e
  rw [Bool.and_eq_true, List.all_eq_true] at e
  exact hc (of_decide_eq_true (e.2 c hcp))
theorem right_good {L : List UInt8} (h2 : L.length ≤ 200) (hb : ∀ (k : Nat) (c : UInt8), L[k]? = some c → 32 ≤ c.toNat ∧ c.toNat ≠ 127) (hp : ∀ p ∈ partsL L, p ≠ [] ∧ p ≠ [46] ∧ p ≠ [46, 46]) : rightP L = true := by
  unfold rightP
  rw [decide_eq_true h2, Bool.true_and, List.all_eq_true]
  intro p hpm
  unfold okP
  rw [decide_eq_true (hp p hpm), Bool.true_and, List.all_eq_true]
  intro c hc
  obtain ⟨k, hk⟩ := List.getElem?_of_mem (part_bytes L p c hpm hc)
  exact decide_eq_true (hb k c hk)
theorem right_part {L p : List UInt8} (hp : p ∈ partsL L) (hb : ¬ (p ≠ [] ∧ p ≠ [46] ∧ p ≠ [46, 46])) : rightP L = false := by
  unfold rightP
  rw [Bool.and_eq_false_iff]
  right
  rw [List.all_eq_false]
  refine ⟨p, hp, ?_⟩
  unfold okP
  rw [decide_eq_false hb, Bool.false_and]
  decide

set_option maxRecDepth 100000 in
set_option maxHeartbeats 2000000 in
theorem refRight_any (L : List UInt8) (w : World) (hL : L.length ≤ 1000000) :
    Calls Tryz.prog 14 #[by8 L] w fun e w' => e = .returned (.bool (rightP L)) ∧ Below w.heap.size w w' := by
  have hsz : (⟨L.toArray⟩ : ByteArray).size = L.length := by simp [ByteArray.size]
  by_cases h1 : L.length < 1
  · have h0 : L = [] := List.eq_nil_of_length_eq_zero (by omega)
    subst h0
    rw [show rightP [] = false by decide +kernel]
    unfold by8
    go_enter Tryz.func14, Tryz.ntmps14
    go_wp2_with fail
    go_ret
    exact ⟨rfl, Below.refl _ _⟩
  have i1 : (1 : Int) ≤ (L.length : Int) := by omega
  by_cases h2 : 200 < L.length
  · have i2 : (200 : Int) < (L.length : Int) := by omega
    rw [show rightP L = false by unfold rightP; rw [decide_eq_false (by omega)]; rfl]
    unfold by8
    go_enter Tryz.func14, Tryz.ntmps14
    go_wp2_with fail
    go_ret
    exact ⟨rfl, Below.refl _ _⟩
  have i2 : (L.length : Int) ≤ 200 := by omega
  have hrp := refParts_any L
  unfold by8 at hrp ⊢
  go_enter Tryz.func14, Tryz.ntmps14
  go_wp2_with fail
  go_loopg [3] L.length (fun q s3 wr => ∃ k : Nat, k + q = L.length ∧ s3 = .int .i64 k ∧ (∀ j c, j < k → L[j]? = some c → 32 ≤ c.toNat ∧ c.toNat ≠ 127) ∧ wr = w)
  case atStart => exact ⟨0, by omega, rfl, fun j c h _ => by omega, rfl⟩
  case round =>
    obtain ⟨k, hkq, rfl, hgood, rfl⟩ := hrel
    have HG := hide hgood
    clear hgood
    cases gk with
    | succ q =>
      have hlt : k < L.length := by omega
      have hlt1 : (k : Int) < (L.length : Int) := by omega
      have hkg : L[k]? = some L[k] := List.getElem?_eq_getElem hlt
      have hbk : ((⟨L.toArray⟩ : ByteArray)[k]'(by rw [hsz]; exact hlt)) = L[k] := by simp [ByteArray.getElem_eq_getElem_data]
      generalize L[k] = c at hkg hbk
      have hbad : ¬ (32 ≤ c.toNat ∧ c.toNat ≠ 127) → rightP L = false := fun h => right_bad hkg h
      have HK := hide (And.intro hkg hbad)
      clear hkg hbad
      by_cases hlow : c.toNat < 32
      · have hl2 : ((c.toNat : Nat) : Int) < 32 := by omega
        go_wp2_with fail
        go_ret
        exact ⟨by rw [HK.out.2 (by omega)]; rfl, Below.refl _ _⟩
      · have hy5 : ¬ ((c.toNat : Int) < 32) := by omega
        have hy1 : (32 : Int) ≤ (c.toNat : Int) := by omega
        by_cases h127 : c.toNat = 127
        · have h7 : ((c.toNat : Int) == 127) = true := by rw [h127]; rfl
          go_wp2_with fail
          go_ret
          exact ⟨by rw [HK.out.2 (by omega)]; rfl, Below.refl _ _⟩
        · have h7 : ((c.toNat : Int) == 127) = false := by rw [beq_eq_false_iff_ne]; omega
          go_wp2_with fail
          go_roundg q
          case measure => omega
          case rel =>
            exact ⟨k + 1, by omega, by go_num, fun j d h hj => by
              rcases Nat.lt_or_ge j k with h3 | h3
              · exact HG.out j d h3 hj
              · obtain rfl : j = k := by omega
                rw [HK.out.1] at hj
                obtain rfl := Option.some.inj hj
                omega, rfl⟩
    | zero =>
      obtain rfl : k = L.length := by omega
      have hkz : ¬ ((L.length : Int) < (L.length : Int)) := by omega
      go_wp2_with fail
      refine (hrp wr hL).mono ?_
      rintro e w1 ⟨A, C, rfl, ho, hb1⟩
      have HO := hide ho
      have HB := hide hb1
      clear ho hb1 hrp
      obtain ⟨n, hn⟩ : ∃ n, (partsL L).length = n := ⟨_, rfl⟩
      rw [hn] at HO
      have HN := hide hn
      have hnl := parts_length L
      rw [hn] at hnl ⊢
      clear hn
      go_wp2_with fail
      go_loopg [5] n (fun q s5 w2 => ∃ k : Nat, k + q = n ∧ s5 = .int .i64 k ∧ (∀ j p, j < k → (partsL L)[j]? = some p → p ≠ [] ∧ p ≠ [46] ∧ p ≠ [46, 46]) ∧ w2 = w1)
      case atStart => exact ⟨0, by omega, rfl, fun j c h _ => by omega, rfl⟩
      case round =>
        obtain ⟨k, hkq, rfl, hgood, rfl⟩ := hrel
        have HG2 := hide hgood
        clear hgood
        cases gk with
        | succ q =>
          have hlt : k < n := by omega
          have hlt1 : (k : Int) < (n : Int) := by omega
          have hkn : k < (partsL L).length := by rw [HN.out]; exact hlt
          have hpg : (partsL L)[k]? = some (partsL L)[k] := List.getElem?_eq_getElem hkn
          obtain ⟨p, hp⟩ : ∃ p, (partsL L)[k] = p := ⟨_, rfl⟩
          rw [hp] at hpg
          obtain ⟨g, C2, hv, hcell, _⟩ := owns_cell HO.out (show ((partsL L).map by8)[k]? = some (by8 p) by rw [List.getElem?_map, hpg]; rfl)
          cases hv
          unfold by8 at hcell
          have hpm : p ∈ partsL L := List.mem_of_getElem? hpg
          have HP := hide (And.intro hpg (fun h => right_part hpm h))
          clear hp hpg hpm
          by_cases e0 : p = []
          · subst e0
            go_wp2_with fail
            go_ret
            exact ⟨by rw [HP.out.2 (by simp)]; rfl, HB.out⟩
          by_cases e1 : p = [46]
          · subst e1
            go_wp2_with fail
            go_ret
            exact ⟨by rw [HP.out.2 (by simp)]; rfl, HB.out⟩
          by_cases e2 : p = [46, 46]
          · subst e2
            go_wp2_with fail
            go_ret
            exact ⟨by rw [HP.out.2 (by simp)]; rfl, HB.out⟩
          have g0 : p.isEmpty = false := by cases p; exact absurd rfl e0; rfl
          have g1 : (p == [46]) = false := by simpa using e1
          have g2 : (p == [46, 46]) = false := by simpa using e2
          go_wp2_with fail
          go_roundg q
          case measure => omega
          case rel =>
            exact ⟨k + 1, by omega, by go_num, fun j d h hj => by
              rcases Nat.lt_or_ge j k with h3 | h3
              · exact HG2.out j d h3 hj
              · obtain rfl : j = k := by omega
                rw [HP.out.1] at hj
                obtain rfl := Option.some.inj hj
                exact ⟨e0, e1, e2⟩, rfl⟩
        | zero =>
          obtain rfl : k = n := by omega
          have hkz2 : ¬ ((k : Int) < (k : Int)) := by omega
          go_wp2_with fail
          go_ret
          have hrt : rightP L = true := right_good (by omega) (fun j c hj => HG.out j c (List.getElem?_eq_some_iff.1 hj).1 hj) (fun p hp => by
            obtain ⟨j, hj⟩ := List.getElem?_of_mem hp
            exact HG2.out j p (by rw [← HN.out]; exact (List.getElem?_eq_some_iff.1 hj).1) hj)
          exact ⟨by rw [hrt]; rfl, HB.out⟩
end Go.Proofs.YtdjdlkobfmahpaaGreatDoor

/-
  The reference's table (written by tools/gen-ltab.py).
-/
namespace Go.Proofs.YtdjdlkobfmahpaaGreatDoor
open Go.RowKit Go.Shelf

/-- The table's rows at block g. -/
def LTabAt (w : World) (g : Nat) : Prop := ∀ i r, tabL[i]? = some r → w.cell? ⟨g, i * 2, none⟩ = some (by8 r.1) ∧ w.cell? ⟨g, i * 2 + 1, none⟩ = some (by8 r.2)
theorem LTabAt.below {w w' : World} {g : Nat} (h : LTabAt w g) (hb : Below w.heap.size w w') : LTabAt w' g := fun i r hr => ⟨cell_thru (h i r hr).1 hb, cell_thru (h i r hr).2 hb⟩
def tabC : Array Value := #[.string ⟨#[99]⟩, .string ⟨#[99]⟩, .string ⟨#[104]⟩, .string ⟨#[99]⟩, .string ⟨#[99, 99]⟩, .string ⟨#[99, 112, 112]⟩, .string ⟨#[99, 112, 112]⟩, .string ⟨#[99, 112, 112]⟩, .string ⟨#[104, 112, 112]⟩, .string ⟨#[99, 112, 112]⟩, .string ⟨#[99, 115, 115]⟩, .string ⟨#[99, 115, 115]⟩, .string ⟨#[103, 111]⟩, .string ⟨#[103, 111]⟩, .string ⟨#[104, 116, 109, 108]⟩, .string ⟨#[104, 116, 109, 108]⟩, .string ⟨#[106, 97, 118, 97]⟩, .string ⟨#[106, 97, 118, 97]⟩, .string ⟨#[106, 115]⟩, .string ⟨#[106, 97, 118, 97, 115, 99, 114, 105, 112, 116]⟩, .string ⟨#[109, 106, 115]⟩, .string ⟨#[106, 97, 118, 97, 115, 99, 114, 105, 112, 116]⟩, .string ⟨#[106, 115, 111, 110]⟩, .string ⟨#[106, 115, 111, 110]⟩, .string ⟨#[109, 100]⟩, .string ⟨#[109, 97, 114, 107, 100, 111, 119, 110]⟩, .string ⟨#[112, 121]⟩, .string ⟨#[112, 121, 116, 104, 111, 110]⟩, .string ⟨#[114, 98]⟩, .string ⟨#[114, 117, 98, 121]⟩, .string ⟨#[114, 115]⟩, .string ⟨#[114, 117, 115, 116]⟩, .string ⟨#[115, 104]⟩, .string ⟨#[115, 104, 101, 108, 108]⟩, .string ⟨#[115, 113, 108]⟩, .string ⟨#[115, 113, 108]⟩, .string ⟨#[116, 120, 116]⟩, .string ⟨#[116, 101, 120, 116]⟩, .string ⟨#[116, 115]⟩, .string ⟨#[116, 121, 112, 101, 115, 99, 114, 105, 112, 116]⟩, .string ⟨#[121, 97, 109, 108]⟩, .string ⟨#[121, 97, 109, 108]⟩, .string ⟨#[121, 109, 108]⟩, .string ⟨#[121, 97, 109, 108]⟩]
theorem tab_new (w : World) : LTabAt (w.alloc (.cells tabC 60)) w.heap.size := by
  intro i r hr
  have hi : i < 22 := (List.getElem?_eq_some_iff.1 hr).1
  have h1 := cell_of_row (w.alloc (.cells tabC 60)) w.heap.size (i * 2) _ _ _ (heap_alloc_new _ _)
  have h2 := cell_of_row (w.alloc (.cells tabC 60)) w.heap.size (i * 2 + 1) _ _ _ (heap_alloc_new _ _)
  rw [h1, h2]
  match i, hi, hr with
  | 0, _, hr => obtain rfl := Option.some.inj hr; exact ⟨rfl, rfl⟩
  | 1, _, hr => obtain rfl := Option.some.inj hr; exact ⟨rfl, rfl⟩
  | 2, _, hr => obtain rfl := Option.some.inj hr; exact ⟨rfl, rfl⟩
  | 3, _, hr => obtain rfl := Option.some.inj hr; exact ⟨rfl, rfl⟩
  | 4, _, hr => obtain rfl := Option.some.inj hr; exact ⟨rfl, rfl⟩
  | 5, _, hr => obtain rfl := Option.some.inj hr; exact ⟨rfl, rfl⟩
  | 6, _, hr => obtain rfl := Option.some.inj hr; exact ⟨rfl, rfl⟩
  | 7, _, hr => obtain rfl := Option.some.inj hr; exact ⟨rfl, rfl⟩
  | 8, _, hr => obtain rfl := Option.some.inj hr; exact ⟨rfl, rfl⟩
  | 9, _, hr => obtain rfl := Option.some.inj hr; exact ⟨rfl, rfl⟩
  | 10, _, hr => obtain rfl := Option.some.inj hr; exact ⟨rfl, rfl⟩
  | 11, _, hr => obtain rfl := Option.some.inj hr; exact ⟨rfl, rfl⟩
  | 12, _, hr => obtain rfl := Option.some.inj hr; exact ⟨rfl, rfl⟩
  | 13, _, hr => obtain rfl := Option.some.inj hr; exact ⟨rfl, rfl⟩
  | 14, _, hr => obtain rfl := Option.some.inj hr; exact ⟨rfl, rfl⟩
  | 15, _, hr => obtain rfl := Option.some.inj hr; exact ⟨rfl, rfl⟩
  | 16, _, hr => obtain rfl := Option.some.inj hr; exact ⟨rfl, rfl⟩
  | 17, _, hr => obtain rfl := Option.some.inj hr; exact ⟨rfl, rfl⟩
  | 18, _, hr => obtain rfl := Option.some.inj hr; exact ⟨rfl, rfl⟩
  | 19, _, hr => obtain rfl := Option.some.inj hr; exact ⟨rfl, rfl⟩
  | 20, _, hr => obtain rfl := Option.some.inj hr; exact ⟨rfl, rfl⟩
  | 21, _, hr => obtain rfl := Option.some.inj hr; exact ⟨rfl, rfl⟩
  | n + 22, hi, _ => exact absurd hi (by omega)
set_option maxRecDepth 100000 in
set_option maxHeartbeats 2000000 in
theorem refLangTable_any (w : World) :
    Calls Tryz.prog 30 #[] w fun e w' => ∃ g, e = .returned (.slice (some ⟨g, 0, none⟩) 22 22) ∧ LTabAt w' g ∧ Below w.heap.size w w' := by
  have ht := tab_new w
  have hb := below_alloc w (.cells tabC 60)
  unfold tabC at ht hb
  go_enter Tryz.func30, Tryz.ntmps30
  go_wp2_with fail
  go_ret
  exact ⟨_, rfl, ht, hb⟩
end Go.Proofs.YtdjdlkobfmahpaaGreatDoor

/-
  The reference Of's drawn region (written by tools/gen-lrof.py).
-/
namespace Go.Proofs.YtdjdlkobfmahpaaGreatDoor
open Go.RowKit Go.Shelf
set_option linter.unusedVariables false
set_option linter.unusedSimpArgs false

abbrev lrof13_o0 : Oper := { dst := some 39, op := Op.move (Operand.tmp 7), type := 57, pos := "ref.go:58", after := #[], guard := none }
abbrev lrof13_o1 : Oper := { dst := some 40, op := Op.move (Operand.tmp 8), type := 3, pos := "ref.go:58", after := #[], guard := none }
abbrev lrof13_o2 : Oper := { dst := some 41, op := Op.indexAddr 57 (Operand.tmp 39) (Operand.tmp 40), type := 0, pos := "ref.go:58", after := #[{ on := 0, ground := Ground.data }, { on := 1, ground := Ground.data }], guard := none }
abbrev lrof13_o3 : Oper := { dst := some 42, op := Op.fieldAddr 60 (Operand.tmp 41) 0, type := 0, pos := "ref.go:58", after := #[{ on := 2, ground := Ground.data }], guard := none }
abbrev lrof13_o4 : Oper := { dst := some 43, op := Op.load 9 (Operand.tmp 42), type := 9, pos := "ref.go:58", after := #[{ on := 3, ground := Ground.data }], guard := none }
abbrev lrof13_o5 : Oper := { dst := some 44, op := Op.move (Operand.tmp 4), type := 9, pos := "ref.go:58", after := #[], guard := none }
abbrev lrof13_o6 : Oper := { dst := some 45, op := Op.move (Operand.tmp 5), type := 3, pos := "ref.go:58", after := #[], guard := none }
abbrev lrof13_o7 : Oper := { dst := some 46, op := Op.binOp BinOp.add 3 (Operand.tmp 45) (Operand.const (Value.int IntKind.i64 1)) 3, type := 3, pos := "ref.go:58", after := #[{ on := 6, ground := Ground.data }], guard := none }
abbrev lrof13_o8 : Oper := { dst := some 47, op := Op.slice 9 (Operand.tmp 44) (some (Operand.tmp 46)) none none, type := 9, pos := "ref.go:58", after := #[{ on := 5, ground := Ground.data }, { on := 7, ground := Ground.data }], guard := none }
abbrev lrof13_o9 : Oper := { dst := some 48, op := Op.binOp BinOp.eql 9 (Operand.tmp 43) (Operand.tmp 47) 9, type := 4, pos := "ref.go:58", after := #[{ on := 4, ground := Ground.data }, { on := 8, ground := Ground.data }], guard := none }
def lrof13_ops : Array Oper := #[lrof13_o0, lrof13_o1, lrof13_o2, lrof13_o3, lrof13_o4, lrof13_o5, lrof13_o6, lrof13_o7, lrof13_o8, lrof13_o9]
abbrev lrof13_mem (s : Nat) : Prop := s ∈ [39, 40, 41, 42, 43, 44, 45, 46, 47, 48]
set_option maxRecDepth 100000 in
theorem lrof13_slots : ∀ j, j < 10 → lrof13_mem (slotOf lrof13_ops j) := by
  intro j hj
  match j, hj with
  | 0, _ => exact (by decide : lrof13_mem 39)
  | 1, _ => exact (by decide : lrof13_mem 40)
  | 2, _ => exact (by decide : lrof13_mem 41)
  | 3, _ => exact (by decide : lrof13_mem 42)
  | 4, _ => exact (by decide : lrof13_mem 43)
  | 5, _ => exact (by decide : lrof13_mem 44)
  | 6, _ => exact (by decide : lrof13_mem 45)
  | 7, _ => exact (by decide : lrof13_mem 46)
  | 8, _ => exact (by decide : lrof13_mem 47)
  | 9, _ => exact (by decide : lrof13_mem 48)
  | k + 10, hj => omega
def lrof13_val (g i at_ : Nat) (p X E : List UInt8) (B : Bool) : Nat → Value → World → Prop
  | 0, v, w => v = .slice (some ⟨g, 0, none⟩) 22 22
  | 1, v, w => v = .int .i64 (i : Nat)
  | 2, v, w => v = .pointer (some ⟨g, i * 2, none⟩)
  | 3, v, w => v = .pointer (some ⟨g, i * 2, none⟩)
  | 4, v, w => v = by8 X
  | 5, v, w => v = by8 p
  | 6, v, w => v = .int .i64 (at_ : Nat)
  | 7, v, w => v = .int .i64 ((at_ : Int) + 1)
  | 8, v, w => v = by8 E
  | 9, v, w => v = .bool B
  | _, _, _ => True
theorem lrof13_below (g i at_ : Nat) (p X E : List UInt8) (B : Bool) (w w' : World) (hb : Below w.heap.size w w') : ∀ j v, lrof13_val g i at_ p X E B j v w → lrof13_val g i at_ p X E B j v w' := by
  intro j v h
  match j, h with
  | 0, h => exact h
  | 1, h => exact h
  | 2, h => exact h
  | 3, h => exact h
  | 4, h => exact h
  | 5, h => exact h
  | 6, h => exact h
  | 7, h => exact h
  | 8, h => exact h
  | 9, h => exact h
  | _ + 10, h => exact h
set_option maxRecDepth 100000 in
set_option maxHeartbeats 2000000 in
theorem lrof13_s0 {Fc : Fence} (hF : Wide Fc) {nC : Nat} (g i at_ : Nat) (p X E : List UInt8) (B : Bool) (Q : Exit → Act → World → Prop) (df : List Deferred) (w0 : World)
    (hi : i < 22) (hX : w0.cell? ⟨g, i * 2, none⟩ = some (by8 X)) (hat : at_ < p.length) (hpl : p.length ≤ 1000000) (hE : p.drop (at_ + 1) = E) (hBq : (X == E) = B)
    (x : Act) (w : World) (hB : Below w0.heap.size w0 w) (hdef : x.defers = df) (u4 : x.tmps.getD 4 undef = by8 p) (u5 : x.tmps.getD 5 undef = .int .i64 (at_ : Nat)) (u7 : x.tmps.getD 7 undef = .slice (some ⟨g, 0, none⟩) 22 22) (u8 : x.tmps.getD 8 undef = .int .i64 (i : Nat))
    : wpOpIn Fc nC Tryz.prog lrof13_ops Q 0 (fun a' w' => ∃ v, a' = x.put (some 39) v ∧ (v = .slice (some ⟨g, 0, none⟩) 22 22) ∧ Below w.heap.size w w') x w := by
  have ho : lrof13_ops[0]? = some lrof13_o0 := rfl
  simp only [Array.getD_eq_getD_getElem?] at u4 u5 u7 u8
  refine wpOpIn_plain ho rfl (oper_inK hF.fn (fun K hK => ?_))
  clear ho
  rw [Oper.semAt_plain Fc _ _ (by intro c h; cases h)]
  simp only [lrof13_o0]
  go_simp
  exact hK _ _ ⟨_, act_putD x hdef _ _, rfl, Below.refl _ _⟩
set_option maxRecDepth 100000 in
set_option maxHeartbeats 2000000 in
theorem lrof13_s1 {Fc : Fence} (hF : Wide Fc) {nC : Nat} (g i at_ : Nat) (p X E : List UInt8) (B : Bool) (Q : Exit → Act → World → Prop) (df : List Deferred) (w0 : World)
    (hi : i < 22) (hX : w0.cell? ⟨g, i * 2, none⟩ = some (by8 X)) (hat : at_ < p.length) (hpl : p.length ≤ 1000000) (hE : p.drop (at_ + 1) = E) (hBq : (X == E) = B)
    (x : Act) (w : World) (hB : Below w0.heap.size w0 w) (hdef : x.defers = df) (u4 : x.tmps.getD 4 undef = by8 p) (u5 : x.tmps.getD 5 undef = .int .i64 (at_ : Nat)) (u7 : x.tmps.getD 7 undef = .slice (some ⟨g, 0, none⟩) 22 22) (u8 : x.tmps.getD 8 undef = .int .i64 (i : Nat))
    : wpOpIn Fc nC Tryz.prog lrof13_ops Q 1 (fun a' w' => ∃ v, a' = x.put (some 40) v ∧ (v = .int .i64 (i : Nat)) ∧ Below w.heap.size w w') x w := by
  have ho : lrof13_ops[1]? = some lrof13_o1 := rfl
  simp only [Array.getD_eq_getD_getElem?] at u4 u5 u7 u8
  refine wpOpIn_plain ho rfl (oper_inK hF.fn (fun K hK => ?_))
  clear ho
  rw [Oper.semAt_plain Fc _ _ (by intro c h; cases h)]
  simp only [lrof13_o1]
  go_simp
  exact hK _ _ ⟨_, act_putD x hdef _ _, rfl, Below.refl _ _⟩
set_option maxRecDepth 100000 in
set_option maxHeartbeats 2000000 in
theorem lrof13_s2 {Fc : Fence} (hF : Wide Fc) {nC : Nat} (g i at_ : Nat) (p X E : List UInt8) (B : Bool) (Q : Exit → Act → World → Prop) (df : List Deferred) (w0 : World)
    (hi : i < 22) (hX : w0.cell? ⟨g, i * 2, none⟩ = some (by8 X)) (hat : at_ < p.length) (hpl : p.length ≤ 1000000) (hE : p.drop (at_ + 1) = E) (hBq : (X == E) = B)
    (x : Act) (w : World) (hB : Below w0.heap.size w0 w) (hdef : x.defers = df) (u4 : x.tmps.getD 4 undef = by8 p) (u5 : x.tmps.getD 5 undef = .int .i64 (at_ : Nat)) (u7 : x.tmps.getD 7 undef = .slice (some ⟨g, 0, none⟩) 22 22) (u8 : x.tmps.getD 8 undef = .int .i64 (i : Nat))
    (p0 : lrof13_val g i at_ p X E B 0 (x.tmps.getD 39 undef) w)
    (p1 : lrof13_val g i at_ p X E B 1 (x.tmps.getD 40 undef) w)
    : wpOpIn Fc nC Tryz.prog lrof13_ops Q 2 (fun a' w' => ∃ v, a' = x.put (some 41) v ∧ (v = .pointer (some ⟨g, i * 2, none⟩)) ∧ Below w.heap.size w w') x w := by
  have ho : lrof13_ops[2]? = some lrof13_o2 := rfl
  simp only [Array.getD_eq_getD_getElem?] at u4 u5 u7 u8
  have q0 : x.tmps.getD 39 undef = .slice (some ⟨g, 0, none⟩) 22 22 := p0
  have q1 : x.tmps.getD 40 undef = .int .i64 (i : Nat) := p1
  simp only [Array.getD_eq_getD_getElem?] at q0 q1
  have i0 : (0 : Int) ≤ (i : Int) := by omega
  have i1 : (i : Int) < 22 := by omega
  refine wpOpIn_plain ho rfl (oper_inK hF.fn (fun K hK => ?_))
  clear ho
  rw [Oper.semAt_plain Fc _ _ (by intro c h; cases h)]
  simp only [lrof13_o2]
  go_simp
  exact hK _ _ ⟨_, act_putD x hdef _ _, rfl, Below.refl _ _⟩
set_option maxRecDepth 100000 in
set_option maxHeartbeats 2000000 in
theorem lrof13_s3 {Fc : Fence} (hF : Wide Fc) {nC : Nat} (g i at_ : Nat) (p X E : List UInt8) (B : Bool) (Q : Exit → Act → World → Prop) (df : List Deferred) (w0 : World)
    (hi : i < 22) (hX : w0.cell? ⟨g, i * 2, none⟩ = some (by8 X)) (hat : at_ < p.length) (hpl : p.length ≤ 1000000) (hE : p.drop (at_ + 1) = E) (hBq : (X == E) = B)
    (x : Act) (w : World) (hB : Below w0.heap.size w0 w) (hdef : x.defers = df) (u4 : x.tmps.getD 4 undef = by8 p) (u5 : x.tmps.getD 5 undef = .int .i64 (at_ : Nat)) (u7 : x.tmps.getD 7 undef = .slice (some ⟨g, 0, none⟩) 22 22) (u8 : x.tmps.getD 8 undef = .int .i64 (i : Nat))
    (p2 : lrof13_val g i at_ p X E B 2 (x.tmps.getD 41 undef) w)
    : wpOpIn Fc nC Tryz.prog lrof13_ops Q 3 (fun a' w' => ∃ v, a' = x.put (some 42) v ∧ (v = .pointer (some ⟨g, i * 2, none⟩)) ∧ Below w.heap.size w w') x w := by
  have ho : lrof13_ops[3]? = some lrof13_o3 := rfl
  simp only [Array.getD_eq_getD_getElem?] at u4 u5 u7 u8
  have q2 : x.tmps.getD 41 undef = .pointer (some ⟨g, i * 2, none⟩) := p2
  simp only [Array.getD_eq_getD_getElem?] at q2
  refine wpOpIn_plain ho rfl (oper_inK hF.fn (fun K hK => ?_))
  clear ho
  rw [Oper.semAt_plain Fc _ _ (by intro c h; cases h)]
  simp only [lrof13_o3]
  go_simp
  exact hK _ _ ⟨_, act_putD x hdef _ _, rfl, Below.refl _ _⟩
set_option maxRecDepth 100000 in
set_option maxHeartbeats 2000000 in
theorem lrof13_s4 {Fc : Fence} (hF : Wide Fc) {nC : Nat} (g i at_ : Nat) (p X E : List UInt8) (B : Bool) (Q : Exit → Act → World → Prop) (df : List Deferred) (w0 : World)
    (hi : i < 22) (hX : w0.cell? ⟨g, i * 2, none⟩ = some (by8 X)) (hat : at_ < p.length) (hpl : p.length ≤ 1000000) (hE : p.drop (at_ + 1) = E) (hBq : (X == E) = B)
    (x : Act) (w : World) (hB : Below w0.heap.size w0 w) (hdef : x.defers = df) (u4 : x.tmps.getD 4 undef = by8 p) (u5 : x.tmps.getD 5 undef = .int .i64 (at_ : Nat)) (u7 : x.tmps.getD 7 undef = .slice (some ⟨g, 0, none⟩) 22 22) (u8 : x.tmps.getD 8 undef = .int .i64 (i : Nat))
    (p3 : lrof13_val g i at_ p X E B 3 (x.tmps.getD 42 undef) w)
    : wpOpIn Fc nC Tryz.prog lrof13_ops Q 4 (fun a' w' => ∃ v, a' = x.put (some 43) v ∧ (v = by8 X) ∧ Below w.heap.size w w') x w := by
  have ho : lrof13_ops[4]? = some lrof13_o4 := rfl
  simp only [Array.getD_eq_getD_getElem?] at u4 u5 u7 u8
  have q3 : x.tmps.getD 42 undef = .pointer (some ⟨g, i * 2, none⟩) := p3
  simp only [Array.getD_eq_getD_getElem?] at q3
  have c0 := cell_thru hX hB
  refine wpOpIn_plain ho rfl (oper_inK hF.fn (fun K hK => ?_))
  clear ho
  rw [Oper.semAt_plain Fc _ _ (by intro c h; cases h)]
  simp only [lrof13_o4]
  go_simp
  exact hK _ _ ⟨_, act_putD x hdef _ _, rfl, Below.refl _ _⟩
set_option maxRecDepth 100000 in
set_option maxHeartbeats 2000000 in
theorem lrof13_s5 {Fc : Fence} (hF : Wide Fc) {nC : Nat} (g i at_ : Nat) (p X E : List UInt8) (B : Bool) (Q : Exit → Act → World → Prop) (df : List Deferred) (w0 : World)
    (hi : i < 22) (hX : w0.cell? ⟨g, i * 2, none⟩ = some (by8 X)) (hat : at_ < p.length) (hpl : p.length ≤ 1000000) (hE : p.drop (at_ + 1) = E) (hBq : (X == E) = B)
    (x : Act) (w : World) (hB : Below w0.heap.size w0 w) (hdef : x.defers = df) (u4 : x.tmps.getD 4 undef = by8 p) (u5 : x.tmps.getD 5 undef = .int .i64 (at_ : Nat)) (u7 : x.tmps.getD 7 undef = .slice (some ⟨g, 0, none⟩) 22 22) (u8 : x.tmps.getD 8 undef = .int .i64 (i : Nat))
    : wpOpIn Fc nC Tryz.prog lrof13_ops Q 5 (fun a' w' => ∃ v, a' = x.put (some 44) v ∧ (v = by8 p) ∧ Below w.heap.size w w') x w := by
  have ho : lrof13_ops[5]? = some lrof13_o5 := rfl
  simp only [Array.getD_eq_getD_getElem?] at u4 u5 u7 u8
  refine wpOpIn_plain ho rfl (oper_inK hF.fn (fun K hK => ?_))
  clear ho
  rw [Oper.semAt_plain Fc _ _ (by intro c h; cases h)]
  simp only [lrof13_o5]
  go_simp
  exact hK _ _ ⟨_, act_putD x hdef _ _, rfl, Below.refl _ _⟩
set_option maxRecDepth 100000 in
set_option maxHeartbeats 2000000 in
theorem lrof13_s6 {Fc : Fence} (hF : Wide Fc) {nC : Nat} (g i at_ : Nat) (p X E : List UInt8) (B : Bool) (Q : Exit → Act → World → Prop) (df : List Deferred) (w0 : World)
    (hi : i < 22) (hX : w0.cell? ⟨g, i * 2, none⟩ = some (by8 X)) (hat : at_ < p.length) (hpl : p.length ≤ 1000000) (hE : p.drop (at_ + 1) = E) (hBq : (X == E) = B)
    (x : Act) (w : World) (hB : Below w0.heap.size w0 w) (hdef : x.defers = df) (u4 : x.tmps.getD 4 undef = by8 p) (u5 : x.tmps.getD 5 undef = .int .i64 (at_ : Nat)) (u7 : x.tmps.getD 7 undef = .slice (some ⟨g, 0, none⟩) 22 22) (u8 : x.tmps.getD 8 undef = .int .i64 (i : Nat))
    : wpOpIn Fc nC Tryz.prog lrof13_ops Q 6 (fun a' w' => ∃ v, a' = x.put (some 45) v ∧ (v = .int .i64 (at_ : Nat)) ∧ Below w.heap.size w w') x w := by
  have ho : lrof13_ops[6]? = some lrof13_o6 := rfl
  simp only [Array.getD_eq_getD_getElem?] at u4 u5 u7 u8
  refine wpOpIn_plain ho rfl (oper_inK hF.fn (fun K hK => ?_))
  clear ho
  rw [Oper.semAt_plain Fc _ _ (by intro c h; cases h)]
  simp only [lrof13_o6]
  go_simp
  exact hK _ _ ⟨_, act_putD x hdef _ _, rfl, Below.refl _ _⟩
set_option maxRecDepth 100000 in
set_option maxHeartbeats 2000000 in
theorem lrof13_s7 {Fc : Fence} (hF : Wide Fc) {nC : Nat} (g i at_ : Nat) (p X E : List UInt8) (B : Bool) (Q : Exit → Act → World → Prop) (df : List Deferred) (w0 : World)
    (hi : i < 22) (hX : w0.cell? ⟨g, i * 2, none⟩ = some (by8 X)) (hat : at_ < p.length) (hpl : p.length ≤ 1000000) (hE : p.drop (at_ + 1) = E) (hBq : (X == E) = B)
    (x : Act) (w : World) (hB : Below w0.heap.size w0 w) (hdef : x.defers = df) (u4 : x.tmps.getD 4 undef = by8 p) (u5 : x.tmps.getD 5 undef = .int .i64 (at_ : Nat)) (u7 : x.tmps.getD 7 undef = .slice (some ⟨g, 0, none⟩) 22 22) (u8 : x.tmps.getD 8 undef = .int .i64 (i : Nat))
    (p6 : lrof13_val g i at_ p X E B 6 (x.tmps.getD 45 undef) w)
    : wpOpIn Fc nC Tryz.prog lrof13_ops Q 7 (fun a' w' => ∃ v, a' = x.put (some 46) v ∧ (v = .int .i64 ((at_ : Int) + 1)) ∧ Below w.heap.size w w') x w := by
  have ho : lrof13_ops[7]? = some lrof13_o7 := rfl
  simp only [Array.getD_eq_getD_getElem?] at u4 u5 u7 u8
  have q6 : x.tmps.getD 45 undef = .int .i64 (at_ : Nat) := p6
  simp only [Array.getD_eq_getD_getElem?] at q6
  have c8 := IntWalk.i64_in ((at_ : Int) + 1) (by omega)
  refine wpOpIn_plain ho rfl (oper_inK hF.fn (fun K hK => ?_))
  clear ho
  rw [Oper.semAt_plain Fc _ _ (by intro c h; cases h)]
  simp only [lrof13_o7]
  go_simp
  exact hK _ _ ⟨_, act_putD x hdef _ _, rfl, Below.refl _ _⟩
set_option maxRecDepth 100000 in
set_option maxHeartbeats 2000000 in
theorem lrof13_s8 {Fc : Fence} (hF : Wide Fc) {nC : Nat} (g i at_ : Nat) (p X E : List UInt8) (B : Bool) (Q : Exit → Act → World → Prop) (df : List Deferred) (w0 : World)
    (hi : i < 22) (hX : w0.cell? ⟨g, i * 2, none⟩ = some (by8 X)) (hat : at_ < p.length) (hpl : p.length ≤ 1000000) (hE : p.drop (at_ + 1) = E) (hBq : (X == E) = B)
    (x : Act) (w : World) (hB : Below w0.heap.size w0 w) (hdef : x.defers = df) (u4 : x.tmps.getD 4 undef = by8 p) (u5 : x.tmps.getD 5 undef = .int .i64 (at_ : Nat)) (u7 : x.tmps.getD 7 undef = .slice (some ⟨g, 0, none⟩) 22 22) (u8 : x.tmps.getD 8 undef = .int .i64 (i : Nat))
    (p5 : lrof13_val g i at_ p X E B 5 (x.tmps.getD 44 undef) w)
    (p7 : lrof13_val g i at_ p X E B 7 (x.tmps.getD 46 undef) w)
    : wpOpIn Fc nC Tryz.prog lrof13_ops Q 8 (fun a' w' => ∃ v, a' = x.put (some 47) v ∧ (v = by8 E) ∧ Below w.heap.size w w') x w := by
  have ho : lrof13_ops[8]? = some lrof13_o8 := rfl
  simp only [Array.getD_eq_getD_getElem?] at u4 u5 u7 u8
  have q5 : x.tmps.getD 44 undef = by8 p := p5
  have q7 : x.tmps.getD 46 undef = .int .i64 ((at_ : Int) + 1) := p7
  simp only [Array.getD_eq_getD_getElem?] at q5 q7
  have hsz : (⟨p.toArray⟩ : ByteArray).size = p.length := by simp [ByteArray.size]
  have e2 : (⟨p.toArray⟩ : ByteArray).extract (at_ + 1) p.length = ⟨E.toArray⟩ := by rw [Lib.extract_eq, ← hE, List.take_of_length_le (by rw [List.length_drop]; exact Nat.le_refl _)]
  have c5 : at_ + 1 ≤ p.length := by omega
  have c3 : (0 : Int) ≤ (at_ : Int) + 1 := by omega
  have c4 : (at_ : Int) + 1 ≤ (p.length : Int) := by omega
  unfold by8 at q5 ⊢
  refine wpOpIn_plain ho rfl (oper_inK hF.fn (fun K hK => ?_))
  clear ho
  rw [Oper.semAt_plain Fc _ _ (by intro c h; cases h)]
  simp only [lrof13_o8]
  go_simp
  exact hK _ _ ⟨_, act_putD x hdef _ _, rfl, Below.refl _ _⟩
set_option maxRecDepth 100000 in
set_option maxHeartbeats 2000000 in
theorem lrof13_s9 {Fc : Fence} (hF : Wide Fc) {nC : Nat} (g i at_ : Nat) (p X E : List UInt8) (B : Bool) (Q : Exit → Act → World → Prop) (df : List Deferred) (w0 : World)
    (hi : i < 22) (hX : w0.cell? ⟨g, i * 2, none⟩ = some (by8 X)) (hat : at_ < p.length) (hpl : p.length ≤ 1000000) (hE : p.drop (at_ + 1) = E) (hBq : (X == E) = B)
    (x : Act) (w : World) (hB : Below w0.heap.size w0 w) (hdef : x.defers = df) (u4 : x.tmps.getD 4 undef = by8 p) (u5 : x.tmps.getD 5 undef = .int .i64 (at_ : Nat)) (u7 : x.tmps.getD 7 undef = .slice (some ⟨g, 0, none⟩) 22 22) (u8 : x.tmps.getD 8 undef = .int .i64 (i : Nat))
    (p4 : lrof13_val g i at_ p X E B 4 (x.tmps.getD 43 undef) w)
    (p8 : lrof13_val g i at_ p X E B 8 (x.tmps.getD 47 undef) w)
    : wpOpIn Fc nC Tryz.prog lrof13_ops Q 9 (fun a' w' => ∃ v, a' = x.put (some 48) v ∧ (v = .bool B) ∧ Below w.heap.size w w') x w := by
  have ho : lrof13_ops[9]? = some lrof13_o9 := rfl
  simp only [Array.getD_eq_getD_getElem?] at u4 u5 u7 u8
  have q4 : x.tmps.getD 43 undef = by8 X := p4
  have q8 : x.tmps.getD 47 undef = by8 E := p8
  simp only [Array.getD_eq_getD_getElem?] at q4 q8
  have hbq : ((⟨X.toArray⟩ : ByteArray) == ⟨E.toArray⟩) = B := by rw [by8_beq, hBq]
  unfold by8 at q4 q8
  refine wpOpIn_plain ho rfl (oper_inK hF.fn (fun K hK => ?_))
  clear ho
  rw [Oper.semAt_plain Fc _ _ (by intro c h; cases h)]
  simp only [lrof13_o9]
  go_simp
  exact hK _ _ ⟨_, act_putD x hdef _ _, rfl, Below.refl _ _⟩

set_option maxRecDepth 100000 in
set_option maxHeartbeats 4000000 in
theorem lrof13 {Fc : Fence} (hF : Wide Fc) {nC : Nat} (g i at_ : Nat) (p X E : List UInt8) (B : Bool) (Q : Exit → Act → World → Prop) (t0 : Array Value) (df : List Deferred) (w0 : World) (ht : t0.size = 54)
    (hs4 : t0.getD 4 undef = by8 p) (hs5 : t0.getD 5 undef = .int .i64 (at_ : Nat)) (hs7 : t0.getD 7 undef = .slice (some ⟨g, 0, none⟩) 22 22) (hs8 : t0.getD 8 undef = .int .i64 (i : Nat))
    (hi : i < 22) (hX : w0.cell? ⟨g, i * 2, none⟩ = some (by8 X)) (hat : at_ < p.length) (hpl : p.length ≤ 1000000) (hE : p.drop (at_ + 1) = E) (hBq : (X == E) = B)
    (hQ : ∀ (vs : Nat → Value) (w : World), Below w0.heap.size w0 w → (vs 48 = .bool B) → Q .normal { tmps := [39, 40, 41, 42, 43, 44, 45, 46, 47, 48].foldl (fun y d => y.setIfInBounds d (vs d)) t0, defers := df } w) :
    (Code.region 13 lrof13_ops true).wpIn Fc nC Tryz.prog Q { tmps := t0, defers := df } w0 := by
  refine wpIn_region_tail 10 (by decide) (by kernel_rfl) (fun a b => Below a.heap.size a b) (lrof13_val g i at_ p X E B) t0 df w0 (by rw [ht]; kernel_rfl) (by kernel_rfl) (by kernel_rfl) (by kernel_rfl) ((Below.refl _ _).drew) (fun _ _ _ h k => h.trans (k.mono h.size)) (lrof13_below g i at_ p X E B) ?_ ?_
  · intro j o ho hj x w hB hdef hsz hs hdeps
    have hs' : ∀ s, ¬ lrof13_mem s → x.tmps.getD s undef = t0.getD s undef := fun s hn => hs s (fun j hj e => hn (by rw [e]; exact lrof13_slots j hj))
    have u4 := (hs' 4 (by decide)).trans hs4
    have u5 := (hs' 5 (by decide)).trans hs5
    have u7 := (hs' 7 (by decide)).trans hs7
    have u8 := (hs' 8 (by decide)).trans hs8
    match j, ho, hj with
    | 0, ho, _ =>
      have e : o = lrof13_o0 := (Option.some.inj ho).symm
      subst e
      exact lrof13_s0 hF g i at_ p X E B Q df w0 hi hX hat hpl hE hBq x w hB hdef u4 u5 u7 u8 
    | 1, ho, _ =>
      have e : o = lrof13_o1 := (Option.some.inj ho).symm
      subst e
      exact lrof13_s1 hF g i at_ p X E B Q df w0 hi hX hat hpl hE hBq x w hB hdef u4 u5 u7 u8 
    | 2, ho, _ =>
      have e : o = lrof13_o2 := (Option.some.inj ho).symm
      subst e
      exact lrof13_s2 hF g i at_ p X E B Q df w0 hi hX hat hpl hE hBq x w hB hdef u4 u5 u7 u8 (hdeps { on := 0, ground := Ground.data } (by simp) rfl) (hdeps { on := 1, ground := Ground.data } (by simp) rfl)
    | 3, ho, _ =>
      have e : o = lrof13_o3 := (Option.some.inj ho).symm
      subst e
      exact lrof13_s3 hF g i at_ p X E B Q df w0 hi hX hat hpl hE hBq x w hB hdef u4 u5 u7 u8 (hdeps { on := 2, ground := Ground.data } (by simp) rfl)
    | 4, ho, _ =>
      have e : o = lrof13_o4 := (Option.some.inj ho).symm
      subst e
      exact lrof13_s4 hF g i at_ p X E B Q df w0 hi hX hat hpl hE hBq x w hB hdef u4 u5 u7 u8 (hdeps { on := 3, ground := Ground.data } (by simp) rfl)
    | 5, ho, _ =>
      have e : o = lrof13_o5 := (Option.some.inj ho).symm
      subst e
      exact lrof13_s5 hF g i at_ p X E B Q df w0 hi hX hat hpl hE hBq x w hB hdef u4 u5 u7 u8 
    | 6, ho, _ =>
      have e : o = lrof13_o6 := (Option.some.inj ho).symm
      subst e
      exact lrof13_s6 hF g i at_ p X E B Q df w0 hi hX hat hpl hE hBq x w hB hdef u4 u5 u7 u8 
    | 7, ho, _ =>
      have e : o = lrof13_o7 := (Option.some.inj ho).symm
      subst e
      exact lrof13_s7 hF g i at_ p X E B Q df w0 hi hX hat hpl hE hBq x w hB hdef u4 u5 u7 u8 (hdeps { on := 6, ground := Ground.data } (by simp) rfl)
    | 8, ho, _ =>
      have e : o = lrof13_o8 := (Option.some.inj ho).symm
      subst e
      exact lrof13_s8 hF g i at_ p X E B Q df w0 hi hX hat hpl hE hBq x w hB hdef u4 u5 u7 u8 (hdeps { on := 5, ground := Ground.data } (by simp) rfl) (hdeps { on := 7, ground := Ground.data } (by simp) rfl)
    | 9, ho, _ =>
      have e : o = lrof13_o9 := (Option.some.inj ho).symm
      subst e
      exact lrof13_s9 hF g i at_ p X E B Q df w0 hi hX hat hpl hE hBq x w hB hdef u4 u5 u7 u8 (hdeps { on := 4, ground := Ground.data } (by simp) rfl) (hdeps { on := 8, ground := Ground.data } (by simp) rfl)
    | k + 10, _, hj => omega
  · intro x w hB hdef hsz hs hv
    have hx := frame_sets x.tmps t0 hsz [39, 40, 41, 42, 43, 44, 45, 46, 47, 48] (fun s hn => hs s (fun j hj e => hn (by rw [e]; exact lrof13_slots j hj)))
    have hq := hQ (fun d => x.tmps.getD d undef) w hB (hv 9 (by decide))
    obtain ⟨T, Df⟩ := x
    dsimp only at hx hdef hq
    subst hdef
    rw [← hx] at hq
    exact hq
end Go.Proofs.YtdjdlkobfmahpaaGreatDoor

/-
  The reference's Of.
-/
namespace Go.Proofs.YtdjdlkobfmahpaaGreatDoor
open Go.RowKit Go.Shelf

theorem lastI_spec (p : List UInt8) : (lastI p = -1 ∧ ∀ j, j < p.length → p[j]? ≠ some 46) ∨ (∃ i : Nat, i < p.length ∧ lastI p = i ∧ p[i]? = some 46 ∧ ∀ j, i < j → j < p.length → p[j]? ≠ some 46) := by
  have hs : (⟨p.toArray⟩ : ByteArray).size = p.length := by simp [ByteArray.size]
  have h := Lib.lastIdx_spec ⟨p.toArray⟩ 46 (⟨p.toArray⟩ : ByteArray).size
  have hb : ∀ j, j < p.length → p[j]? = some ((⟨p.toArray⟩ : ByteArray).data[j]!) := fun j hj => by
    rw [List.getElem?_eq_getElem hj, getElem!_pos _ _ (by simpa using hj)]
    simp
  have key : ∀ j, j < p.length → (((⟨p.toArray⟩ : ByteArray).data[j]!).toNat : Int) ≠ 46 → p[j]? ≠ some 46 := fun j hj h e => by
    rw [hb j hj] at e
    rw [Option.some.inj e] at h
    exact h rfl
  unfold lastI Lib.lastIndexByte
  rw [hs] at h ⊢
  rcases h with ⟨h1, h2⟩ | ⟨i, hi, h1, h2, h3⟩
  · exact .inl ⟨h1, fun j hj => key j hj (h2 j hj)⟩
  · refine .inr ⟨i, hi, h1, ?_, fun j h4 h5 => key j h5 (h3 j h4 h5)⟩
    rw [hb i hi]
    congr 1
    exact UInt8.toNat_inj.1 (by show _ = 46; omega)
theorem ext_none {p : List UInt8} (h : ∀ j, 1 ≤ j → j < p.length → p[j]? ≠ some 46) : extL p = [] := by
  unfold extL
  rcases lastI_spec p with ⟨h1, _⟩ | ⟨i, hi, h1, h2, _⟩
  · rw [h1]; rfl
  · have : i = 0 := by
      rcases Nat.eq_zero_or_pos i with h0 | h0
      · exact h0
      · exact absurd h2 (h i h0 hi)
    rw [h1, this]; rfl
theorem ext_some {p : List UInt8} {a : Nat} (h1 : 1 ≤ a) (ha : p[a]? = some 46) (hno : ∀ j, a < j → j < p.length → p[j]? ≠ some 46) : extL p = p.drop (a + 1) := by
  have hal := (List.getElem?_eq_some_iff.1 ha).1
  unfold extL
  rcases lastI_spec p with ⟨_, h2⟩ | ⟨i, hi, h2, h3, h4⟩
  · exact absurd ha (h2 a hal)
  · have : i = a := by
      rcases Nat.lt_trichotomy i a with h | h | h
      · exact absurd ha (h4 a h hal)
      · exact h
      · exact absurd h3 (hno i h hi)
    rw [h2, this, if_pos (by omega)]
    simp
theorem find_none {E : List UInt8} (h : ∀ (j : Nat) (r : List UInt8 × List UInt8), tabL[j]? = some r → (r.1 == E) = false) : nameL E = [] := by
  unfold nameL
  rw [List.find?_eq_none.2 (fun r hr => by obtain ⟨j, hj⟩ := List.getElem?_of_mem hr; rw [h j r hj]; decide)]
  rfl
theorem find_hit {E : List UInt8} {i : Nat} {r : List UInt8 × List UInt8} (hr : tabL[i]? = some r) (he : (r.1 == E) = true) (h : ∀ (j : Nat) (r : List UInt8 × List UInt8), j < i → tabL[j]? = some r → (r.1 == E) = false) : nameL E = r.2 := by
  unfold nameL
  have hi := (List.getElem?_eq_some_iff.1 hr).1
  have hg := (List.getElem?_eq_some_iff.1 hr).2
  have : tabL.find? (fun r => r.1 == E) = some r := by
    rw [List.find?_eq_some_iff_getElem]
    exact ⟨he, i, hi, hg, fun j hj => by rw [h j _ hj (List.getElem?_eq_getElem (by omega))]; rfl⟩
  rw [this]
  rfl

set_option maxRecDepth 100000 in
set_option maxHeartbeats 2000000 in
theorem refOf_any (L : List UInt8) (w : World) (hL : L.length ≤ 1000000) :
    Calls Tryz.prog 16 #[by8 L] w fun e w' => e = .returned (by8 (ofL L)) ∧ Below w.heap.size w w' := by
  have hrp := refParts_any L w hL
  go_enter Tryz.func16, Tryz.ntmps16
  go_wp2_with fail
  refine hrp.mono ?_
  rintro e w1 ⟨A, C, rfl, ho, hb1⟩
  clear hrp
  obtain ⟨n, hn⟩ : ∃ n, (partsL L).length = n := ⟨_, rfl⟩
  have hn0 : 0 < n := by rw [← hn]; exact List.length_pos_iff.2 (parts_ne L)
  have hnl := parts_length L
  have hlp := lastP_le L
  obtain ⟨p, hp⟩ : ∃ p, lastP (partsL L) = p := ⟨_, rfl⟩
  have hlast : (partsL L)[n - 1]? = some p := by
    rw [← hp]; unfold lastP
    rw [List.getLast?_eq_getElem?, hn]
    cases h : (partsL L)[n - 1]? with
    | none => rw [List.getElem?_eq_none_iff] at h; omega
    | some x => rfl
  rw [hn] at ho hnl ⊢
  obtain ⟨g, C2, hv, hcell, _⟩ := owns_cell ho (show ((partsL L).map by8)[n - 1]? = some (by8 p) by rw [List.getElem?_map, hlast]; rfl)
  cases hv
  have HB := hide hb1
  rw [hp] at hlp
  have hof : ofL L = nameL (extL p) := by unfold ofL; rw [hp]
  have HF := hide hof
  have hpl : p.length ≤ 1000000 := by omega
  obtain ⟨m, hm⟩ : ∃ m : Nat, (n : Int) - 1 = (m : Int) := ⟨n - 1, by omega⟩
  obtain rfl : n = m + 1 := by omega
  have hm1 : ((m : Int) + 1) - 1 = (m : Int) := by omega
  rw [show m + 1 - 1 = m by omega] at hcell
  have i0 : (0 : Int) ≤ (m : Int) := by omega
  have i1 : (m : Int) < (m : Int) + 1 := by omega
  have HM := hide hm
  clear hb1 hof hlast ho hn hp hm
  have hsz : (⟨p.toArray⟩ : ByteArray).size = p.length := by simp [ByteArray.size]
  unfold by8 at hcell
  go_wp2_with fail
  go_loopg [5, 6] (max p.length 1 - 1) (fun q s5 s6 wr => ∃ (k : Nat) (at_ : Int), k + q = max p.length 1 ∧ 1 ≤ k ∧ s6 = .int .i64 k ∧ s5 = .int .i64 at_ ∧ wr = w1 ∧ ((at_ = -1 ∧ ∀ j, 1 ≤ j → j < k → p[j]? ≠ some 46) ∨ (∃ a : Nat, at_ = a ∧ 1 ≤ a ∧ a < p.length ∧ p[a]? = some 46 ∧ ∀ j, a < j → j < k → p[j]? ≠ some 46)))
  case atStart => exact ⟨1, -1, by omega, by omega, rfl, rfl, rfl, .inl ⟨rfl, fun j h1 h2 => by omega⟩⟩
  case round =>
    obtain ⟨k, at_, hkq, hk1, rfl, rfl, rfl, hat⟩ := hrel
    have HA := hide hat
    clear hat
    cases gk with
    | succ q =>
      have hlt : k < p.length := by omega
      have hlt1 : (k : Int) < (p.length : Int) := by omega
      have hkg : p[k]? = some p[k] := List.getElem?_eq_getElem hlt
      have hbk : ((⟨p.toArray⟩ : ByteArray)[k]'(by rw [hsz]; exact hlt)) = p[k] := by simp [ByteArray.getElem_eq_getElem_data]
      generalize p[k] = c at hkg hbk
      by_cases hc : c = 46
      · subst hc
        have HK := hide hkg
        clear hkg
        go_wp2_with fail
        go_roundg q
        case measure => omega
        case rel => exact ⟨k + 1, (k : Int), by omega, by omega, by go_num, rfl, rfl, .inr ⟨k, rfl, hk1, hlt, HK.out, fun j h1 h2 => by omega⟩⟩
      · have hcn : ((c.toNat : Int) == 46) = false := by
          rw [beq_eq_false_iff_ne]
          intro e
          exact hc (UInt8.toNat_inj.1 (by show c.toNat = 46; omega))
        have HK := hide hkg
        clear hkg
        go_wp2_with fail
        go_roundg q
        case measure => omega
        case rel =>
          have hno : p[k]? ≠ some 46 := by rw [HK.out]; intro e; exact hc (Option.some.inj e)
          refine ⟨k + 1, at_, by omega, by omega, by go_num, rfl, rfl, ?_⟩
          rcases HA.out with ⟨h1, h2⟩ | ⟨a, h1, h2, h3, h4, h5⟩
          · exact .inl ⟨h1, fun j h6 h7 => by
              rcases Nat.lt_or_ge j k with h | h
              · exact h2 j h6 h
              · obtain rfl : j = k := by omega
                exact hno⟩
          · exact .inr ⟨a, h1, h2, h3, h4, fun j h6 h7 => by
              rcases Nat.lt_or_ge j k with h | h
              · exact h5 j h6 h
              · obtain rfl : j = k := by omega
                exact hno⟩
    | zero =>
      have hkp : ¬ ((k : Int) < (p.length : Int)) := by omega
      have hkp2 : (p.length : Int) ≤ (k : Int) := by omega
      have hkn : p.length ≤ k := by omega
      go_wp2_with fail
      refine (refLangTable_any wr).mono ?_
      rintro e w2 ⟨gt, rfl, ht, hb2⟩
      have HT := hide ht
      have HB2 := hide (HB.out.trans (hb2.mono HB.out.size))
      clear ht hb2
      go_wp2_with fail
      rcases HA.out with ⟨rfl, h2⟩ | ⟨a, rfl, h2, h3, h4, h5⟩
      · have hres : ofL L = [] := by
          rw [HF.out, ext_none (fun j h6 h7 => h2 j h6 (by omega))]
          decide +kernel
        go_loopg [8] 0 (fun q s8 w3 => q = 0 ∧ s8 = .int .i64 0 ∧ w3 = w2)
        case atStart => exact ⟨rfl, rfl, rfl⟩
        case round =>
          obtain ⟨rfl, rfl, rfl⟩ := hrel
          go_wp2_with fail
          go_ret
          exact ⟨rfl, HB2.out⟩
      · have hext : extL p = p.drop (a + 1) := ext_some h2 h4 (fun j h6 h7 => h5 j h6 (by omega))
        obtain ⟨E, hE⟩ : ∃ E, p.drop (a + 1) = E := ⟨_, rfl⟩
        rw [hE] at hext
        have hres : ofL L = nameL E := by rw [HF.out, hext]
        have ha0 : (0 : Int) < (a : Int) := by omega
        go_loopg [8] 22 (fun q s8 w3 => ∃ i : Nat, i + q = 22 ∧ s8 = .int .i64 i ∧ Below w2.heap.size w2 w3 ∧ ∀ (j : Nat) (r : List UInt8 × List UInt8), j < i → tabL[j]? = some r → (r.1 == E) = false)
        case atStart => exact ⟨0, by omega, rfl, Below.refl _ _, fun j r h _ => by omega⟩
        case round =>
          obtain ⟨i, hiq, rfl, hb3, hno⟩ := hrel
          have HN := hide hno
          have HB3 := hide hb3
          clear hno hb3
          cases gk with
          | succ q =>
            have hi : i < 22 := by omega
            have hi1 : (i : Int) < 22 := by omega
            obtain ⟨r, hr⟩ : ∃ r, tabL[i]? = some r := ⟨_, List.getElem?_eq_getElem hi⟩
            have hc := (HT.out.below HB3.out) i r hr
            obtain ⟨B, hB⟩ : ∃ B, (r.1 == E) = B := ⟨_, rfl⟩
            have HR := hide (And.intro hr hB)
            go_wp2_with fail
            refine (wpIn_wide (n := 0)).1 (lrof13 wide_plain gt i a p r.1 E B _ _ _ _ rfl rfl rfl rfl rfl hi hc.1 h3 hpl hE hB ?_)
            intro vs w4 hb4 h48
            simp only [List.foldl_cons, List.foldl_nil, List.setIfInBounds_toArray, List.set_cons_succ, List.set_cons_zero]
            rw [h48]
            have HB4 := hide (HB3.out.trans (hb4.mono HB3.out.size))
            have hl2 := cell_thru hc.2 hb4
            clear hb4 h48 hc hr hB
            cases B with
            | true =>
              have hi0 : (0 : Int) ≤ (i : Int) := by omega
              go_wp2_with fail
              go_ret
              exact ⟨by rw [hres, find_hit HR.out.1 HR.out.2 HN.out]; rfl, HB2.out.trans (HB4.out.mono HB2.out.size)⟩
            | false =>
              go_wp2_with fail
              go_roundg q
              case measure => omega
              case rel =>
                exact ⟨i + 1, by omega, by go_num, HB4.out, fun j r' h hj => by
                  rcases Nat.lt_or_ge j i with h6 | h6
                  · exact HN.out j r' h6 hj
                  · obtain rfl : j = i := by omega
                    rw [HR.out.1] at hj
                    obtain rfl := Option.some.inj hj
                    exact HR.out.2⟩
          | zero =>
            obtain rfl : i = 22 := by omega
            go_wp2_with fail
            go_ret
            exact ⟨by rw [find_none (fun j r hj => HN.out j r (List.getElem?_eq_some_iff.1 hj).1 hj)]; rfl, HB2.out.trans (HB3.out.mono HB2.out.size)⟩
end Go.Proofs.YtdjdlkobfmahpaaGreatDoor
