/-
  The reference's Of.
-/
import Derived.Test.YteignimfggkgnaaLRofR
namespace Go.Proofs.Yteignimfggkgnaa
open Go.RowKit Go.Shelf

theorem lastI_spec (p : List UInt8) : (lastI p = -1 ∧ ∀ j, j < p.length → p[j]? ≠ some 46) ∨ (∃ i : Nat, i < p.length ∧ lastI p = i ∧ p[i]? = some 46 ∧ ∀ j, i < j → j < p.length → p[j]? ≠ some 46) := by
  have hs : (⟨p.toArray⟩ : ByteArray).size = p.length := by simp [ByteArray.size]
  have h := Lib.lastIdx_spec ⟨p.toArray⟩ 46 (⟨p.toArray⟩ : ByteArray).size
  have hb : ∀ j, j < p.length → p[j]? = some ((⟨p.toArray⟩ : ByteArray).data[j]!) := fun j hj => by
    rw [List.getElem?_eq_getElem hj, getElem!_pos _ _ (by simpa using hj)]
    simp
  have key : ∀ j, j < p.length → (((⟨p.toArray⟩ : ByteArray).data[j]!).toNat : Int) ≠ 46 → p[j]? ≠ some 46 := fun j hj h e => by
    rw [hb j hj] at e
    rw [Option.some.inj e] at h
    exact h rfl
  unfold lastI Lib.lastIndexByte
  rw [hs] at h ⊢
  rcases h with ⟨h1, h2⟩ | ⟨i, hi, h1, h2, h3⟩
  · exact .inl ⟨h1, fun j hj => key j hj (h2 j hj)⟩
  · refine .inr ⟨i, hi, h1, ?_, fun j h4 h5 => key j h5 (h3 j h4 h5)⟩
    rw [hb i hi]
    congr 1
    exact UInt8.toNat_inj.1 (by show _ = 46; omega)
theorem ext_none {p : List UInt8} (h : ∀ j, 1 ≤ j → j < p.length → p[j]? ≠ some 46) : extL p = [] := by
  unfold extL
  rcases lastI_spec p with ⟨h1, _⟩ | ⟨i, hi, h1, h2, _⟩
  · rw [h1]; rfl
  · have : i = 0 := by
      rcases Nat.eq_zero_or_pos i with h0 | h0
      · exact h0
      · exact absurd h2 (h i h0 hi)
    rw [h1, this]; rfl
theorem ext_some {p : List UInt8} {a : Nat} (h1 : 1 ≤ a) (ha : p[a]? = some 46) (hno : ∀ j, a < j → j < p.length → p[j]? ≠ some 46) : extL p = p.drop (a + 1) := by
  have hal := (List.getElem?_eq_some_iff.1 ha).1
  unfold extL
  rcases lastI_spec p with ⟨_, h2⟩ | ⟨i, hi, h2, h3, h4⟩
  · exact absurd ha (h2 a hal)
  · have : i = a := by
      rcases Nat.lt_trichotomy i a with h | h | h
      · exact absurd ha (h4 a h hal)
      · exact h
      · exact absurd h3 (hno i h hi)
    rw [h2, this, if_pos (by omega)]
    simp
theorem find_none {E : List UInt8} (h : ∀ (j : Nat) (r : List UInt8 × List UInt8), tabL[j]? = some r → (r.1 == E) = false) : nameL E = [] := by
  unfold nameL
  rw [List.find?_eq_none.2 (fun r hr => by obtain ⟨j, hj⟩ := List.getElem?_of_mem hr; rw [h j r hj]; decide)]
  rfl
theorem find_hit {E : List UInt8} {i : Nat} {r : List UInt8 × List UInt8} (hr : tabL[i]? = some r) (he : (r.1 == E) = true) (h : ∀ (j : Nat) (r : List UInt8 × List UInt8), j < i → tabL[j]? = some r → (r.1 == E) = false) : nameL E = r.2 := by
  unfold nameL
  have hi := (List.getElem?_eq_some_iff.1 hr).1
  have hg := (List.getElem?_eq_some_iff.1 hr).2
  have : tabL.find? (fun r => r.1 == E) = some r := by
    rw [List.find?_eq_some_iff_getElem]
    exact ⟨he, i, hi, hg, fun j hj => by rw [h j _ hj (List.getElem?_eq_getElem (by omega))]; rfl⟩
  rw [this]
  rfl

set_option maxRecDepth 100000 in
set_option maxHeartbeats 2000000 in
theorem refOf_any (L : List UInt8) (w : World) (hL : L.length ≤ 1000000) :
    Calls Try.prog 10 #[by8 L] w fun e w' => e = .returned (by8 (ofL L)) ∧ Below w.heap.size w w' := by
  have hrp := refParts_any L w hL
  go_enter Try.func10, Try.ntmps10
  go_wp2_with fail
  refine hrp.mono ?_
  rintro e w1 ⟨A, C, rfl, ho, hb1⟩
  clear hrp
  obtain ⟨n, hn⟩ : ∃ n, (partsL L).length = n := ⟨_, rfl⟩
  have hn0 : 0 < n := by rw [← hn]; exact List.length_pos_iff.2 (parts_ne L)
  have hnl := parts_length L
  have hlp := lastP_le L
  obtain ⟨p, hp⟩ : ∃ p, lastP (partsL L) = p := ⟨_, rfl⟩
  have hlast : (partsL L)[n - 1]? = some p := by
    rw [← hp]; unfold lastP
    rw [List.getLast?_eq_getElem?, hn]
    cases h : (partsL L)[n - 1]? with
    | none => rw [List.getElem?_eq_none_iff] at h; omega
    | some x => rfl
  rw [hn] at ho hnl ⊢
  obtain ⟨g, C2, hv, hcell, _⟩ := owns_cell ho (show ((partsL L).map by8)[n - 1]? = some (by8 p) by rw [List.getElem?_map, hlast]; rfl)
  cases hv
  have HB := hide hb1
  rw [hp] at hlp
  have hof : ofL L = nameL (extL p) := by unfold ofL; rw [hp]
  have HF := hide hof
  have hpl : p.length ≤ 1000000 := by omega
  obtain ⟨m, hm⟩ : ∃ m : Nat, (n : Int) - 1 = (m : Int) := ⟨n - 1, by omega⟩
  obtain rfl : n = m + 1 := by omega
  have hm1 : ((m : Int) + 1) - 1 = (m : Int) := by omega
  rw [show m + 1 - 1 = m by omega] at hcell
  have i0 : (0 : Int) ≤ (m : Int) := by omega
  have i1 : (m : Int) < (m : Int) + 1 := by omega
  have HM := hide hm
  clear hb1 hof hlast ho hn hp hm
  have hsz : (⟨p.toArray⟩ : ByteArray).size = p.length := by simp [ByteArray.size]
  unfold by8 at hcell
  go_wp2_with fail
  go_loopg [5, 6] (max p.length 1 - 1) (fun q s5 s6 wr => ∃ (k : Nat) (at_ : Int), k + q = max p.length 1 ∧ 1 ≤ k ∧ s6 = .int .i64 k ∧ s5 = .int .i64 at_ ∧ wr = w1 ∧ ((at_ = -1 ∧ ∀ j, 1 ≤ j → j < k → p[j]? ≠ some 46) ∨ (∃ a : Nat, at_ = a ∧ 1 ≤ a ∧ a < p.length ∧ p[a]? = some 46 ∧ ∀ j, a < j → j < k → p[j]? ≠ some 46)))
  case atStart => exact ⟨1, -1, by omega, by omega, rfl, rfl, rfl, .inl ⟨rfl, fun j h1 h2 => by omega⟩⟩
  case round =>
    obtain ⟨k, at_, hkq, hk1, rfl, rfl, rfl, hat⟩ := hrel
    have HA := hide hat
    clear hat
    cases gk with
    | succ q =>
      have hlt : k < p.length := by omega
      have hlt1 : (k : Int) < (p.length : Int) := by omega
      have hkg : p[k]? = some p[k] := List.getElem?_eq_getElem hlt
      have hbk : ((⟨p.toArray⟩ : ByteArray)[k]'(by rw [hsz]; exact hlt)) = p[k] := by simp [ByteArray.getElem_eq_getElem_data]
      generalize p[k] = c at hkg hbk
      by_cases hc : c = 46
      · subst hc
        have HK := hide hkg
        clear hkg
        go_wp2_with fail
        go_roundg q
        case measure => omega
        case rel => exact ⟨k + 1, (k : Int), by omega, by omega, by go_num, rfl, rfl, .inr ⟨k, rfl, hk1, hlt, HK.out, fun j h1 h2 => by omega⟩⟩
      · have hcn : ((c.toNat : Int) == 46) = false := by
          rw [beq_eq_false_iff_ne]
          intro e
          exact hc (UInt8.toNat_inj.1 (by show c.toNat = 46; omega))
        have HK := hide hkg
        clear hkg
        go_wp2_with fail
        go_roundg q
        case measure => omega
        case rel =>
          have hno : p[k]? ≠ some 46 := by rw [HK.out]; intro e; exact hc (Option.some.inj e)
          refine ⟨k + 1, at_, by omega, by omega, by go_num, rfl, rfl, ?_⟩
          rcases HA.out with ⟨h1, h2⟩ | ⟨a, h1, h2, h3, h4, h5⟩
          · exact .inl ⟨h1, fun j h6 h7 => by
              rcases Nat.lt_or_ge j k with h | h
              · exact h2 j h6 h
              · obtain rfl : j = k := by omega
                exact hno⟩
          · exact .inr ⟨a, h1, h2, h3, h4, fun j h6 h7 => by
              rcases Nat.lt_or_ge j k with h | h
              · exact h5 j h6 h
              · obtain rfl : j = k := by omega
                exact hno⟩
    | zero =>
      have hkp : ¬ ((k : Int) < (p.length : Int)) := by omega
      have hkp2 : (p.length : Int) ≤ (k : Int) := by omega
      have hkn : p.length ≤ k := by omega
      go_wp2_with fail
      refine (refTable_any wr).mono ?_
      rintro e w2 ⟨gt, rfl, ht, hb2⟩
      have HT := hide ht
      have HB2 := hide (HB.out.trans (hb2.mono HB.out.size))
      clear ht hb2
      go_wp2_with fail
      rcases HA.out with ⟨rfl, h2⟩ | ⟨a, rfl, h2, h3, h4, h5⟩
      · have hres : ofL L = [] := by
          rw [HF.out, ext_none (fun j h6 h7 => h2 j h6 (by omega))]
          decide +kernel
        go_loopg [8] 0 (fun q s8 w3 => q = 0 ∧ s8 = .int .i64 0 ∧ w3 = w2)
        case atStart => exact ⟨rfl, rfl, rfl⟩
        case round =>
          obtain ⟨rfl, rfl, rfl⟩ := hrel
          go_wp2_with fail
          go_ret
          exact ⟨rfl, HB2.out⟩
      · have hext : extL p = p.drop (a + 1) := ext_some h2 h4 (fun j h6 h7 => h5 j h6 (by omega))
        obtain ⟨E, hE⟩ : ∃ E, p.drop (a + 1) = E := ⟨_, rfl⟩
        rw [hE] at hext
        have hres : ofL L = nameL E := by rw [HF.out, hext]
        have ha0 : (0 : Int) < (a : Int) := by omega
        go_loopg [8] 22 (fun q s8 w3 => ∃ i : Nat, i + q = 22 ∧ s8 = .int .i64 i ∧ Below w2.heap.size w2 w3 ∧ ∀ (j : Nat) (r : List UInt8 × List UInt8), j < i → tabL[j]? = some r → (r.1 == E) = false)
        case atStart => exact ⟨0, by omega, rfl, Below.refl _ _, fun j r h _ => by omega⟩
        case round =>
          obtain ⟨i, hiq, rfl, hb3, hno⟩ := hrel
          have HN := hide hno
          have HB3 := hide hb3
          clear hno hb3
          cases gk with
          | succ q =>
            have hi : i < 22 := by omega
            have hi1 : (i : Int) < 22 := by omega
            obtain ⟨r, hr⟩ : ∃ r, tabL[i]? = some r := ⟨_, List.getElem?_eq_getElem hi⟩
            have hc := (HT.out.below HB3.out) i r hr
            obtain ⟨B, hB⟩ : ∃ B, (r.1 == E) = B := ⟨_, rfl⟩
            have HR := hide (And.intro hr hB)
            go_wp2_with fail
            refine (wpIn_wide (n := 0)).1 (lrof13 wide_plain gt i a p r.1 E B _ _ _ _ rfl rfl rfl rfl rfl hi hc.1 h3 hpl hE hB ?_)
            intro vs w4 hb4 h48
            simp only [List.foldl_cons, List.foldl_nil, List.setIfInBounds_toArray, List.set_cons_succ, List.set_cons_zero]
            rw [h48]
            have HB4 := hide (HB3.out.trans (hb4.mono HB3.out.size))
            have hl2 := cell_thru hc.2 hb4
            clear hb4 h48 hc hr hB
            cases B with
            | true =>
              have hi0 : (0 : Int) ≤ (i : Int) := by omega
              go_wp2_with fail
              go_ret
              exact ⟨by rw [hres, find_hit HR.out.1 HR.out.2 HN.out]; rfl, HB2.out.trans (HB4.out.mono HB2.out.size)⟩
            | false =>
              go_wp2_with fail
              go_roundg q
              case measure => omega
              case rel =>
                exact ⟨i + 1, by omega, by go_num, HB4.out, fun j r' h hj => by
                  rcases Nat.lt_or_ge j i with h6 | h6
                  · exact HN.out j r' h6 hj
                  · obtain rfl : j = i := by omega
                    rw [HR.out.1] at hj
                    obtain rfl := Option.some.inj hj
                    exact HR.out.2⟩
          | zero =>
            obtain rfl : i = 22 := by omega
            go_wp2_with fail
            go_ret
            exact ⟨by rw [find_none (fun j r hj => HN.out j r (List.getElem?_eq_some_iff.1 hj).1 hj)]; rfl, HB2.out.trans (HB3.out.mono HB2.out.size)⟩
end Go.Proofs.Yteignimfggkgnaa
