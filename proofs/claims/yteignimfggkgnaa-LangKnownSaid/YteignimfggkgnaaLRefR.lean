/-
  The reference's Right.
-/
import Derived.Test.YteignimfggkgnaaLRefP
namespace Go.Proofs.Yteignimfggkgnaa
open Go.RowKit Go.Shelf

theorem part_bytes : ∀ (L p : List UInt8) (c : UInt8), p ∈ partsL L → c ∈ p → c ∈ L
  | [], p, c, hp, hc => by simp [partsL] at hp; subst hp; exact hc
  | d :: L, p, c, hp, hc => by
    have ih := part_bytes L
    rw [parts_cons] at hp
    split at hp
    · rcases List.mem_cons.1 hp with rfl | h
      · cases hc
      · exact List.mem_cons_of_mem _ (ih p c h hc)
    · split at hp
      · rename_i e
        exact absurd e (parts_ne L)
      · rename_i q r e
        rcases List.mem_cons.1 hp with rfl | h
        · rcases List.mem_cons.1 hc with rfl | h2
          · exact List.mem_cons_self
          · exact List.mem_cons_of_mem _ (ih q c (by rw [e]; exact List.mem_cons_self) h2)
        · exact List.mem_cons_of_mem _ (ih p c (by rw [e]; exact List.mem_cons_of_mem _ h) hc)
theorem bytes_part : ∀ (L : List UInt8) (c : UInt8), c ∈ L → c ≠ 47 → ∃ p ∈ partsL L, c ∈ p
  | d :: L, c, hc, hn => by
    have ih := bytes_part L c
    rw [parts_cons]
    rcases List.mem_cons.1 hc with rfl | h
    · rw [if_neg hn]
      split
      · exact ⟨[c], by simp, by simp⟩
      · rename_i q r e
        exact ⟨c :: q, by simp, by simp⟩
    · obtain ⟨p, hp, hcp⟩ := ih h hn
      split
      · exact ⟨p, List.mem_cons_of_mem _ hp, hcp⟩
      · split
        · rename_i e
          exact absurd e (parts_ne L)
        · rename_i q r e
          rw [e] at hp
          rcases List.mem_cons.1 hp with rfl | h2
          · exact ⟨d :: p, by simp, List.mem_cons_of_mem _ hcp⟩
          · exact ⟨p, List.mem_cons_of_mem _ h2, hcp⟩
theorem right_bad {L : List UInt8} {k : Nat} {c : UInt8} (hk : L[k]? = some c) (hc : ¬ (32 ≤ c.toNat ∧ c.toNat ≠ 127)) : rightP L = false := by
  have hm : c ∈ L := List.mem_of_getElem? hk
  have hn : c ≠ 47 := by intro e; subst e; exact hc (by decide)
  obtain ⟨p, hp, hcp⟩ := bytes_part L c hm hn
  unfold rightP
  rw [Bool.and_eq_false_iff]
  right
  rw [List.all_eq_false]
  refine ⟨p, hp, ?_⟩
  unfold okP
  intro e
  rw [Bool.and_eq_true, List.all_eq_true] at e
  exact hc (of_decide_eq_true (e.2 c hcp))
theorem right_good {L : List UInt8} (h2 : L.length ≤ 200) (hb : ∀ (k : Nat) (c : UInt8), L[k]? = some c → 32 ≤ c.toNat ∧ c.toNat ≠ 127) (hp : ∀ p ∈ partsL L, p ≠ [] ∧ p ≠ [46] ∧ p ≠ [46, 46]) : rightP L = true := by
  unfold rightP
  rw [decide_eq_true h2, Bool.true_and, List.all_eq_true]
  intro p hpm
  unfold okP
  rw [decide_eq_true (hp p hpm), Bool.true_and, List.all_eq_true]
  intro c hc
  obtain ⟨k, hk⟩ := List.getElem?_of_mem (part_bytes L p c hpm hc)
  exact decide_eq_true (hb k c hk)
theorem right_part {L p : List UInt8} (hp : p ∈ partsL L) (hb : ¬ (p ≠ [] ∧ p ≠ [46] ∧ p ≠ [46, 46])) : rightP L = false := by
  unfold rightP
  rw [Bool.and_eq_false_iff]
  right
  rw [List.all_eq_false]
  refine ⟨p, hp, ?_⟩
  unfold okP
  rw [decide_eq_false hb, Bool.false_and]
  decide

set_option maxRecDepth 100000 in
set_option maxHeartbeats 2000000 in
theorem refRight_any (L : List UInt8) (w : World) (hL : L.length ≤ 1000000) :
    Calls Try.prog 8 #[by8 L] w fun e w' => e = .returned (.bool (rightP L)) ∧ Below w.heap.size w w' := by
  have hsz : (⟨L.toArray⟩ : ByteArray).size = L.length := by simp [ByteArray.size]
  by_cases h1 : L.length < 1
  · have h0 : L = [] := List.eq_nil_of_length_eq_zero (by omega)
    subst h0
    rw [show rightP [] = false by decide +kernel]
    unfold by8
    go_enter Try.func8, Try.ntmps8
    go_wp2_with fail
    go_ret
    exact ⟨rfl, Below.refl _ _⟩
  have i1 : (1 : Int) ≤ (L.length : Int) := by omega
  by_cases h2 : 200 < L.length
  · have i2 : (200 : Int) < (L.length : Int) := by omega
    rw [show rightP L = false by unfold rightP; rw [decide_eq_false (by omega)]; rfl]
    unfold by8
    go_enter Try.func8, Try.ntmps8
    go_wp2_with fail
    go_ret
    exact ⟨rfl, Below.refl _ _⟩
  have i2 : (L.length : Int) ≤ 200 := by omega
  have hrp := refParts_any L
  unfold by8 at hrp ⊢
  go_enter Try.func8, Try.ntmps8
  go_wp2_with fail
  go_loopg [3] L.length (fun q s3 wr => ∃ k : Nat, k + q = L.length ∧ s3 = .int .i64 k ∧ (∀ j c, j < k → L[j]? = some c → 32 ≤ c.toNat ∧ c.toNat ≠ 127) ∧ wr = w)
  case atStart => exact ⟨0, by omega, rfl, fun j c h _ => by omega, rfl⟩
  case round =>
    obtain ⟨k, hkq, rfl, hgood, rfl⟩ := hrel
    have HG := hide hgood
    clear hgood
    cases gk with
    | succ q =>
      have hlt : k < L.length := by omega
      have hlt1 : (k : Int) < (L.length : Int) := by omega
      have hkg : L[k]? = some L[k] := List.getElem?_eq_getElem hlt
      have hbk : ((⟨L.toArray⟩ : ByteArray)[k]'(by rw [hsz]; exact hlt)) = L[k] := by simp [ByteArray.getElem_eq_getElem_data]
      generalize L[k] = c at hkg hbk
      have hbad : ¬ (32 ≤ c.toNat ∧ c.toNat ≠ 127) → rightP L = false := fun h => right_bad hkg h
      have HK := hide (And.intro hkg hbad)
      clear hkg hbad
      by_cases hlow : c.toNat < 32
      · have hl2 : ((c.toNat : Nat) : Int) < 32 := by omega
        go_wp2_with fail
        go_ret
        exact ⟨by rw [HK.out.2 (by omega)]; rfl, Below.refl _ _⟩
      · have hy5 : ¬ ((c.toNat : Int) < 32) := by omega
        have hy1 : (32 : Int) ≤ (c.toNat : Int) := by omega
        by_cases h127 : c.toNat = 127
        · have h7 : ((c.toNat : Int) == 127) = true := by rw [h127]; rfl
          go_wp2_with fail
          go_ret
          exact ⟨by rw [HK.out.2 (by omega)]; rfl, Below.refl _ _⟩
        · have h7 : ((c.toNat : Int) == 127) = false := by rw [beq_eq_false_iff_ne]; omega
          go_wp2_with fail
          go_roundg q
          case measure => omega
          case rel =>
            exact ⟨k + 1, by omega, by go_num, fun j d h hj => by
              rcases Nat.lt_or_ge j k with h3 | h3
              · exact HG.out j d h3 hj
              · obtain rfl : j = k := by omega
                rw [HK.out.1] at hj
                obtain rfl := Option.some.inj hj
                omega, rfl⟩
    | zero =>
      obtain rfl : k = L.length := by omega
      have hkz : ¬ ((L.length : Int) < (L.length : Int)) := by omega
      go_wp2_with fail
      refine (hrp wr hL).mono ?_
      rintro e w1 ⟨A, C, rfl, ho, hb1⟩
      have HO := hide ho
      have HB := hide hb1
      clear ho hb1 hrp
      obtain ⟨n, hn⟩ : ∃ n, (partsL L).length = n := ⟨_, rfl⟩
      rw [hn] at HO
      have HN := hide hn
      have hnl := parts_length L
      rw [hn] at hnl ⊢
      clear hn
      go_wp2_with fail
      go_loopg [5] n (fun q s5 w2 => ∃ k : Nat, k + q = n ∧ s5 = .int .i64 k ∧ (∀ j p, j < k → (partsL L)[j]? = some p → p ≠ [] ∧ p ≠ [46] ∧ p ≠ [46, 46]) ∧ w2 = w1)
      case atStart => exact ⟨0, by omega, rfl, fun j c h _ => by omega, rfl⟩
      case round =>
        obtain ⟨k, hkq, rfl, hgood, rfl⟩ := hrel
        have HG2 := hide hgood
        clear hgood
        cases gk with
        | succ q =>
          have hlt : k < n := by omega
          have hlt1 : (k : Int) < (n : Int) := by omega
          have hkn : k < (partsL L).length := by rw [HN.out]; exact hlt
          have hpg : (partsL L)[k]? = some (partsL L)[k] := List.getElem?_eq_getElem hkn
          obtain ⟨p, hp⟩ : ∃ p, (partsL L)[k] = p := ⟨_, rfl⟩
          rw [hp] at hpg
          obtain ⟨g, C2, hv, hcell, _⟩ := owns_cell HO.out (show ((partsL L).map by8)[k]? = some (by8 p) by rw [List.getElem?_map, hpg]; rfl)
          cases hv
          unfold by8 at hcell
          have hpm : p ∈ partsL L := List.mem_of_getElem? hpg
          have HP := hide (And.intro hpg (fun h => right_part hpm h))
          clear hp hpg hpm
          by_cases e0 : p = []
          · subst e0
            go_wp2_with fail
            go_ret
            exact ⟨by rw [HP.out.2 (by simp)]; rfl, HB.out⟩
          by_cases e1 : p = [46]
          · subst e1
            go_wp2_with fail
            go_ret
            exact ⟨by rw [HP.out.2 (by simp)]; rfl, HB.out⟩
          by_cases e2 : p = [46, 46]
          · subst e2
            go_wp2_with fail
            go_ret
            exact ⟨by rw [HP.out.2 (by simp)]; rfl, HB.out⟩
          have g0 : p.isEmpty = false := by cases p; exact absurd rfl e0; rfl
          have g1 : (p == [46]) = false := by simpa using e1
          have g2 : (p == [46, 46]) = false := by simpa using e2
          go_wp2_with fail
          go_roundg q
          case measure => omega
          case rel =>
            exact ⟨k + 1, by omega, by go_num, fun j d h hj => by
              rcases Nat.lt_or_ge j k with h3 | h3
              · exact HG2.out j d h3 hj
              · obtain rfl : j = k := by omega
                rw [HP.out.1] at hj
                obtain rfl := Option.some.inj hj
                exact ⟨e0, e1, e2⟩, rfl⟩
        | zero =>
          obtain rfl : k = n := by omega
          have hkz2 : ¬ ((k : Int) < (k : Int)) := by omega
          go_wp2_with fail
          go_ret
          have hrt : rightP L = true := right_good (by omega) (fun j c hj => HG.out j c (List.getElem?_eq_some_iff.1 hj).1 hj) (fun p hp => by
            obtain ⟨j, hj⟩ := List.getElem?_of_mem hp
            exact HG2.out j p (by rw [← HN.out]; exact (List.getElem?_eq_some_iff.1 hj).1) hj)
          exact ⟨by rw [hrt]; rfl, HB.out⟩
end Go.Proofs.Yteignimfggkgnaa
