/-
  The reference's reading of a shard's name, and why it is the program's (plain Lean).
-/
import Derived.Test.YtppdbinppibjhaaGreatDoorMMaths
import Derived.Test.YtppdbinppibjhaaGreatDoorMName
import Derived.Test.YtppdbinppibjhaaGreatDoorRegT
import Derived.Test.YtppdbinppibjhaaGreatDoorMAwake
import Derived.Test.YtppdbinppibjhaaGreatDoorTxt
import Derived.Lib.ItoaLen
namespace Go.Proofs.YtppdbinppibjhaaGreatDoor
open Go.Lib

/-- The reference's loop over digits. -/
def refDig : Nat → List UInt8 → Option Nat
  | acc, [] => if 1099511627776 < acc then none else some acc
  | acc, b :: r => if (b.toNat < 48 ∨ 57 < b.toNat) ∨ 1099511627776 < acc then none else refDig (10 * acc + (b.toNat - 48)) r
def refNumL : List UInt8 → Option Int
  | x :: y :: c :: r => if x = 115 ∧ y = 46 ∧ c ≠ 48 then (refDig 0 (c :: r)).map fun (n : Nat) => (n : Int) else none
  | _ => none
theorem decFrom_ge : ∀ (l : List UInt8) (acc v : Nat), decFrom acc l = some v → acc ≤ v
  | [], acc, v, h => by simp only [decFrom, Option.some.injEq] at h; omega
  | b :: r, acc, v, h => by
    simp only [decFrom] at h
    cases hd : digitVal b with
    | none => rw [hd] at h; cases h
    | some d =>
      rw [hd] at h
      have := decFrom_ge r _ v h
      omega
theorem digitVal_is {b : UInt8} : digitVal b = if b.toNat < 48 ∨ 57 < b.toNat then none else some (b.toNat - 48) := by
  unfold digitVal
  by_cases h : b.toNat < 48 ∨ 57 < b.toNat
  · rw [if_neg (by omega), if_pos h]
  · rw [if_pos (by omega), if_neg h]
theorem refDig_is : ∀ (l : List UInt8) (acc v : Nat), refDig acc l = some v ↔ decFrom acc l = some v ∧ v ≤ 1099511627776
  | [], acc, v => by
    simp only [refDig, decFrom]
    by_cases h : 1099511627776 < acc
    · rw [if_pos h]
      constructor
      · intro e; cases e
      · rintro ⟨e, h2⟩; cases e; omega
    · rw [if_neg h]
      constructor
      · intro e; cases e; exact ⟨rfl, by omega⟩
      · rintro ⟨e, _⟩; exact e
  | b :: r, acc, v => by
    simp only [refDig, decFrom, digitVal_is]
    by_cases hb : b.toNat < 48 ∨ 57 < b.toNat
    · rw [if_pos (.inl hb), if_pos hb]
      constructor
      · intro e; cases e
      · rintro ⟨e, _⟩; cases e
    · rw [if_neg hb]
      simp only
      by_cases ha : 1099511627776 < acc
      · rw [if_pos (.inr ha)]
        constructor
        · intro e; cases e
        · rintro ⟨e, h2⟩
          have := decFrom_ge _ _ _ e
          omega
      · rw [if_neg (by rintro (h | h); exact hb h; exact ha h), show 10 * acc + (b.toNat - 48) = acc * 10 + (b.toNat - 48) from by omega]
        exact refDig_is r _ v
/-- Digits that don't begin with nought are those of their number. -/
theorem dec_canon (n : Nat) : ∀ (l : List UInt8) (v : Nat), l.length = n + 1 → (∀ c, l.head? = some c → c.toNat ≠ 48) → decFrom 0 l = some v → decDigits v = l ∧ 1 ≤ v := by
  induction n with
  | zero =>
    intro l v hl hh hd
    match l, hl with
    | [b], _ =>
      simp only [decFrom, digitVal_is] at hd
      have hb := hh b rfl
      by_cases h : b.toNat < 48 ∨ 57 < b.toNat
      · rw [if_pos h] at hd; cases hd
      · rw [if_neg h] at hd
        simp only [Option.some.injEq] at hd
        subst hd
        refine ⟨?_, by omega⟩
        rw [decDigits_one (by omega)]
        congr 1
        apply UInt8.toNat_inj.1
        rw [ofNat_dig (by omega)]
        omega
  | succ n ih =>
    intro l v hl hh hd
    obtain ⟨l', b, rfl⟩ : ∃ l' b, l = l' ++ [b] := ⟨l.dropLast, l.getLast (by intro e; rw [e] at hl; simp at hl), (List.dropLast_concat_getLast _).symm⟩
    have hl' : l'.length = n + 1 := by simpa using hl
    rw [decFrom_snoc] at hd
    cases hm : decFrom 0 l' with
    | none => rw [hm] at hd; cases hd
    | some m =>
      rw [hm, digitVal_is] at hd
      simp only at hd
      by_cases h : b.toNat < 48 ∨ 57 < b.toNat
      · rw [if_pos h] at hd; cases hd
      · rw [if_neg h] at hd
        simp only [Option.some.injEq] at hd
        obtain ⟨h1, h2⟩ := ih l' m hl' (fun c hc => hh c (by
          cases l' with
          | nil => simp at hl'
          | cons a r => simpa using hc)) hm
        refine ⟨?_, by omega⟩
        subst hd
        rw [decDigits, dif_neg (by omega), show (m * 10 + (b.toNat - 48)) / 10 = m from by omega, h1]
        congr 2
        apply UInt8.toNat_inj.1
        rw [ofNat_dig (by omega)]
        omega
theorem dec_first (u : Nat) (hu : 1 ≤ u) : ∀ c, (decDigits u).head? = some c → c.toNat ≠ 48 := by
  induction u using Nat.strongRecOn with
  | _ u ih =>
    intro c hc
    by_cases h : u < 10
    · rw [decDigits_one h] at hc
      simp only [List.head?_cons, Option.some.injEq] at hc
      subst hc
      rw [ofNat_dig h]; omega
    · rw [decDigits, dif_neg h] at hc
      refine ih (u / 10) (by omega) (by omega) c ?_
      cases hd : decDigits (u / 10) with
      | nil => exact absurd hd (dec_ne _)
      | cons a r => rw [hd] at hc; simpa using hc
theorem refNumL_is (name : List UInt8) : refNumL name = numN name := by
  apply Option.ext
  intro v
  constructor
  · intro h
    unfold refNumL at h
    split at h
    · rename_i x y c r
      split at h
      · rename_i hc
        obtain ⟨rfl, rfl, hc0⟩ := hc
        obtain ⟨m, hm, rfl⟩ := Option.map_eq_some_iff.1 h
        obtain ⟨hd, hle⟩ := (refDig_is _ _ _).1 hm
        obtain ⟨h1, h2⟩ := dec_canon r.length (c :: r) m rfl (fun c' hc' => by
          simp only [List.head?_cons, Option.some.injEq] at hc'
          subst hc'
          intro e
          exact hc0 (UInt8.toNat_inj.1 e)) hd
        have e : nameN (m : Int) = 115 :: 46 :: c :: r := by
          rw [nameN_pos (by omega) (by unfold maxName; omega), itoa_nonneg, h1]
          rfl
        rw [← e]
        exact numN_name (by omega) (by unfold maxName; omega)
      · cases h
    · cases h
  · intro h
    obtain ⟨h0, h1, rfl⟩ := numN_some h
    obtain ⟨u, rfl⟩ : ∃ u : Nat, v = u := ⟨v.toNat, by omega⟩
    rw [nameN_pos h0 h1, itoa_nonneg]
    have hf := dec_first u (by omega)
    have hd := decFrom_dig u
    cases hl : decDigits u with
    | nil => exact absurd hl (dec_ne _)
    | cons c r =>
      rw [hl] at hf hd
      show (if (115 : UInt8) = 115 ∧ (46 : UInt8) = 46 ∧ c ≠ 48 then (refDig 0 (c :: r)).map fun (n : Nat) => (n : Int) else none) = _
      have hc : c ≠ 48 := fun e => hf c rfl (by rw [e]; rfl)
      rw [if_pos ⟨rfl, rfl, hc⟩]
      rw [(refDig_is _ _ u).2 ⟨hd, by unfold maxName at h1; omega⟩]
      rfl
end Go.Proofs.YtppdbinppibjhaaGreatDoor

/-
  The reference's Name.
-/
namespace Go.Proofs.YtppdbinppibjhaaGreatDoor
open Go.RowKit Go.Shelf
set_option linter.unusedVariables false
set_option linter.unusedSimpArgs false

set_option maxRecDepth 100000 in
set_option maxHeartbeats 2000000 in
theorem refName_any (n : Int) (w : World) (h : n < 100 ∨ StdW w) :
    Calls Tryz.prog 27 #[.int .i64 n] w fun e w' => e = .returned (sV (nameN n)) ∧ Below w.heap.size w w' := by
  go_enter Tryz.func27, Tryz.ntmps27
  by_cases h0 : n < 1
  · have hn : nameN n = [] := if_neg (by omega)
    have HN := hide hn
    clear h hn
    go_wp2_with fail
    go_ret
    exact ⟨by rw [HN.out]; rfl, Below.refl _ _⟩
  by_cases h1 : 1099511627776 < n
  · have hn : nameN n = [] := if_neg (by unfold maxName; omega)
    have HN := hide hn
    clear h hn
    go_wp2_with fail
    go_ret
    exact ⟨by rw [HN.out]; rfl, Below.refl _ _⟩
  have hit := itoa_any n w (by omega) (by unfold maxName; omega) h
  have hn := nameN_pos (n := n) (by omega) (by unfold maxName; omega)
  have HN := hide hn
  have hlen := itoa_len (n := n) (by omega) (by unfold maxName; omega)
  have hlen2 : ¬ 9223372036854775807 < 2 + (Lib.itoa n).length := by omega
  clear h hn hlen
  unfold sV at hit ⊢
  go_wp2_with fail
  refine hit.mono ?_
  rintro e w1 ⟨rfl, hb1⟩
  have H1 := hide hb1
  clear hit hb1
  go_wp2_with fail
  go_ret
  exact ⟨by rw [HN.out]; first | rfl | exact congrArg _ (str_join _ _), H1.out⟩
end Go.Proofs.YtppdbinppibjhaaGreatDoor

/-
  The reference's Num; the law's name.
-/
namespace Go.Proofs.YtppdbinppibjhaaGreatDoor
open Go.RowKit Go.Shelf
set_option linter.unusedVariables false
set_option linter.unusedSimpArgs false

theorem size_l (L : List UInt8) : (⟨L.toArray⟩ : ByteArray).size = L.length := by simp [ByteArray.size]
theorem toList_l (L : List UInt8) : (⟨L.toArray⟩ : ByteArray).toList = L := ByteArray.toList_mk L
theorem index_l (L : List UInt8) (k : Nat) (hk : k < L.length) (W : World) : (Instr.index 9 (.string ⟨L.toArray⟩) (.int .i64 (k : Nat))).run Tryz.prog W = .ok (.int .u8 ((L.getD k 0).toNat : Nat)) W := by
  rw [run_index_string W 9 _ _ _ Tryz.underlying9, dif_pos ⟨by omega, by rw [size_l]; omega⟩]
  congr 2
  simp [List.getD_eq_getElem?_getD, hk, ByteArray.getElem_eq_getElem_data]
theorem slice2_l (x y : UInt8) (r : List UInt8) (W : World) : (Instr.slice 9 (.string ⟨(x :: y :: r).toArray⟩) none (some (.int .i64 2)) none).run Tryz.prog W = .ok (.string ⟨[x, y].toArray⟩) W := by
  rw [run_slice_string_h W 9 _ Tryz.underlying9 _ _ (by omega) (by rw [size_l]; simp only [List.length_cons]; omega)]
  rw [show (2 : Int).toNat = 2 from rfl, ByteArray.extract_mk]
  rfl
theorem refNumL_short {L : List UInt8} (h : L.length < 3) : refNumL L = none := by
  match L, h with
  | [], _ => rfl
  | [_], _ => rfl
  | [_, _], _ => rfl
theorem refDig_cons (acc : Nat) (l : List UInt8) (k : Nat) (hk : k < l.length) : refDig acc (l.drop k) = (if ((l.getD k 0).toNat < 48 ∨ 57 < (l.getD k 0).toNat) ∨ 1099511627776 < acc then none else refDig (10 * acc + ((l.getD k 0).toNat - 48)) (l.drop (k + 1))) := by
  rw [List.drop_eq_getElem_cons hk]
  simp [refDig, List.getD_eq_getElem?_getD, hk]

set_option maxRecDepth 100000 in
set_option maxHeartbeats 2000000 in
theorem refNum25_any (L : List UInt8) (w : World) (hL : L.length ≤ 140737488351232) :
    Calls Tryz.prog 65 #[sV L] w fun e w' => e = .returned (.tuple #[.int .i64 ((refNumL L).getD 0), .bool (refNumL L).isSome]) ∧ Below w.heap.size w w' := by
  have hsz := size_l L
  have hlt := toList_l L
  unfold sV
  by_cases h3 : L.length < 3
  · rw [refNumL_short h3]
    have h3' : ((⟨L.toArray⟩ : ByteArray).size : Int) < 3 := by rw [hsz]; omega
    clear hsz hlt
    go_enter Tryz.func65, Tryz.ntmps65
    go_wp2_with fail
    go_ret2
    exact ⟨rfl, Below.refl _ _⟩
  obtain ⟨x, y, c, r, rfl⟩ : ∃ x y c r, L = x :: y :: c :: r := by
    match L, h3 with
    | [], h => exact absurd (by simp) h
    | [_], h => exact absurd (by simp) h
    | [_, _], h => exact absurd (by simp) h
    | x :: y :: c :: r, _ => exact ⟨x, y, c, r, rfl⟩
  have hsl := slice2_l x y (c :: r)
  have hi2 : ∀ W : World, (Instr.index 9 (.string ⟨(x :: y :: c :: r).toArray⟩) (.int .i64 2)).run Tryz.prog W = .ok (.int .u8 (((x :: y :: c :: r).getD 2 0).toNat : Nat)) W := index_l (x :: y :: c :: r) 2 (by simp)
  have hc2 : ((x :: y :: c :: r).getD 2 0).toNat = c.toNat := rfl
  rw [hc2] at hi2
  have hdr : (x :: y :: c :: r).drop 2 = c :: r := rfl
  have hres : refNumL (x :: y :: c :: r) = if x = 115 ∧ y = 46 ∧ c ≠ 48 then (refDig 0 (c :: r)).map fun (n : Nat) => (n : Int) else none := rfl
  have hlr : (c :: r).length = (x :: y :: c :: r).length - 2 := by simp
  have hix := fun k hk => index_l (x :: y :: c :: r) k hk
  have hrd := fun acc k hk => refDig_cons acc (x :: y :: c :: r) k hk
  have h3' : ¬ ((⟨(x :: y :: c :: r).toArray⟩ : ByteArray).size : Int) < 3 := by rw [hsz]; omega
  obtain ⟨S, hS⟩ : ∃ S : List UInt8, x :: y :: c :: r = S := ⟨_, rfl⟩
  rw [hS] at hsl hi2 hdr hres hlr hix hrd h3' hsz hlt h3 hL ⊢
  have hlen : (⟨S.toArray⟩ : ByteArray).size = S.length := size_l S
  clear hS hc2
  by_cases hxy : x = 115 ∧ y = 46
  case neg =>
    have hne : ([x, y] == [115, 46]) = false := by
      rw [beq_eq_false_iff_ne]
      intro e
      simp only [List.cons.injEq, and_true] at e
      exact hxy e
    rw [hres, if_neg (fun h => hxy ⟨h.1, h.2.1⟩)]
    clear hres hix hrd hdr hxy hi2 hlt
    go_enter Tryz.func65, Tryz.ntmps65
    go_wp2_with fail
    go_ret2
    exact ⟨rfl, Below.refl _ _⟩
  obtain ⟨rfl, rfl⟩ := hxy
  obtain ⟨cn, hcn⟩ : ∃ cn, c.toNat = cn := ⟨_, rfl⟩
  rw [hcn] at hi2
  by_cases hc : c = 48
  · have hcz : cn = 48 := by rw [← hcn, hc]; rfl
    subst hcz
    rw [hres, if_neg (fun h => h.2.2 hc)]
    clear hres hix hrd hdr hlt
    go_enter Tryz.func65, Tryz.ntmps65
    go_wp2_with fail
    go_ret2
    exact ⟨rfl, Below.refl _ _⟩
  have hcz : ¬ ((cn : Nat) : Int) = 48 := fun e => hc (UInt8.toNat_inj.1 (by rw [hcn]; show cn = 48; omega))
  have hcb : (((cn : Nat) : Int) == 48) = false := by rw [beq_eq_false_iff_ne]; exact hcz
  rw [hres, if_pos ⟨rfl, rfl, hc⟩, ← hdr]
  obtain ⟨R, hR⟩ : ∃ R, refDig 0 (S.drop 2) = R := ⟨_, rfl⟩
  rw [hR]
  have HR0 := hide hR
  have HIX := hide (And.intro hix (And.intro hrd (And.intro hlen (And.intro hL h3))))
  obtain ⟨n, hn⟩ : ∃ n, S.length = n + 2 := ⟨S.length - 2, by omega⟩
  have HN := hide hn
  have hzn : ((S.length : Nat) : Int) = (n : Int) + 2 := by omega
  have hn3 : ¬ (n : Int) + 2 < 3 := by omega
  have hn2 : (2 : Int) < (n : Int) + 2 := by omega
  clear hres hix hrd hdr hlt hc hlr hsz hL h3 hn hlen h3' hR
  go_enter Tryz.func65, Tryz.ntmps65
  go_wp2_with fail
  go_loopg [4, 5] n (fun q s4 s5 wr => ∃ (j acc : Nat), j + q = n + 2 ∧ s4 = .int .i64 (acc : Nat) ∧ s5 = .int .i64 (j : Nat) ∧ wr = w ∧ acc ≤ 10995116277769 ∧ refDig acc (S.drop j) = R)
  case atStart => exact ⟨2, 0, by omega, rfl, rfl, rfl, by omega, HR0.out⟩
  case round =>
    obtain ⟨j, acc, hjq, rfl, rfl, rfl, hacc, hd⟩ := hrel
    obtain ⟨hix, hrd, hlen, hL, h3⟩ := HIX.out
    have hn := HN.out
    cases gk with
    | zero =>
      have hj : ¬ ((j : Nat) : Int) < (n : Int) + 2 := by omega
      have hdj : S.drop j = [] := List.drop_eq_nil_of_le (by omega)
      rw [hdj] at hd
      simp only [refDig] at hd
      clear hix hrd hdj hsl hi2
      by_cases ha : 1099511627776 < acc
      · rw [if_pos ha] at hd
        have HR := hide hd
        clear hd
        have ha' : (1099511627776 : Int) < (acc : Int) := by omega
        go_wp2_with fail
        go_ret2
        exact ⟨by rw [← HR.out]; rfl, Below.refl _ _⟩
      · rw [if_neg ha] at hd
        have HR := hide hd
        clear hd
        have ha' : ¬ (1099511627776 : Int) < (acc : Int) := by omega
        go_wp2_with fail
        go_ret2
        exact ⟨by rw [← HR.out]; rfl, Below.refl _ _⟩
    | succ q =>
      have hj : ((j : Nat) : Int) < (n : Int) + 2 := by omega
      have hi := hix j (by omega)
      have hr := hrd acc j (by omega)
      obtain ⟨b, hb⟩ : ∃ b, (S.getD j 0).toNat = b := ⟨_, rfl⟩
      have hb256 : b < 256 := by rw [← hb]; exact UInt8.toNat_lt _
      rw [hb] at hi hr
      rw [hr] at hd
      clear hix hrd hr hb hsl hi2
      by_cases h1 : b < 48
      · rw [if_pos (.inl (.inl h1))] at hd
        have HR := hide hd
        have h1' : ((b : Nat) : Int) < 48 := by omega
        clear hd
        go_wp2_with fail
        go_ret2
        exact ⟨by rw [← HR.out]; rfl, Below.refl _ _⟩
      have h1' : ¬ ((b : Nat) : Int) < 48 := by omega
      by_cases h2 : 57 < b
      · rw [if_pos (.inl (.inr h2))] at hd
        have HR := hide hd
        have h2' : (57 : Int) < ((b : Nat) : Int) := by omega
        clear hd
        go_wp2_with fail
        go_ret2
        exact ⟨by rw [← HR.out]; rfl, Below.refl _ _⟩
      have h2' : ¬ (57 : Int) < ((b : Nat) : Int) := by omega
      by_cases h4 : 1099511627776 < acc
      · rw [if_pos (.inr h4)] at hd
        have HR := hide hd
        have h4' : (1099511627776 : Int) < (acc : Int) := by omega
        clear hd
        go_wp2_with fail
        go_ret2
        exact ⟨by rw [← HR.out]; rfl, Below.refl _ _⟩
      have h4' : ¬ (1099511627776 : Int) < (acc : Int) := by omega
      rw [if_neg (by omega)] at hd
      have HD := hide hd
      clear hd
      go_wp2_with fail
      go_roundg q
      case measure => omega
      case rel => exact ⟨j + 1, 10 * acc + (b - 48), by omega, by go_num, by go_num, rfl, by omega, HD.out⟩

set_option maxHeartbeats 1000000 in
/-- The two say the same of any name. -/
theorem name25_any (L : List UInt8) (w : World) (hL : L.length ≤ 140737488351232) (h : StdW w) :
    Calls Tryz.prog 28 #[sV L] w fun e w' => e = .returned (.bool true) ∧ Below w.heap.size w w' := by
  have hm := mnum_any L w hL (.inr h)
  have hr := fun W => refNum25_any L W hL
  rw [refNumL_is] at hr
  generalize (numN L).getD 0 = v at hm hr
  generalize (numN L).isSome = b at hm hr
  unfold sV at hm hr ⊢
  clear h hL
  go_enter Tryz.func28, Tryz.ntmps28
  go_wp2_with fail
  refine hm.mono ?_
  rintro e w1 ⟨rfl, hb1⟩
  have h2 := hr w1
  have H1 := hide hb1
  clear hm hr hb1
  go_wp2_with fail
  refine h2.mono ?_
  rintro e w2 ⟨rfl, hb2⟩
  have H2 := hide (below_thru H1.out hb2)
  clear h2 hb2
  cases b <;> (go_wp2_with fail; go_ret; exact ⟨rfl, H2.out⟩)
end Go.Proofs.YtppdbinppibjhaaGreatDoor

/-
  ManiNames' drawn region (written by tools/gen-mnames.py).
-/
namespace Go.Proofs.YtppdbinppibjhaaGreatDoor
open Go.RowKit Go.Shelf
set_option linter.unusedVariables false
set_option linter.unusedSimpArgs false

abbrev mnmR_o0 : Oper := { dst := some 17, op := Op.move (Operand.tmp 1), type := 49, pos := "law.go:67", after := #[], guard := none }
abbrev mnmR_o1 : Oper := { dst := some 18, op := Op.move (Operand.tmp 2), type := 3, pos := "law.go:67", after := #[], guard := none }
abbrev mnmR_o2 : Oper := { dst := some 19, op := Op.indexAddr 49 (Operand.tmp 17) (Operand.tmp 18), type := 0, pos := "law.go:67", after := #[{ on := 0, ground := Ground.data }, { on := 1, ground := Ground.data }], guard := none }
abbrev mnmR_o3 : Oper := { dst := some 20, op := Op.load 3 (Operand.tmp 19), type := 3, pos := "law.go:67", after := #[{ on := 2, ground := Ground.data }], guard := none }
abbrev mnmR_o4 : Oper := { dst := some 21, op := Op.call { callee := Callee.value (Operand.func 26), args := #[Operand.tmp 20], argTypes := #[3] }, type := 9, pos := "law.go:67", after := #[{ on := 3, ground := Ground.data }], guard := none }
abbrev mnmR_o5 : Oper := { dst := some 22, op := Op.move (Operand.tmp 1), type := 49, pos := "law.go:67", after := #[], guard := none }
abbrev mnmR_o6 : Oper := { dst := some 23, op := Op.move (Operand.tmp 2), type := 3, pos := "law.go:67", after := #[], guard := none }
abbrev mnmR_o7 : Oper := { dst := some 24, op := Op.indexAddr 49 (Operand.tmp 22) (Operand.tmp 23), type := 0, pos := "law.go:67", after := #[{ on := 5, ground := Ground.data }, { on := 6, ground := Ground.data }], guard := none }
abbrev mnmR_o8 : Oper := { dst := some 25, op := Op.load 3 (Operand.tmp 24), type := 3, pos := "law.go:67", after := #[{ on := 7, ground := Ground.data }], guard := none }
abbrev mnmR_o9 : Oper := { dst := some 26, op := Op.call { callee := Callee.value (Operand.func 27), args := #[Operand.tmp 25], argTypes := #[3] }, type := 9, pos := "law.go:67", after := #[{ on := 8, ground := Ground.data }, { on := 4, ground := Ground.chain }], guard := none }
abbrev mnmR_o10 : Oper := { dst := some 27, op := Op.binOp BinOp.neq 9 (Operand.tmp 21) (Operand.tmp 26) 9, type := 4, pos := "law.go:67", after := #[{ on := 4, ground := Ground.data }, { on := 9, ground := Ground.data }], guard := none }
abbrev mnmR_o11 : Oper := { dst := some 28, op := Op.move (Operand.tmp 27), type := 4, pos := "law.go:67", after := #[{ on := 10, ground := Ground.data }, { on := 9, ground := Ground.chain }], guard := none }
abbrev mnmR_o12 : Oper := { dst := some 29, op := Op.move (Operand.tmp 3), type := 9, pos := "law.go:67", after := #[{ on := 11, ground := Ground.guard }], guard := some (11, false) }
abbrev mnmR_o13 : Oper := { dst := some 30, op := Op.binOp BinOp.add 9 (Operand.const (Value.string { data := #[115, 46] })) (Operand.tmp 29) 9, type := 9, pos := "law.go:67", after := #[{ on := 12, ground := Ground.data }, { on := 11, ground := Ground.guard }], guard := some (11, false) }
abbrev mnmR_o14 : Oper := { dst := some 31, op := Op.call { callee := Callee.value (Operand.func 28), args := #[Operand.tmp 30], argTypes := #[9] }, type := 4, pos := "law.go:67", after := #[{ on := 13, ground := Ground.data }, { on := 11, ground := Ground.chain }, { on := 11, ground := Ground.guard }], guard := some (11, false) }
abbrev mnmR_o15 : Oper := { dst := some 32, op := Op.unOp UnOp.not 4 (Operand.tmp 31), type := 4, pos := "law.go:67", after := #[{ on := 14, ground := Ground.data }, { on := 11, ground := Ground.guard }], guard := some (11, false) }
abbrev mnmR_o16 : Oper := { dst := some 33, op := Op.pick (Operand.tmp 28) (Operand.const (Value.bool true)) (Operand.tmp 32), type := 4, pos := "law.go:67", after := #[{ on := 11, ground := Ground.data }, { on := 15, ground := Ground.data }], guard := none }
abbrev mnmR_o17 : Oper := { dst := some 34, op := Op.move (Operand.tmp 33), type := 4, pos := "law.go:67", after := #[{ on := 16, ground := Ground.data }, { on := 14, ground := Ground.chain }], guard := none }
abbrev mnmR_o18 : Oper := { dst := some 35, op := Op.move (Operand.tmp 3), type := 9, pos := "law.go:67", after := #[{ on := 17, ground := Ground.guard }], guard := some (17, false) }
abbrev mnmR_o19 : Oper := { dst := some 36, op := Op.binOp BinOp.add 9 (Operand.const (Value.string { data := #[115, 46, 48] })) (Operand.tmp 35) 9, type := 9, pos := "law.go:67", after := #[{ on := 18, ground := Ground.data }, { on := 17, ground := Ground.guard }], guard := some (17, false) }
abbrev mnmR_o20 : Oper := { dst := some 37, op := Op.call { callee := Callee.value (Operand.func 28), args := #[Operand.tmp 36], argTypes := #[9] }, type := 4, pos := "law.go:67", after := #[{ on := 19, ground := Ground.data }, { on := 17, ground := Ground.chain }, { on := 17, ground := Ground.guard }], guard := some (17, false) }
abbrev mnmR_o21 : Oper := { dst := some 38, op := Op.unOp UnOp.not 4 (Operand.tmp 37), type := 4, pos := "law.go:67", after := #[{ on := 20, ground := Ground.data }, { on := 17, ground := Ground.guard }], guard := some (17, false) }
abbrev mnmR_o22 : Oper := { dst := some 39, op := Op.pick (Operand.tmp 34) (Operand.const (Value.bool true)) (Operand.tmp 38), type := 4, pos := "law.go:67", after := #[{ on := 17, ground := Ground.data }, { on := 21, ground := Ground.data }], guard := none }
abbrev mnmR_o23 : Oper := { dst := some 40, op := Op.move (Operand.tmp 39), type := 4, pos := "law.go:67", after := #[{ on := 22, ground := Ground.data }, { on := 20, ground := Ground.chain }], guard := none }
abbrev mnmR_o24 : Oper := { dst := some 41, op := Op.move (Operand.tmp 3), type := 9, pos := "law.go:67", after := #[{ on := 23, ground := Ground.guard }], guard := some (23, false) }
abbrev mnmR_o25 : Oper := { dst := some 42, op := Op.binOp BinOp.add 9 (Operand.const (Value.string { data := #[115, 46, 43] })) (Operand.tmp 41) 9, type := 9, pos := "law.go:67", after := #[{ on := 24, ground := Ground.data }, { on := 23, ground := Ground.guard }], guard := some (23, false) }
abbrev mnmR_o26 : Oper := { dst := some 43, op := Op.call { callee := Callee.value (Operand.func 28), args := #[Operand.tmp 42], argTypes := #[9] }, type := 4, pos := "law.go:67", after := #[{ on := 25, ground := Ground.data }, { on := 23, ground := Ground.chain }, { on := 23, ground := Ground.guard }], guard := some (23, false) }
abbrev mnmR_o27 : Oper := { dst := some 44, op := Op.unOp UnOp.not 4 (Operand.tmp 43), type := 4, pos := "law.go:67", after := #[{ on := 26, ground := Ground.data }, { on := 23, ground := Ground.guard }], guard := some (23, false) }
abbrev mnmR_o28 : Oper := { dst := some 45, op := Op.pick (Operand.tmp 40) (Operand.const (Value.bool true)) (Operand.tmp 44), type := 4, pos := "law.go:67", after := #[{ on := 23, ground := Ground.data }, { on := 27, ground := Ground.data }], guard := none }
abbrev mnmR_o29 : Oper := { dst := some 46, op := Op.move (Operand.tmp 45), type := 4, pos := "law.go:67", after := #[{ on := 28, ground := Ground.data }, { on := 26, ground := Ground.chain }], guard := none }
abbrev mnmR_o30 : Oper := { dst := some 47, op := Op.move (Operand.tmp 3), type := 9, pos := "law.go:67", after := #[{ on := 29, ground := Ground.guard }], guard := some (29, false) }
abbrev mnmR_o31 : Oper := { dst := some 48, op := Op.binOp BinOp.add 9 (Operand.const (Value.string { data := #[83, 46] })) (Operand.tmp 47) 9, type := 9, pos := "law.go:67", after := #[{ on := 30, ground := Ground.data }, { on := 29, ground := Ground.guard }], guard := some (29, false) }
abbrev mnmR_o32 : Oper := { dst := some 49, op := Op.call { callee := Callee.value (Operand.func 28), args := #[Operand.tmp 48], argTypes := #[9] }, type := 4, pos := "law.go:67", after := #[{ on := 31, ground := Ground.data }, { on := 29, ground := Ground.chain }, { on := 29, ground := Ground.guard }], guard := some (29, false) }
abbrev mnmR_o33 : Oper := { dst := some 50, op := Op.unOp UnOp.not 4 (Operand.tmp 49), type := 4, pos := "law.go:67", after := #[{ on := 32, ground := Ground.data }, { on := 29, ground := Ground.guard }], guard := some (29, false) }
abbrev mnmR_o34 : Oper := { dst := some 51, op := Op.pick (Operand.tmp 46) (Operand.const (Value.bool true)) (Operand.tmp 50), type := 4, pos := "law.go:67", after := #[{ on := 29, ground := Ground.data }, { on := 33, ground := Ground.data }], guard := none }
abbrev mnmR_o35 : Oper := { dst := some 52, op := Op.move (Operand.tmp 51), type := 4, pos := "law.go:67", after := #[{ on := 34, ground := Ground.data }, { on := 32, ground := Ground.chain }], guard := none }
abbrev mnmR_o36 : Oper := { dst := some 53, op := Op.move (Operand.tmp 3), type := 9, pos := "law.go:67", after := #[{ on := 35, ground := Ground.guard }], guard := some (35, false) }
abbrev mnmR_o37 : Oper := { dst := some 54, op := Op.binOp BinOp.add 9 (Operand.const (Value.string { data := #[115, 46] })) (Operand.tmp 53) 9, type := 9, pos := "law.go:67", after := #[{ on := 36, ground := Ground.data }, { on := 35, ground := Ground.guard }], guard := some (35, false) }
abbrev mnmR_o38 : Oper := { dst := some 55, op := Op.binOp BinOp.add 9 (Operand.tmp 54) (Operand.const (Value.string { data := #[32] })) 9, type := 9, pos := "law.go:67", after := #[{ on := 37, ground := Ground.data }, { on := 35, ground := Ground.guard }], guard := some (35, false) }
abbrev mnmR_o39 : Oper := { dst := some 56, op := Op.call { callee := Callee.value (Operand.func 28), args := #[Operand.tmp 55], argTypes := #[9] }, type := 4, pos := "law.go:67", after := #[{ on := 38, ground := Ground.data }, { on := 35, ground := Ground.chain }, { on := 35, ground := Ground.guard }], guard := some (35, false) }
abbrev mnmR_o40 : Oper := { dst := some 57, op := Op.unOp UnOp.not 4 (Operand.tmp 56), type := 4, pos := "law.go:67", after := #[{ on := 39, ground := Ground.data }, { on := 35, ground := Ground.guard }], guard := some (35, false) }
abbrev mnmR_o41 : Oper := { dst := some 58, op := Op.pick (Operand.tmp 52) (Operand.const (Value.bool true)) (Operand.tmp 57), type := 4, pos := "law.go:67", after := #[{ on := 35, ground := Ground.data }, { on := 40, ground := Ground.data }], guard := none }
abbrev mnmR_o42 : Oper := { dst := some 59, op := Op.move (Operand.tmp 58), type := 4, pos := "law.go:67", after := #[{ on := 41, ground := Ground.data }, { on := 39, ground := Ground.chain }], guard := none }
abbrev mnmR_o43 : Oper := { dst := some 60, op := Op.move (Operand.tmp 3), type := 9, pos := "law.go:67", after := #[{ on := 42, ground := Ground.guard }], guard := some (42, false) }
abbrev mnmR_o44 : Oper := { dst := some 61, op := Op.binOp BinOp.add 9 (Operand.const (Value.string { data := #[115, 46, 32] })) (Operand.tmp 60) 9, type := 9, pos := "law.go:67", after := #[{ on := 43, ground := Ground.data }, { on := 42, ground := Ground.guard }], guard := some (42, false) }
abbrev mnmR_o45 : Oper := { dst := some 62, op := Op.call { callee := Callee.value (Operand.func 28), args := #[Operand.tmp 61], argTypes := #[9] }, type := 4, pos := "law.go:67", after := #[{ on := 44, ground := Ground.data }, { on := 42, ground := Ground.chain }, { on := 42, ground := Ground.guard }], guard := some (42, false) }
abbrev mnmR_o46 : Oper := { dst := some 63, op := Op.unOp UnOp.not 4 (Operand.tmp 62), type := 4, pos := "law.go:67", after := #[{ on := 45, ground := Ground.data }, { on := 42, ground := Ground.guard }], guard := some (42, false) }
abbrev mnmR_o47 : Oper := { dst := some 64, op := Op.pick (Operand.tmp 59) (Operand.const (Value.bool true)) (Operand.tmp 63), type := 4, pos := "law.go:67", after := #[{ on := 42, ground := Ground.data }, { on := 46, ground := Ground.data }], guard := none }
abbrev mnmR_o48 : Oper := { dst := some 65, op := Op.move (Operand.tmp 64), type := 4, pos := "law.go:67", after := #[{ on := 47, ground := Ground.data }, { on := 45, ground := Ground.chain }], guard := none }
abbrev mnmR_o49 : Oper := { dst := some 66, op := Op.move (Operand.tmp 3), type := 9, pos := "law.go:67", after := #[{ on := 48, ground := Ground.guard }], guard := some (48, false) }
abbrev mnmR_o50 : Oper := { dst := some 67, op := Op.call { callee := Callee.value (Operand.func 28), args := #[Operand.tmp 66], argTypes := #[9] }, type := 4, pos := "law.go:67", after := #[{ on := 49, ground := Ground.data }, { on := 48, ground := Ground.chain }, { on := 48, ground := Ground.guard }], guard := some (48, false) }
abbrev mnmR_o51 : Oper := { dst := some 68, op := Op.unOp UnOp.not 4 (Operand.tmp 67), type := 4, pos := "law.go:67", after := #[{ on := 50, ground := Ground.data }, { on := 48, ground := Ground.guard }], guard := some (48, false) }
abbrev mnmR_o52 : Oper := { dst := some 69, op := Op.pick (Operand.tmp 65) (Operand.const (Value.bool true)) (Operand.tmp 68), type := 4, pos := "law.go:67", after := #[{ on := 48, ground := Ground.data }, { on := 51, ground := Ground.data }], guard := none }
abbrev mnmR_o53 : Oper := { dst := some 70, op := Op.move (Operand.tmp 69), type := 4, pos := "law.go:67", after := #[{ on := 52, ground := Ground.data }, { on := 50, ground := Ground.chain }], guard := none }
abbrev mnmR_o54 : Oper := { dst := some 71, op := Op.move (Operand.tmp 3), type := 9, pos := "law.go:67", after := #[{ on := 53, ground := Ground.guard }], guard := some (53, false) }
abbrev mnmR_o55 : Oper := { dst := some 72, op := Op.binOp BinOp.add 9 (Operand.const (Value.string { data := #[115] })) (Operand.tmp 71) 9, type := 9, pos := "law.go:67", after := #[{ on := 54, ground := Ground.data }, { on := 53, ground := Ground.guard }], guard := some (53, false) }
abbrev mnmR_o56 : Oper := { dst := some 73, op := Op.call { callee := Callee.value (Operand.func 28), args := #[Operand.tmp 72], argTypes := #[9] }, type := 4, pos := "law.go:67", after := #[{ on := 55, ground := Ground.data }, { on := 53, ground := Ground.chain }, { on := 53, ground := Ground.guard }], guard := some (53, false) }
abbrev mnmR_o57 : Oper := { dst := some 74, op := Op.unOp UnOp.not 4 (Operand.tmp 73), type := 4, pos := "law.go:67", after := #[{ on := 56, ground := Ground.data }, { on := 53, ground := Ground.guard }], guard := some (53, false) }
abbrev mnmR_o58 : Oper := { dst := some 75, op := Op.pick (Operand.tmp 70) (Operand.const (Value.bool true)) (Operand.tmp 74), type := 4, pos := "law.go:67", after := #[{ on := 53, ground := Ground.data }, { on := 57, ground := Ground.data }], guard := none }
abbrev mnmR_o59 : Oper := { dst := some 76, op := Op.move (Operand.tmp 75), type := 4, pos := "law.go:67", after := #[{ on := 58, ground := Ground.data }, { on := 56, ground := Ground.chain }], guard := none }
abbrev mnmR_o60 : Oper := { dst := some 77, op := Op.move (Operand.tmp 3), type := 9, pos := "law.go:67", after := #[{ on := 59, ground := Ground.guard }], guard := some (59, false) }
abbrev mnmR_o61 : Oper := { dst := some 78, op := Op.binOp BinOp.add 9 (Operand.const (Value.string { data := #[115, 46] })) (Operand.tmp 77) 9, type := 9, pos := "law.go:67", after := #[{ on := 60, ground := Ground.data }, { on := 59, ground := Ground.guard }], guard := some (59, false) }
abbrev mnmR_o62 : Oper := { dst := some 79, op := Op.binOp BinOp.add 9 (Operand.tmp 78) (Operand.const (Value.string { data := #[48, 48, 48, 48, 48, 48, 48, 48, 48, 48, 48, 48, 48, 48, 48, 48, 48, 48, 48, 48, 48, 48] })) 9, type := 9, pos := "law.go:67", after := #[{ on := 61, ground := Ground.data }, { on := 59, ground := Ground.guard }], guard := some (59, false) }
abbrev mnmR_o63 : Oper := { dst := some 80, op := Op.call { callee := Callee.value (Operand.func 28), args := #[Operand.tmp 79], argTypes := #[9] }, type := 4, pos := "law.go:67", after := #[{ on := 62, ground := Ground.data }, { on := 59, ground := Ground.chain }, { on := 59, ground := Ground.guard }], guard := some (59, false) }
abbrev mnmR_o64 : Oper := { dst := some 81, op := Op.unOp UnOp.not 4 (Operand.tmp 80), type := 4, pos := "law.go:67", after := #[{ on := 63, ground := Ground.data }, { on := 59, ground := Ground.guard }], guard := some (59, false) }
abbrev mnmR_o65 : Oper := { dst := some 82, op := Op.pick (Operand.tmp 76) (Operand.const (Value.bool true)) (Operand.tmp 81), type := 4, pos := "law.go:67", after := #[{ on := 59, ground := Ground.data }, { on := 64, ground := Ground.data }], guard := none }
abbrev mnmR_o66 : Oper := { dst := some 83, op := Op.move (Operand.tmp 82), type := 4, pos := "law.go:67", after := #[{ on := 65, ground := Ground.data }, { on := 63, ground := Ground.chain }], guard := none }
abbrev mnmR_o67 : Oper := { dst := some 84, op := Op.move (Operand.tmp 3), type := 9, pos := "law.go:67", after := #[{ on := 66, ground := Ground.guard }], guard := some (66, false) }
abbrev mnmR_o68 : Oper := { dst := some 85, op := Op.binOp BinOp.add 9 (Operand.const (Value.string { data := #[115, 46] })) (Operand.tmp 84) 9, type := 9, pos := "law.go:67", after := #[{ on := 67, ground := Ground.data }, { on := 66, ground := Ground.guard }], guard := some (66, false) }
abbrev mnmR_o69 : Oper := { dst := some 86, op := Op.binOp BinOp.add 9 (Operand.tmp 85) (Operand.const (Value.string { data := #[95, 48] })) 9, type := 9, pos := "law.go:67", after := #[{ on := 68, ground := Ground.data }, { on := 66, ground := Ground.guard }], guard := some (66, false) }
abbrev mnmR_o70 : Oper := { dst := some 87, op := Op.call { callee := Callee.value (Operand.func 28), args := #[Operand.tmp 86], argTypes := #[9] }, type := 4, pos := "law.go:67", after := #[{ on := 69, ground := Ground.data }, { on := 66, ground := Ground.chain }, { on := 66, ground := Ground.guard }], guard := some (66, false) }
abbrev mnmR_o71 : Oper := { dst := some 88, op := Op.unOp UnOp.not 4 (Operand.tmp 87), type := 4, pos := "law.go:67", after := #[{ on := 70, ground := Ground.data }, { on := 66, ground := Ground.guard }], guard := some (66, false) }
abbrev mnmR_o72 : Oper := { dst := some 89, op := Op.pick (Operand.tmp 83) (Operand.const (Value.bool true)) (Operand.tmp 88), type := 4, pos := "law.go:67", after := #[{ on := 66, ground := Ground.data }, { on := 71, ground := Ground.data }], guard := none }
abbrev mnmR_o73 : Oper := { dst := some 90, op := Op.move (Operand.tmp 89), type := 4, pos := "law.go:67", after := #[{ on := 72, ground := Ground.data }, { on := 70, ground := Ground.chain }], guard := none }
abbrev mnmR_o74 : Oper := { dst := some 91, op := Op.move (Operand.tmp 3), type := 9, pos := "law.go:67", after := #[{ on := 73, ground := Ground.guard }], guard := some (73, false) }
abbrev mnmR_o75 : Oper := { dst := some 92, op := Op.binOp BinOp.add 9 (Operand.const (Value.string { data := #[115, 46, 115, 46] })) (Operand.tmp 91) 9, type := 9, pos := "law.go:67", after := #[{ on := 74, ground := Ground.data }, { on := 73, ground := Ground.guard }], guard := some (73, false) }
abbrev mnmR_o76 : Oper := { dst := some 93, op := Op.call { callee := Callee.value (Operand.func 28), args := #[Operand.tmp 92], argTypes := #[9] }, type := 4, pos := "law.go:67", after := #[{ on := 75, ground := Ground.data }, { on := 73, ground := Ground.chain }, { on := 73, ground := Ground.guard }], guard := some (73, false) }
abbrev mnmR_o77 : Oper := { dst := some 94, op := Op.unOp UnOp.not 4 (Operand.tmp 93), type := 4, pos := "law.go:67", after := #[{ on := 76, ground := Ground.data }, { on := 73, ground := Ground.guard }], guard := some (73, false) }
abbrev mnmR_o78 : Oper := { dst := some 95, op := Op.pick (Operand.tmp 90) (Operand.const (Value.bool true)) (Operand.tmp 94), type := 4, pos := "law.go:67", after := #[{ on := 73, ground := Ground.data }, { on := 77, ground := Ground.data }], guard := none }
def mnmR_ops : Array Oper := ([mnmR_o0, mnmR_o1, mnmR_o2, mnmR_o3, mnmR_o4, mnmR_o5, mnmR_o6, mnmR_o7, mnmR_o8, mnmR_o9, mnmR_o10, mnmR_o11, mnmR_o12, mnmR_o13, mnmR_o14, mnmR_o15, mnmR_o16, mnmR_o17, mnmR_o18, mnmR_o19, mnmR_o20, mnmR_o21, mnmR_o22, mnmR_o23, mnmR_o24, mnmR_o25, mnmR_o26, mnmR_o27, mnmR_o28, mnmR_o29, mnmR_o30, mnmR_o31, mnmR_o32, mnmR_o33, mnmR_o34, mnmR_o35, mnmR_o36, mnmR_o37, mnmR_o38].append [mnmR_o39, mnmR_o40, mnmR_o41, mnmR_o42, mnmR_o43, mnmR_o44, mnmR_o45, mnmR_o46, mnmR_o47, mnmR_o48, mnmR_o49, mnmR_o50, mnmR_o51, mnmR_o52, mnmR_o53, mnmR_o54, mnmR_o55, mnmR_o56, mnmR_o57, mnmR_o58, mnmR_o59, mnmR_o60, mnmR_o61, mnmR_o62, mnmR_o63, mnmR_o64, mnmR_o65, mnmR_o66, mnmR_o67, mnmR_o68, mnmR_o69, mnmR_o70, mnmR_o71, mnmR_o72, mnmR_o73, mnmR_o74, mnmR_o75, mnmR_o76, mnmR_o77, mnmR_o78]).toArray
abbrev mnmR_mem (s : Nat) : Prop := s ∈ [17, 18, 19, 20, 21, 22, 23, 24, 25, 26, 27, 28, 29, 30, 31, 32, 33, 34, 35, 36, 37, 38, 39, 40, 41, 42, 43, 44, 45, 46, 47, 48, 49, 50, 51, 52, 53, 54, 55, 56, 57, 58, 59, 60, 61, 62, 63, 64, 65, 66, 67, 68, 69, 70, 71, 72, 73, 74, 75, 76, 77, 78, 79, 80, 81, 82, 83, 84, 85, 86, 87, 88, 89, 90, 91, 92, 93, 94, 95]
set_option maxRecDepth 100000 in
theorem mnmR_slots : ∀ j, j < 79 → mnmR_mem (slotOf mnmR_ops j) := by
  intro j hj
  match j, hj with
  | 0, _ => exact (by decide : mnmR_mem 17)
  | 1, _ => exact (by decide : mnmR_mem 18)
  | 2, _ => exact (by decide : mnmR_mem 19)
  | 3, _ => exact (by decide : mnmR_mem 20)
  | 4, _ => exact (by decide : mnmR_mem 21)
  | 5, _ => exact (by decide : mnmR_mem 22)
  | 6, _ => exact (by decide : mnmR_mem 23)
  | 7, _ => exact (by decide : mnmR_mem 24)
  | 8, _ => exact (by decide : mnmR_mem 25)
  | 9, _ => exact (by decide : mnmR_mem 26)
  | 10, _ => exact (by decide : mnmR_mem 27)
  | 11, _ => exact (by decide : mnmR_mem 28)
  | 12, _ => exact (by decide : mnmR_mem 29)
  | 13, _ => exact (by decide : mnmR_mem 30)
  | 14, _ => exact (by decide : mnmR_mem 31)
  | 15, _ => exact (by decide : mnmR_mem 32)
  | 16, _ => exact (by decide : mnmR_mem 33)
  | 17, _ => exact (by decide : mnmR_mem 34)
  | 18, _ => exact (by decide : mnmR_mem 35)
  | 19, _ => exact (by decide : mnmR_mem 36)
  | 20, _ => exact (by decide : mnmR_mem 37)
  | 21, _ => exact (by decide : mnmR_mem 38)
  | 22, _ => exact (by decide : mnmR_mem 39)
  | 23, _ => exact (by decide : mnmR_mem 40)
  | 24, _ => exact (by decide : mnmR_mem 41)
  | 25, _ => exact (by decide : mnmR_mem 42)
  | 26, _ => exact (by decide : mnmR_mem 43)
  | 27, _ => exact (by decide : mnmR_mem 44)
  | 28, _ => exact (by decide : mnmR_mem 45)
  | 29, _ => exact (by decide : mnmR_mem 46)
  | 30, _ => exact (by decide : mnmR_mem 47)
  | 31, _ => exact (by decide : mnmR_mem 48)
  | 32, _ => exact (by decide : mnmR_mem 49)
  | 33, _ => exact (by decide : mnmR_mem 50)
  | 34, _ => exact (by decide : mnmR_mem 51)
  | 35, _ => exact (by decide : mnmR_mem 52)
  | 36, _ => exact (by decide : mnmR_mem 53)
  | 37, _ => exact (by decide : mnmR_mem 54)
  | 38, _ => exact (by decide : mnmR_mem 55)
  | 39, _ => exact (by decide : mnmR_mem 56)
  | 40, _ => exact (by decide : mnmR_mem 57)
  | 41, _ => exact (by decide : mnmR_mem 58)
  | 42, _ => exact (by decide : mnmR_mem 59)
  | 43, _ => exact (by decide : mnmR_mem 60)
  | 44, _ => exact (by decide : mnmR_mem 61)
  | 45, _ => exact (by decide : mnmR_mem 62)
  | 46, _ => exact (by decide : mnmR_mem 63)
  | 47, _ => exact (by decide : mnmR_mem 64)
  | 48, _ => exact (by decide : mnmR_mem 65)
  | 49, _ => exact (by decide : mnmR_mem 66)
  | 50, _ => exact (by decide : mnmR_mem 67)
  | 51, _ => exact (by decide : mnmR_mem 68)
  | 52, _ => exact (by decide : mnmR_mem 69)
  | 53, _ => exact (by decide : mnmR_mem 70)
  | 54, _ => exact (by decide : mnmR_mem 71)
  | 55, _ => exact (by decide : mnmR_mem 72)
  | 56, _ => exact (by decide : mnmR_mem 73)
  | 57, _ => exact (by decide : mnmR_mem 74)
  | 58, _ => exact (by decide : mnmR_mem 75)
  | 59, _ => exact (by decide : mnmR_mem 76)
  | 60, _ => exact (by decide : mnmR_mem 77)
  | 61, _ => exact (by decide : mnmR_mem 78)
  | 62, _ => exact (by decide : mnmR_mem 79)
  | 63, _ => exact (by decide : mnmR_mem 80)
  | 64, _ => exact (by decide : mnmR_mem 81)
  | 65, _ => exact (by decide : mnmR_mem 82)
  | 66, _ => exact (by decide : mnmR_mem 83)
  | 67, _ => exact (by decide : mnmR_mem 84)
  | 68, _ => exact (by decide : mnmR_mem 85)
  | 69, _ => exact (by decide : mnmR_mem 86)
  | 70, _ => exact (by decide : mnmR_mem 87)
  | 71, _ => exact (by decide : mnmR_mem 88)
  | 72, _ => exact (by decide : mnmR_mem 89)
  | 73, _ => exact (by decide : mnmR_mem 90)
  | 74, _ => exact (by decide : mnmR_mem 91)
  | 75, _ => exact (by decide : mnmR_mem 92)
  | 76, _ => exact (by decide : mnmR_mem 93)
  | 77, _ => exact (by decide : mnmR_mem 94)
  | 78, _ => exact (by decide : mnmR_mem 95)
  | k + 79, hj => omega
def mnmR_val (g i : Nat) (n : Int) (S A1 A2 A3 A4 A5 A6 A7 A8 A9 B1 : List UInt8) : Nat → Value → World → Prop
  | 0, v, w => v = .slice (some ⟨g, 0, none⟩) 12 12
  | 1, v, w => v = .int .i64 (i : Nat)
  | 2, v, w => v = .pointer (some ⟨g, i, none⟩)
  | 3, v, w => v = .int .i64 n
  | 4, v, w => v = .string ⟨(nameN n).toArray⟩
  | 5, v, w => v = .slice (some ⟨g, 0, none⟩) 12 12
  | 6, v, w => v = .int .i64 (i : Nat)
  | 7, v, w => v = .pointer (some ⟨g, i, none⟩)
  | 8, v, w => v = .int .i64 n
  | 9, v, w => v = .string ⟨(nameN n).toArray⟩
  | 10, v, w => v = .bool false
  | 11, v, w => v = .bool false
  | 12, v, w => v = .string ⟨S.toArray⟩
  | 13, v, w => v = .string ⟨A1.toArray⟩
  | 14, v, w => v = .bool true
  | 15, v, w => v = .bool false
  | 16, v, w => v = .bool false
  | 17, v, w => v = .bool false
  | 18, v, w => v = .string ⟨S.toArray⟩
  | 19, v, w => v = .string ⟨A2.toArray⟩
  | 20, v, w => v = .bool true
  | 21, v, w => v = .bool false
  | 22, v, w => v = .bool false
  | 23, v, w => v = .bool false
  | 24, v, w => v = .string ⟨S.toArray⟩
  | 25, v, w => v = .string ⟨A3.toArray⟩
  | 26, v, w => v = .bool true
  | 27, v, w => v = .bool false
  | 28, v, w => v = .bool false
  | 29, v, w => v = .bool false
  | 30, v, w => v = .string ⟨S.toArray⟩
  | 31, v, w => v = .string ⟨A4.toArray⟩
  | 32, v, w => v = .bool true
  | 33, v, w => v = .bool false
  | 34, v, w => v = .bool false
  | 35, v, w => v = .bool false
  | 36, v, w => v = .string ⟨S.toArray⟩
  | 37, v, w => v = .string ⟨A1.toArray⟩
  | 38, v, w => v = .string ⟨A5.toArray⟩
  | 39, v, w => v = .bool true
  | 40, v, w => v = .bool false
  | 41, v, w => v = .bool false
  | 42, v, w => v = .bool false
  | 43, v, w => v = .string ⟨S.toArray⟩
  | 44, v, w => v = .string ⟨A6.toArray⟩
  | 45, v, w => v = .bool true
  | 46, v, w => v = .bool false
  | 47, v, w => v = .bool false
  | 48, v, w => v = .bool false
  | 49, v, w => v = .string ⟨S.toArray⟩
  | 50, v, w => v = .bool true
  | 51, v, w => v = .bool false
  | 52, v, w => v = .bool false
  | 53, v, w => v = .bool false
  | 54, v, w => v = .string ⟨S.toArray⟩
  | 55, v, w => v = .string ⟨A7.toArray⟩
  | 56, v, w => v = .bool true
  | 57, v, w => v = .bool false
  | 58, v, w => v = .bool false
  | 59, v, w => v = .bool false
  | 60, v, w => v = .string ⟨S.toArray⟩
  | 61, v, w => v = .string ⟨A1.toArray⟩
  | 62, v, w => v = .string ⟨A8.toArray⟩
  | 63, v, w => v = .bool true
  | 64, v, w => v = .bool false
  | 65, v, w => v = .bool false
  | 66, v, w => v = .bool false
  | 67, v, w => v = .string ⟨S.toArray⟩
  | 68, v, w => v = .string ⟨A1.toArray⟩
  | 69, v, w => v = .string ⟨A9.toArray⟩
  | 70, v, w => v = .bool true
  | 71, v, w => v = .bool false
  | 72, v, w => v = .bool false
  | 73, v, w => v = .bool false
  | 74, v, w => v = .string ⟨S.toArray⟩
  | 75, v, w => v = .string ⟨B1.toArray⟩
  | 76, v, w => v = .bool true
  | 77, v, w => v = .bool false
  | 78, v, w => v = .bool false
  | _, _, _ => True
theorem mnmR_below (g i : Nat) (n : Int) (S A1 A2 A3 A4 A5 A6 A7 A8 A9 B1 : List UInt8) (w w' : World) (hb : Below w.heap.size w w') : ∀ j v, mnmR_val g i n S A1 A2 A3 A4 A5 A6 A7 A8 A9 B1 j v w → mnmR_val g i n S A1 A2 A3 A4 A5 A6 A7 A8 A9 B1 j v w' := by
  intro j v h
  match j, h with
  | 0, h => exact h
  | 1, h => exact h
  | 2, h => exact h
  | 3, h => exact h
  | 4, h => exact h
  | 5, h => exact h
  | 6, h => exact h
  | 7, h => exact h
  | 8, h => exact h
  | 9, h => exact h
  | 10, h => exact h
  | 11, h => exact h
  | 12, h => exact h
  | 13, h => exact h
  | 14, h => exact h
  | 15, h => exact h
  | 16, h => exact h
  | 17, h => exact h
  | 18, h => exact h
  | 19, h => exact h
  | 20, h => exact h
  | 21, h => exact h
  | 22, h => exact h
  | 23, h => exact h
  | 24, h => exact h
  | 25, h => exact h
  | 26, h => exact h
  | 27, h => exact h
  | 28, h => exact h
  | 29, h => exact h
  | 30, h => exact h
  | 31, h => exact h
  | 32, h => exact h
  | 33, h => exact h
  | 34, h => exact h
  | 35, h => exact h
  | 36, h => exact h
  | 37, h => exact h
  | 38, h => exact h
  | 39, h => exact h
  | 40, h => exact h
  | 41, h => exact h
  | 42, h => exact h
  | 43, h => exact h
  | 44, h => exact h
  | 45, h => exact h
  | 46, h => exact h
  | 47, h => exact h
  | 48, h => exact h
  | 49, h => exact h
  | 50, h => exact h
  | 51, h => exact h
  | 52, h => exact h
  | 53, h => exact h
  | 54, h => exact h
  | 55, h => exact h
  | 56, h => exact h
  | 57, h => exact h
  | 58, h => exact h
  | 59, h => exact h
  | 60, h => exact h
  | 61, h => exact h
  | 62, h => exact h
  | 63, h => exact h
  | 64, h => exact h
  | 65, h => exact h
  | 66, h => exact h
  | 67, h => exact h
  | 68, h => exact h
  | 69, h => exact h
  | 70, h => exact h
  | 71, h => exact h
  | 72, h => exact h
  | 73, h => exact h
  | 74, h => exact h
  | 75, h => exact h
  | 76, h => exact h
  | 77, h => exact h
  | 78, h => exact h
  | _ + 79, h => exact h
set_option maxRecDepth 100000 in
set_option maxHeartbeats 2000000 in
theorem mnmR_s0 {Fc : Fence} (hF : Wide Fc) {nC : Nat} (g i : Nat) (n : Int) (S A1 A2 A3 A4 A5 A6 A7 A8 A9 B1 : List UInt8) (Q : Exit → Act → World → Prop) (df : List Deferred) (w0 : World)
    (hS : w0.cell? ⟨g, i, none⟩ = some (.int .i64 n)) (hi : i < 12) (hW : StdW w0) (lS : S.length ≤ 100) (hA1 : [115, 46] ++ S = A1) (lA1 : A1.length ≤ 200) (hA2 : [115, 46, 48] ++ S = A2) (lA2 : A2.length ≤ 200) (hA3 : [115, 46, 43] ++ S = A3) (lA3 : A3.length ≤ 200) (hA4 : [83, 46] ++ S = A4) (lA4 : A4.length ≤ 200) (hA5 : A1 ++ [32] = A5) (lA5 : A5.length ≤ 200) (hA6 : [115, 46, 32] ++ S = A6) (lA6 : A6.length ≤ 200) (hA7 : [115] ++ S = A7) (lA7 : A7.length ≤ 200) (hA8 : A1 ++ [48, 48, 48, 48, 48, 48, 48, 48, 48, 48, 48, 48, 48, 48, 48, 48, 48, 48, 48, 48, 48, 48] = A8) (lA8 : A8.length ≤ 200) (hA9 : A1 ++ [95, 48] = A9) (lA9 : A9.length ≤ 200) (hB1 : [115, 46, 115, 46] ++ S = B1) (lB1 : B1.length ≤ 200)
    (x : Act) (w : World) (hB : Below w0.heap.size w0 w) (hdef : x.defers = df) (u1 : x.tmps.getD 1 undef = .slice (some ⟨g, 0, none⟩) 12 12) (u2 : x.tmps.getD 2 undef = .int .i64 (i : Nat)) (u3 : x.tmps.getD 3 undef = .string ⟨S.toArray⟩)
    : wpOpIn Fc nC Tryz.prog mnmR_ops Q 0 (fun a' w' => ∃ v, a' = x.put (some 17) v ∧ (v = .slice (some ⟨g, 0, none⟩) 12 12) ∧ Below w.heap.size w w') x w := by
  have ho : mnmR_ops[0]? = some mnmR_o0 := rfl
  simp only [Array.getD_eq_getD_getElem?] at u1 u2 u3
  refine wpOpIn_plain ho rfl (oper_inK hF.fn (fun K hK => ?_))
  clear ho
  rw [Oper.semAt_plain Fc _ _ (by intro c h; cases h)]
  simp only [mnmR_o0]
  go_simp
  exact hK _ _ ⟨_, act_putD x hdef _ _, rfl, Below.refl _ _⟩
set_option maxRecDepth 100000 in
set_option maxHeartbeats 2000000 in
theorem mnmR_s1 {Fc : Fence} (hF : Wide Fc) {nC : Nat} (g i : Nat) (n : Int) (S A1 A2 A3 A4 A5 A6 A7 A8 A9 B1 : List UInt8) (Q : Exit → Act → World → Prop) (df : List Deferred) (w0 : World)
    (hS : w0.cell? ⟨g, i, none⟩ = some (.int .i64 n)) (hi : i < 12) (hW : StdW w0) (lS : S.length ≤ 100) (hA1 : [115, 46] ++ S = A1) (lA1 : A1.length ≤ 200) (hA2 : [115, 46, 48] ++ S = A2) (lA2 : A2.length ≤ 200) (hA3 : [115, 46, 43] ++ S = A3) (lA3 : A3.length ≤ 200) (hA4 : [83, 46] ++ S = A4) (lA4 : A4.length ≤ 200) (hA5 : A1 ++ [32] = A5) (lA5 : A5.length ≤ 200) (hA6 : [115, 46, 32] ++ S = A6) (lA6 : A6.length ≤ 200) (hA7 : [115] ++ S = A7) (lA7 : A7.length ≤ 200) (hA8 : A1 ++ [48, 48, 48, 48, 48, 48, 48, 48, 48, 48, 48, 48, 48, 48, 48, 48, 48, 48, 48, 48, 48, 48] = A8) (lA8 : A8.length ≤ 200) (hA9 : A1 ++ [95, 48] = A9) (lA9 : A9.length ≤ 200) (hB1 : [115, 46, 115, 46] ++ S = B1) (lB1 : B1.length ≤ 200)
    (x : Act) (w : World) (hB : Below w0.heap.size w0 w) (hdef : x.defers = df) (u1 : x.tmps.getD 1 undef = .slice (some ⟨g, 0, none⟩) 12 12) (u2 : x.tmps.getD 2 undef = .int .i64 (i : Nat)) (u3 : x.tmps.getD 3 undef = .string ⟨S.toArray⟩)
    : wpOpIn Fc nC Tryz.prog mnmR_ops Q 1 (fun a' w' => ∃ v, a' = x.put (some 18) v ∧ (v = .int .i64 (i : Nat)) ∧ Below w.heap.size w w') x w := by
  have ho : mnmR_ops[1]? = some mnmR_o1 := rfl
  simp only [Array.getD_eq_getD_getElem?] at u1 u2 u3
  refine wpOpIn_plain ho rfl (oper_inK hF.fn (fun K hK => ?_))
  clear ho
  rw [Oper.semAt_plain Fc _ _ (by intro c h; cases h)]
  simp only [mnmR_o1]
  go_simp
  exact hK _ _ ⟨_, act_putD x hdef _ _, rfl, Below.refl _ _⟩
set_option maxRecDepth 100000 in
set_option maxHeartbeats 2000000 in
theorem mnmR_s2 {Fc : Fence} (hF : Wide Fc) {nC : Nat} (g i : Nat) (n : Int) (S A1 A2 A3 A4 A5 A6 A7 A8 A9 B1 : List UInt8) (Q : Exit → Act → World → Prop) (df : List Deferred) (w0 : World)
    (hS : w0.cell? ⟨g, i, none⟩ = some (.int .i64 n)) (hi : i < 12) (hW : StdW w0) (lS : S.length ≤ 100) (hA1 : [115, 46] ++ S = A1) (lA1 : A1.length ≤ 200) (hA2 : [115, 46, 48] ++ S = A2) (lA2 : A2.length ≤ 200) (hA3 : [115, 46, 43] ++ S = A3) (lA3 : A3.length ≤ 200) (hA4 : [83, 46] ++ S = A4) (lA4 : A4.length ≤ 200) (hA5 : A1 ++ [32] = A5) (lA5 : A5.length ≤ 200) (hA6 : [115, 46, 32] ++ S = A6) (lA6 : A6.length ≤ 200) (hA7 : [115] ++ S = A7) (lA7 : A7.length ≤ 200) (hA8 : A1 ++ [48, 48, 48, 48, 48, 48, 48, 48, 48, 48, 48, 48, 48, 48, 48, 48, 48, 48, 48, 48, 48, 48] = A8) (lA8 : A8.length ≤ 200) (hA9 : A1 ++ [95, 48] = A9) (lA9 : A9.length ≤ 200) (hB1 : [115, 46, 115, 46] ++ S = B1) (lB1 : B1.length ≤ 200)
    (x : Act) (w : World) (hB : Below w0.heap.size w0 w) (hdef : x.defers = df) (u1 : x.tmps.getD 1 undef = .slice (some ⟨g, 0, none⟩) 12 12) (u2 : x.tmps.getD 2 undef = .int .i64 (i : Nat)) (u3 : x.tmps.getD 3 undef = .string ⟨S.toArray⟩)
    (p0 : mnmR_val g i n S A1 A2 A3 A4 A5 A6 A7 A8 A9 B1 0 (x.tmps.getD 17 undef) w)
    (p1 : mnmR_val g i n S A1 A2 A3 A4 A5 A6 A7 A8 A9 B1 1 (x.tmps.getD 18 undef) w)
    : wpOpIn Fc nC Tryz.prog mnmR_ops Q 2 (fun a' w' => ∃ v, a' = x.put (some 19) v ∧ (v = .pointer (some ⟨g, i, none⟩)) ∧ Below w.heap.size w w') x w := by
  have ho : mnmR_ops[2]? = some mnmR_o2 := rfl
  simp only [Array.getD_eq_getD_getElem?] at u1 u2 u3
  have q0 : x.tmps.getD 17 undef = .slice (some ⟨g, 0, none⟩) 12 12 := p0
  have q1 : x.tmps.getD 18 undef = .int .i64 (i : Nat) := p1
  simp only [Array.getD_eq_getD_getElem?] at q0 q1
  have hi2 : ((i : Nat) : Int) < 12 := by omega
  refine wpOpIn_plain ho rfl (oper_inK hF.fn (fun K hK => ?_))
  clear ho
  rw [Oper.semAt_plain Fc _ _ (by intro c h; cases h)]
  simp only [mnmR_o2]
  go_simp
  exact hK _ _ ⟨_, act_putD x hdef _ _, rfl, Below.refl _ _⟩
set_option maxRecDepth 100000 in
set_option maxHeartbeats 2000000 in
theorem mnmR_s3 {Fc : Fence} (hF : Wide Fc) {nC : Nat} (g i : Nat) (n : Int) (S A1 A2 A3 A4 A5 A6 A7 A8 A9 B1 : List UInt8) (Q : Exit → Act → World → Prop) (df : List Deferred) (w0 : World)
    (hS : w0.cell? ⟨g, i, none⟩ = some (.int .i64 n)) (hi : i < 12) (hW : StdW w0) (lS : S.length ≤ 100) (hA1 : [115, 46] ++ S = A1) (lA1 : A1.length ≤ 200) (hA2 : [115, 46, 48] ++ S = A2) (lA2 : A2.length ≤ 200) (hA3 : [115, 46, 43] ++ S = A3) (lA3 : A3.length ≤ 200) (hA4 : [83, 46] ++ S = A4) (lA4 : A4.length ≤ 200) (hA5 : A1 ++ [32] = A5) (lA5 : A5.length ≤ 200) (hA6 : [115, 46, 32] ++ S = A6) (lA6 : A6.length ≤ 200) (hA7 : [115] ++ S = A7) (lA7 : A7.length ≤ 200) (hA8 : A1 ++ [48, 48, 48, 48, 48, 48, 48, 48, 48, 48, 48, 48, 48, 48, 48, 48, 48, 48, 48, 48, 48, 48] = A8) (lA8 : A8.length ≤ 200) (hA9 : A1 ++ [95, 48] = A9) (lA9 : A9.length ≤ 200) (hB1 : [115, 46, 115, 46] ++ S = B1) (lB1 : B1.length ≤ 200)
    (x : Act) (w : World) (hB : Below w0.heap.size w0 w) (hdef : x.defers = df) (u1 : x.tmps.getD 1 undef = .slice (some ⟨g, 0, none⟩) 12 12) (u2 : x.tmps.getD 2 undef = .int .i64 (i : Nat)) (u3 : x.tmps.getD 3 undef = .string ⟨S.toArray⟩)
    (p2 : mnmR_val g i n S A1 A2 A3 A4 A5 A6 A7 A8 A9 B1 2 (x.tmps.getD 19 undef) w)
    : wpOpIn Fc nC Tryz.prog mnmR_ops Q 3 (fun a' w' => ∃ v, a' = x.put (some 20) v ∧ (v = .int .i64 n) ∧ Below w.heap.size w w') x w := by
  have ho : mnmR_ops[3]? = some mnmR_o3 := rfl
  simp only [Array.getD_eq_getD_getElem?] at u1 u2 u3
  have q2 : x.tmps.getD 19 undef = .pointer (some ⟨g, i, none⟩) := p2
  simp only [Array.getD_eq_getD_getElem?] at q2
  have c0 := cell_thru hS hB
  refine wpOpIn_plain ho rfl (oper_inK hF.fn (fun K hK => ?_))
  clear ho
  rw [Oper.semAt_plain Fc _ _ (by intro c h; cases h)]
  simp only [mnmR_o3]
  go_simp
  exact hK _ _ ⟨_, act_putD x hdef _ _, rfl, Below.refl _ _⟩
set_option maxRecDepth 100000 in
set_option maxHeartbeats 2000000 in
theorem mnmR_s4 {Fc : Fence} (hF : Wide Fc) {nC : Nat} (g i : Nat) (n : Int) (S A1 A2 A3 A4 A5 A6 A7 A8 A9 B1 : List UInt8) (Q : Exit → Act → World → Prop) (df : List Deferred) (w0 : World)
    (hS : w0.cell? ⟨g, i, none⟩ = some (.int .i64 n)) (hi : i < 12) (hW : StdW w0) (lS : S.length ≤ 100) (hA1 : [115, 46] ++ S = A1) (lA1 : A1.length ≤ 200) (hA2 : [115, 46, 48] ++ S = A2) (lA2 : A2.length ≤ 200) (hA3 : [115, 46, 43] ++ S = A3) (lA3 : A3.length ≤ 200) (hA4 : [83, 46] ++ S = A4) (lA4 : A4.length ≤ 200) (hA5 : A1 ++ [32] = A5) (lA5 : A5.length ≤ 200) (hA6 : [115, 46, 32] ++ S = A6) (lA6 : A6.length ≤ 200) (hA7 : [115] ++ S = A7) (lA7 : A7.length ≤ 200) (hA8 : A1 ++ [48, 48, 48, 48, 48, 48, 48, 48, 48, 48, 48, 48, 48, 48, 48, 48, 48, 48, 48, 48, 48, 48] = A8) (lA8 : A8.length ≤ 200) (hA9 : A1 ++ [95, 48] = A9) (lA9 : A9.length ≤ 200) (hB1 : [115, 46, 115, 46] ++ S = B1) (lB1 : B1.length ≤ 200)
    (x : Act) (w : World) (hB : Below w0.heap.size w0 w) (hdef : x.defers = df) (u1 : x.tmps.getD 1 undef = .slice (some ⟨g, 0, none⟩) 12 12) (u2 : x.tmps.getD 2 undef = .int .i64 (i : Nat)) (u3 : x.tmps.getD 3 undef = .string ⟨S.toArray⟩)
    (p3 : mnmR_val g i n S A1 A2 A3 A4 A5 A6 A7 A8 A9 B1 3 (x.tmps.getD 20 undef) w)
    : wpOpIn Fc nC Tryz.prog mnmR_ops Q 4 (fun a' w' => ∃ v, a' = x.put (some 21) v ∧ (v = .string ⟨(nameN n).toArray⟩) ∧ Below w.heap.size w w') x w := by
  have ho : mnmR_ops[4]? = some mnmR_o4 := rfl
  simp only [Array.getD_eq_getD_getElem?] at u1 u2 u3
  have q3 : x.tmps.getD 20 undef = .int .i64 n := p3
  simp only [Array.getD_eq_getD_getElem?] at q3
  refine wpOpIn_plain ho rfl (oper_inK hF.fn (fun K hK => ?_))
  clear ho
  rw [Oper.semAt_plain Fc _ _ (by intro c h; cases h)]
  simp only [mnmR_o4]
  go_simp
  refine ⟨hF.deep, (hF.call (mname_any n w (.inr (hW.below hB)))).mono ?_⟩
  rintro e w' ⟨rfl, hb⟩
  exact hK _ _ ⟨_, act_putD x hdef _ _, rfl, hb⟩
set_option maxRecDepth 100000 in
set_option maxHeartbeats 2000000 in
theorem mnmR_s5 {Fc : Fence} (hF : Wide Fc) {nC : Nat} (g i : Nat) (n : Int) (S A1 A2 A3 A4 A5 A6 A7 A8 A9 B1 : List UInt8) (Q : Exit → Act → World → Prop) (df : List Deferred) (w0 : World)
    (hS : w0.cell? ⟨g, i, none⟩ = some (.int .i64 n)) (hi : i < 12) (hW : StdW w0) (lS : S.length ≤ 100) (hA1 : [115, 46] ++ S = A1) (lA1 : A1.length ≤ 200) (hA2 : [115, 46, 48] ++ S = A2) (lA2 : A2.length ≤ 200) (hA3 : [115, 46, 43] ++ S = A3) (lA3 : A3.length ≤ 200) (hA4 : [83, 46] ++ S = A4) (lA4 : A4.length ≤ 200) (hA5 : A1 ++ [32] = A5) (lA5 : A5.length ≤ 200) (hA6 : [115, 46, 32] ++ S = A6) (lA6 : A6.length ≤ 200) (hA7 : [115] ++ S = A7) (lA7 : A7.length ≤ 200) (hA8 : A1 ++ [48, 48, 48, 48, 48, 48, 48, 48, 48, 48, 48, 48, 48, 48, 48, 48, 48, 48, 48, 48, 48, 48] = A8) (lA8 : A8.length ≤ 200) (hA9 : A1 ++ [95, 48] = A9) (lA9 : A9.length ≤ 200) (hB1 : [115, 46, 115, 46] ++ S = B1) (lB1 : B1.length ≤ 200)
    (x : Act) (w : World) (hB : Below w0.heap.size w0 w) (hdef : x.defers = df) (u1 : x.tmps.getD 1 undef = .slice (some ⟨g, 0, none⟩) 12 12) (u2 : x.tmps.getD 2 undef = .int .i64 (i : Nat)) (u3 : x.tmps.getD 3 undef = .string ⟨S.toArray⟩)
    : wpOpIn Fc nC Tryz.prog mnmR_ops Q 5 (fun a' w' => ∃ v, a' = x.put (some 22) v ∧ (v = .slice (some ⟨g, 0, none⟩) 12 12) ∧ Below w.heap.size w w') x w := by
  have ho : mnmR_ops[5]? = some mnmR_o5 := rfl
  simp only [Array.getD_eq_getD_getElem?] at u1 u2 u3
  refine wpOpIn_plain ho rfl (oper_inK hF.fn (fun K hK => ?_))
  clear ho
  rw [Oper.semAt_plain Fc _ _ (by intro c h; cases h)]
  simp only [mnmR_o5]
  go_simp
  exact hK _ _ ⟨_, act_putD x hdef _ _, rfl, Below.refl _ _⟩
set_option maxRecDepth 100000 in
set_option maxHeartbeats 2000000 in
theorem mnmR_s6 {Fc : Fence} (hF : Wide Fc) {nC : Nat} (g i : Nat) (n : Int) (S A1 A2 A3 A4 A5 A6 A7 A8 A9 B1 : List UInt8) (Q : Exit → Act → World → Prop) (df : List Deferred) (w0 : World)
    (hS : w0.cell? ⟨g, i, none⟩ = some (.int .i64 n)) (hi : i < 12) (hW : StdW w0) (lS : S.length ≤ 100) (hA1 : [115, 46] ++ S = A1) (lA1 : A1.length ≤ 200) (hA2 : [115, 46, 48] ++ S = A2) (lA2 : A2.length ≤ 200) (hA3 : [115, 46, 43] ++ S = A3) (lA3 : A3.length ≤ 200) (hA4 : [83, 46] ++ S = A4) (lA4 : A4.length ≤ 200) (hA5 : A1 ++ [32] = A5) (lA5 : A5.length ≤ 200) (hA6 : [115, 46, 32] ++ S = A6) (lA6 : A6.length ≤ 200) (hA7 : [115] ++ S = A7) (lA7 : A7.length ≤ 200) (hA8 : A1 ++ [48, 48, 48, 48, 48, 48, 48, 48, 48, 48, 48, 48, 48, 48, 48, 48, 48, 48, 48, 48, 48, 48] = A8) (lA8 : A8.length ≤ 200) (hA9 : A1 ++ [95, 48] = A9) (lA9 : A9.length ≤ 200) (hB1 : [115, 46, 115, 46] ++ S = B1) (lB1 : B1.length ≤ 200)
    (x : Act) (w : World) (hB : Below w0.heap.size w0 w) (hdef : x.defers = df) (u1 : x.tmps.getD 1 undef = .slice (some ⟨g, 0, none⟩) 12 12) (u2 : x.tmps.getD 2 undef = .int .i64 (i : Nat)) (u3 : x.tmps.getD 3 undef = .string ⟨S.toArray⟩)
    : wpOpIn Fc nC Tryz.prog mnmR_ops Q 6 (fun a' w' => ∃ v, a' = x.put (some 23) v ∧ (v = .int .i64 (i : Nat)) ∧ Below w.heap.size w w') x w := by
  have ho : mnmR_ops[6]? = some mnmR_o6 := rfl
  simp only [Array.getD_eq_getD_getElem?] at u1 u2 u3
  refine wpOpIn_plain ho rfl (oper_inK hF.fn (fun K hK => ?_))
  clear ho
  rw [Oper.semAt_plain Fc _ _ (by intro c h; cases h)]
  simp only [mnmR_o6]
  go_simp
  exact hK _ _ ⟨_, act_putD x hdef _ _, rfl, Below.refl _ _⟩
set_option maxRecDepth 100000 in
set_option maxHeartbeats 2000000 in
theorem mnmR_s7 {Fc : Fence} (hF : Wide Fc) {nC : Nat} (g i : Nat) (n : Int) (S A1 A2 A3 A4 A5 A6 A7 A8 A9 B1 : List UInt8) (Q : Exit → Act → World → Prop) (df : List Deferred) (w0 : World)
    (hS : w0.cell? ⟨g, i, none⟩ = some (.int .i64 n)) (hi : i < 12) (hW : StdW w0) (lS : S.length ≤ 100) (hA1 : [115, 46] ++ S = A1) (lA1 : A1.length ≤ 200) (hA2 : [115, 46, 48] ++ S = A2) (lA2 : A2.length ≤ 200) (hA3 : [115, 46, 43] ++ S = A3) (lA3 : A3.length ≤ 200) (hA4 : [83, 46] ++ S = A4) (lA4 : A4.length ≤ 200) (hA5 : A1 ++ [32] = A5) (lA5 : A5.length ≤ 200) (hA6 : [115, 46, 32] ++ S = A6) (lA6 : A6.length ≤ 200) (hA7 : [115] ++ S = A7) (lA7 : A7.length ≤ 200) (hA8 : A1 ++ [48, 48, 48, 48, 48, 48, 48, 48, 48, 48, 48, 48, 48, 48, 48, 48, 48, 48, 48, 48, 48, 48] = A8) (lA8 : A8.length ≤ 200) (hA9 : A1 ++ [95, 48] = A9) (lA9 : A9.length ≤ 200) (hB1 : [115, 46, 115, 46] ++ S = B1) (lB1 : B1.length ≤ 200)
    (x : Act) (w : World) (hB : Below w0.heap.size w0 w) (hdef : x.defers = df) (u1 : x.tmps.getD 1 undef = .slice (some ⟨g, 0, none⟩) 12 12) (u2 : x.tmps.getD 2 undef = .int .i64 (i : Nat)) (u3 : x.tmps.getD 3 undef = .string ⟨S.toArray⟩)
    (p5 : mnmR_val g i n S A1 A2 A3 A4 A5 A6 A7 A8 A9 B1 5 (x.tmps.getD 22 undef) w)
    (p6 : mnmR_val g i n S A1 A2 A3 A4 A5 A6 A7 A8 A9 B1 6 (x.tmps.getD 23 undef) w)
    : wpOpIn Fc nC Tryz.prog mnmR_ops Q 7 (fun a' w' => ∃ v, a' = x.put (some 24) v ∧ (v = .pointer (some ⟨g, i, none⟩)) ∧ Below w.heap.size w w') x w := by
  have ho : mnmR_ops[7]? = some mnmR_o7 := rfl
  simp only [Array.getD_eq_getD_getElem?] at u1 u2 u3
  have q5 : x.tmps.getD 22 undef = .slice (some ⟨g, 0, none⟩) 12 12 := p5
  have q6 : x.tmps.getD 23 undef = .int .i64 (i : Nat) := p6
  simp only [Array.getD_eq_getD_getElem?] at q5 q6
  have hi2 : ((i : Nat) : Int) < 12 := by omega
  refine wpOpIn_plain ho rfl (oper_inK hF.fn (fun K hK => ?_))
  clear ho
  rw [Oper.semAt_plain Fc _ _ (by intro c h; cases h)]
  simp only [mnmR_o7]
  go_simp
  exact hK _ _ ⟨_, act_putD x hdef _ _, rfl, Below.refl _ _⟩
set_option maxRecDepth 100000 in
set_option maxHeartbeats 2000000 in
theorem mnmR_s8 {Fc : Fence} (hF : Wide Fc) {nC : Nat} (g i : Nat) (n : Int) (S A1 A2 A3 A4 A5 A6 A7 A8 A9 B1 : List UInt8) (Q : Exit → Act → World → Prop) (df : List Deferred) (w0 : World)
    (hS : w0.cell? ⟨g, i, none⟩ = some (.int .i64 n)) (hi : i < 12) (hW : StdW w0) (lS : S.length ≤ 100) (hA1 : [115, 46] ++ S = A1) (lA1 : A1.length ≤ 200) (hA2 : [115, 46, 48] ++ S = A2) (lA2 : A2.length ≤ 200) (hA3 : [115, 46, 43] ++ S = A3) (lA3 : A3.length ≤ 200) (hA4 : [83, 46] ++ S = A4) (lA4 : A4.length ≤ 200) (hA5 : A1 ++ [32] = A5) (lA5 : A5.length ≤ 200) (hA6 : [115, 46, 32] ++ S = A6) (lA6 : A6.length ≤ 200) (hA7 : [115] ++ S = A7) (lA7 : A7.length ≤ 200) (hA8 : A1 ++ [48, 48, 48, 48, 48, 48, 48, 48, 48, 48, 48, 48, 48, 48, 48, 48, 48, 48, 48, 48, 48, 48] = A8) (lA8 : A8.length ≤ 200) (hA9 : A1 ++ [95, 48] = A9) (lA9 : A9.length ≤ 200) (hB1 : [115, 46, 115, 46] ++ S = B1) (lB1 : B1.length ≤ 200)
    (x : Act) (w : World) (hB : Below w0.heap.size w0 w) (hdef : x.defers = df) (u1 : x.tmps.getD 1 undef = .slice (some ⟨g, 0, none⟩) 12 12) (u2 : x.tmps.getD 2 undef = .int .i64 (i : Nat)) (u3 : x.tmps.getD 3 undef = .string ⟨S.toArray⟩)
    (p7 : mnmR_val g i n S A1 A2 A3 A4 A5 A6 A7 A8 A9 B1 7 (x.tmps.getD 24 undef) w)
    : wpOpIn Fc nC Tryz.prog mnmR_ops Q 8 (fun a' w' => ∃ v, a' = x.put (some 25) v ∧ (v = .int .i64 n) ∧ Below w.heap.size w w') x w := by
  have ho : mnmR_ops[8]? = some mnmR_o8 := rfl
  simp only [Array.getD_eq_getD_getElem?] at u1 u2 u3
  have q7 : x.tmps.getD 24 undef = .pointer (some ⟨g, i, none⟩) := p7
  simp only [Array.getD_eq_getD_getElem?] at q7
  have c0 := cell_thru hS hB
  refine wpOpIn_plain ho rfl (oper_inK hF.fn (fun K hK => ?_))
  clear ho
  rw [Oper.semAt_plain Fc _ _ (by intro c h; cases h)]
  simp only [mnmR_o8]
  go_simp
  exact hK _ _ ⟨_, act_putD x hdef _ _, rfl, Below.refl _ _⟩
set_option maxRecDepth 100000 in
set_option maxHeartbeats 2000000 in
theorem mnmR_s9 {Fc : Fence} (hF : Wide Fc) {nC : Nat} (g i : Nat) (n : Int) (S A1 A2 A3 A4 A5 A6 A7 A8 A9 B1 : List UInt8) (Q : Exit → Act → World → Prop) (df : List Deferred) (w0 : World)
    (hS : w0.cell? ⟨g, i, none⟩ = some (.int .i64 n)) (hi : i < 12) (hW : StdW w0) (lS : S.length ≤ 100) (hA1 : [115, 46] ++ S = A1) (lA1 : A1.length ≤ 200) (hA2 : [115, 46, 48] ++ S = A2) (lA2 : A2.length ≤ 200) (hA3 : [115, 46, 43] ++ S = A3) (lA3 : A3.length ≤ 200) (hA4 : [83, 46] ++ S = A4) (lA4 : A4.length ≤ 200) (hA5 : A1 ++ [32] = A5) (lA5 : A5.length ≤ 200) (hA6 : [115, 46, 32] ++ S = A6) (lA6 : A6.length ≤ 200) (hA7 : [115] ++ S = A7) (lA7 : A7.length ≤ 200) (hA8 : A1 ++ [48, 48, 48, 48, 48, 48, 48, 48, 48, 48, 48, 48, 48, 48, 48, 48, 48, 48, 48, 48, 48, 48] = A8) (lA8 : A8.length ≤ 200) (hA9 : A1 ++ [95, 48] = A9) (lA9 : A9.length ≤ 200) (hB1 : [115, 46, 115, 46] ++ S = B1) (lB1 : B1.length ≤ 200)
    (x : Act) (w : World) (hB : Below w0.heap.size w0 w) (hdef : x.defers = df) (u1 : x.tmps.getD 1 undef = .slice (some ⟨g, 0, none⟩) 12 12) (u2 : x.tmps.getD 2 undef = .int .i64 (i : Nat)) (u3 : x.tmps.getD 3 undef = .string ⟨S.toArray⟩)
    (p8 : mnmR_val g i n S A1 A2 A3 A4 A5 A6 A7 A8 A9 B1 8 (x.tmps.getD 25 undef) w)
    : wpOpIn Fc nC Tryz.prog mnmR_ops Q 9 (fun a' w' => ∃ v, a' = x.put (some 26) v ∧ (v = .string ⟨(nameN n).toArray⟩) ∧ Below w.heap.size w w') x w := by
  have ho : mnmR_ops[9]? = some mnmR_o9 := rfl
  simp only [Array.getD_eq_getD_getElem?] at u1 u2 u3
  have q8 : x.tmps.getD 25 undef = .int .i64 n := p8
  simp only [Array.getD_eq_getD_getElem?] at q8
  refine wpOpIn_plain ho rfl (oper_inK hF.fn (fun K hK => ?_))
  clear ho
  rw [Oper.semAt_plain Fc _ _ (by intro c h; cases h)]
  simp only [mnmR_o9]
  go_simp
  refine ⟨hF.deep, (hF.call (refName_any n w (.inr (hW.below hB)))).mono ?_⟩
  rintro e w' ⟨rfl, hb⟩
  exact hK _ _ ⟨_, act_putD x hdef _ _, rfl, hb⟩
set_option maxRecDepth 100000 in
set_option maxHeartbeats 2000000 in
theorem mnmR_s10 {Fc : Fence} (hF : Wide Fc) {nC : Nat} (g i : Nat) (n : Int) (S A1 A2 A3 A4 A5 A6 A7 A8 A9 B1 : List UInt8) (Q : Exit → Act → World → Prop) (df : List Deferred) (w0 : World)
    (hS : w0.cell? ⟨g, i, none⟩ = some (.int .i64 n)) (hi : i < 12) (hW : StdW w0) (lS : S.length ≤ 100) (hA1 : [115, 46] ++ S = A1) (lA1 : A1.length ≤ 200) (hA2 : [115, 46, 48] ++ S = A2) (lA2 : A2.length ≤ 200) (hA3 : [115, 46, 43] ++ S = A3) (lA3 : A3.length ≤ 200) (hA4 : [83, 46] ++ S = A4) (lA4 : A4.length ≤ 200) (hA5 : A1 ++ [32] = A5) (lA5 : A5.length ≤ 200) (hA6 : [115, 46, 32] ++ S = A6) (lA6 : A6.length ≤ 200) (hA7 : [115] ++ S = A7) (lA7 : A7.length ≤ 200) (hA8 : A1 ++ [48, 48, 48, 48, 48, 48, 48, 48, 48, 48, 48, 48, 48, 48, 48, 48, 48, 48, 48, 48, 48, 48] = A8) (lA8 : A8.length ≤ 200) (hA9 : A1 ++ [95, 48] = A9) (lA9 : A9.length ≤ 200) (hB1 : [115, 46, 115, 46] ++ S = B1) (lB1 : B1.length ≤ 200)
    (x : Act) (w : World) (hB : Below w0.heap.size w0 w) (hdef : x.defers = df) (u1 : x.tmps.getD 1 undef = .slice (some ⟨g, 0, none⟩) 12 12) (u2 : x.tmps.getD 2 undef = .int .i64 (i : Nat)) (u3 : x.tmps.getD 3 undef = .string ⟨S.toArray⟩)
    (p4 : mnmR_val g i n S A1 A2 A3 A4 A5 A6 A7 A8 A9 B1 4 (x.tmps.getD 21 undef) w)
    (p9 : mnmR_val g i n S A1 A2 A3 A4 A5 A6 A7 A8 A9 B1 9 (x.tmps.getD 26 undef) w)
    : wpOpIn Fc nC Tryz.prog mnmR_ops Q 10 (fun a' w' => ∃ v, a' = x.put (some 27) v ∧ (v = .bool false) ∧ Below w.heap.size w w') x w := by
  have ho : mnmR_ops[10]? = some mnmR_o10 := rfl
  simp only [Array.getD_eq_getD_getElem?] at u1 u2 u3
  have q4 : x.tmps.getD 21 undef = .string ⟨(nameN n).toArray⟩ := p4
  have q9 : x.tmps.getD 26 undef = .string ⟨(nameN n).toArray⟩ := p9
  simp only [Array.getD_eq_getD_getElem?] at q4 q9
  refine wpOpIn_plain ho rfl (oper_inK hF.fn (fun K hK => ?_))
  clear ho
  rw [Oper.semAt_plain Fc _ _ (by intro c h; cases h)]
  simp only [mnmR_o10]
  go_simp
  exact hK _ _ ⟨_, act_putD x hdef _ _, rfl, Below.refl _ _⟩
set_option maxRecDepth 100000 in
set_option maxHeartbeats 2000000 in
theorem mnmR_s11 {Fc : Fence} (hF : Wide Fc) {nC : Nat} (g i : Nat) (n : Int) (S A1 A2 A3 A4 A5 A6 A7 A8 A9 B1 : List UInt8) (Q : Exit → Act → World → Prop) (df : List Deferred) (w0 : World)
    (hS : w0.cell? ⟨g, i, none⟩ = some (.int .i64 n)) (hi : i < 12) (hW : StdW w0) (lS : S.length ≤ 100) (hA1 : [115, 46] ++ S = A1) (lA1 : A1.length ≤ 200) (hA2 : [115, 46, 48] ++ S = A2) (lA2 : A2.length ≤ 200) (hA3 : [115, 46, 43] ++ S = A3) (lA3 : A3.length ≤ 200) (hA4 : [83, 46] ++ S = A4) (lA4 : A4.length ≤ 200) (hA5 : A1 ++ [32] = A5) (lA5 : A5.length ≤ 200) (hA6 : [115, 46, 32] ++ S = A6) (lA6 : A6.length ≤ 200) (hA7 : [115] ++ S = A7) (lA7 : A7.length ≤ 200) (hA8 : A1 ++ [48, 48, 48, 48, 48, 48, 48, 48, 48, 48, 48, 48, 48, 48, 48, 48, 48, 48, 48, 48, 48, 48] = A8) (lA8 : A8.length ≤ 200) (hA9 : A1 ++ [95, 48] = A9) (lA9 : A9.length ≤ 200) (hB1 : [115, 46, 115, 46] ++ S = B1) (lB1 : B1.length ≤ 200)
    (x : Act) (w : World) (hB : Below w0.heap.size w0 w) (hdef : x.defers = df) (u1 : x.tmps.getD 1 undef = .slice (some ⟨g, 0, none⟩) 12 12) (u2 : x.tmps.getD 2 undef = .int .i64 (i : Nat)) (u3 : x.tmps.getD 3 undef = .string ⟨S.toArray⟩)
    (p10 : mnmR_val g i n S A1 A2 A3 A4 A5 A6 A7 A8 A9 B1 10 (x.tmps.getD 27 undef) w)
    : wpOpIn Fc nC Tryz.prog mnmR_ops Q 11 (fun a' w' => ∃ v, a' = x.put (some 28) v ∧ (v = .bool false) ∧ Below w.heap.size w w') x w := by
  have ho : mnmR_ops[11]? = some mnmR_o11 := rfl
  simp only [Array.getD_eq_getD_getElem?] at u1 u2 u3
  have q10 : x.tmps.getD 27 undef = .bool false := p10
  simp only [Array.getD_eq_getD_getElem?] at q10
  refine wpOpIn_plain ho rfl (oper_inK hF.fn (fun K hK => ?_))
  clear ho
  rw [Oper.semAt_plain Fc _ _ (by intro c h; cases h)]
  simp only [mnmR_o11]
  go_simp
  exact hK _ _ ⟨_, act_putD x hdef _ _, rfl, Below.refl _ _⟩
set_option maxRecDepth 100000 in
set_option maxHeartbeats 2000000 in
theorem mnmR_s12 {Fc : Fence} (hF : Wide Fc) {nC : Nat} (g i : Nat) (n : Int) (S A1 A2 A3 A4 A5 A6 A7 A8 A9 B1 : List UInt8) (Q : Exit → Act → World → Prop) (df : List Deferred) (w0 : World)
    (hS : w0.cell? ⟨g, i, none⟩ = some (.int .i64 n)) (hi : i < 12) (hW : StdW w0) (lS : S.length ≤ 100) (hA1 : [115, 46] ++ S = A1) (lA1 : A1.length ≤ 200) (hA2 : [115, 46, 48] ++ S = A2) (lA2 : A2.length ≤ 200) (hA3 : [115, 46, 43] ++ S = A3) (lA3 : A3.length ≤ 200) (hA4 : [83, 46] ++ S = A4) (lA4 : A4.length ≤ 200) (hA5 : A1 ++ [32] = A5) (lA5 : A5.length ≤ 200) (hA6 : [115, 46, 32] ++ S = A6) (lA6 : A6.length ≤ 200) (hA7 : [115] ++ S = A7) (lA7 : A7.length ≤ 200) (hA8 : A1 ++ [48, 48, 48, 48, 48, 48, 48, 48, 48, 48, 48, 48, 48, 48, 48, 48, 48, 48, 48, 48, 48, 48] = A8) (lA8 : A8.length ≤ 200) (hA9 : A1 ++ [95, 48] = A9) (lA9 : A9.length ≤ 200) (hB1 : [115, 46, 115, 46] ++ S = B1) (lB1 : B1.length ≤ 200)
    (x : Act) (w : World) (hB : Below w0.heap.size w0 w) (hdef : x.defers = df) (u1 : x.tmps.getD 1 undef = .slice (some ⟨g, 0, none⟩) 12 12) (u2 : x.tmps.getD 2 undef = .int .i64 (i : Nat)) (u3 : x.tmps.getD 3 undef = .string ⟨S.toArray⟩)
    (p11 : mnmR_val g i n S A1 A2 A3 A4 A5 A6 A7 A8 A9 B1 11 (x.tmps.getD 28 undef) w)
    : wpOpIn Fc nC Tryz.prog mnmR_ops Q 12 (fun a' w' => ∃ v, a' = x.put (some 29) v ∧ (v = .string ⟨S.toArray⟩) ∧ Below w.heap.size w w') x w := by
  have ho : mnmR_ops[12]? = some mnmR_o12 := rfl
  simp only [Array.getD_eq_getD_getElem?] at u1 u2 u3
  have q11 : x.tmps.getD 28 undef = .bool false := p11
  simp only [Array.getD_eq_getD_getElem?] at q11
  have e11 : (mnmR_ops[11]?.bind fun x => x.dst) = some 28 := rfl
  have g11 := get_someT q11 (fun h => by cases h)
  refine wpOpIn_stepT hF ho (fun K hK => ?_)
  clear ho
  rw [Oper.semAt_plain Fc _ _ (by intro c h; cases h)]
  simp only [mnmR_o12]
  go_simp
  exact hK _ _ ⟨_, act_putD x hdef _ _, rfl, Below.refl _ _⟩
set_option maxRecDepth 100000 in
set_option maxHeartbeats 2000000 in
theorem mnmR_s13 {Fc : Fence} (hF : Wide Fc) {nC : Nat} (g i : Nat) (n : Int) (S A1 A2 A3 A4 A5 A6 A7 A8 A9 B1 : List UInt8) (Q : Exit → Act → World → Prop) (df : List Deferred) (w0 : World)
    (hS : w0.cell? ⟨g, i, none⟩ = some (.int .i64 n)) (hi : i < 12) (hW : StdW w0) (lS : S.length ≤ 100) (hA1 : [115, 46] ++ S = A1) (lA1 : A1.length ≤ 200) (hA2 : [115, 46, 48] ++ S = A2) (lA2 : A2.length ≤ 200) (hA3 : [115, 46, 43] ++ S = A3) (lA3 : A3.length ≤ 200) (hA4 : [83, 46] ++ S = A4) (lA4 : A4.length ≤ 200) (hA5 : A1 ++ [32] = A5) (lA5 : A5.length ≤ 200) (hA6 : [115, 46, 32] ++ S = A6) (lA6 : A6.length ≤ 200) (hA7 : [115] ++ S = A7) (lA7 : A7.length ≤ 200) (hA8 : A1 ++ [48, 48, 48, 48, 48, 48, 48, 48, 48, 48, 48, 48, 48, 48, 48, 48, 48, 48, 48, 48, 48, 48] = A8) (lA8 : A8.length ≤ 200) (hA9 : A1 ++ [95, 48] = A9) (lA9 : A9.length ≤ 200) (hB1 : [115, 46, 115, 46] ++ S = B1) (lB1 : B1.length ≤ 200)
    (x : Act) (w : World) (hB : Below w0.heap.size w0 w) (hdef : x.defers = df) (u1 : x.tmps.getD 1 undef = .slice (some ⟨g, 0, none⟩) 12 12) (u2 : x.tmps.getD 2 undef = .int .i64 (i : Nat)) (u3 : x.tmps.getD 3 undef = .string ⟨S.toArray⟩)
    (p12 : mnmR_val g i n S A1 A2 A3 A4 A5 A6 A7 A8 A9 B1 12 (x.tmps.getD 29 undef) w)
    (p11 : mnmR_val g i n S A1 A2 A3 A4 A5 A6 A7 A8 A9 B1 11 (x.tmps.getD 28 undef) w)
    : wpOpIn Fc nC Tryz.prog mnmR_ops Q 13 (fun a' w' => ∃ v, a' = x.put (some 30) v ∧ (v = .string ⟨A1.toArray⟩) ∧ Below w.heap.size w w') x w := by
  have ho : mnmR_ops[13]? = some mnmR_o13 := rfl
  simp only [Array.getD_eq_getD_getElem?] at u1 u2 u3
  have q12 : x.tmps.getD 29 undef = .string ⟨S.toArray⟩ := p12
  have q11 : x.tmps.getD 28 undef = .bool false := p11
  simp only [Array.getD_eq_getD_getElem?] at q12 q11
  have e11 : (mnmR_ops[11]?.bind fun x => x.dst) = some 28 := rfl
  have g11 := get_someT q11 (fun h => by cases h)
  have hl := (show ¬ 9223372036854775807 < 2 + S.length by omega)
  refine wpOpIn_stepT hF ho (fun K hK => ?_)
  clear ho
  rw [Oper.semAt_plain Fc _ _ (by intro c h; cases h)]
  simp only [mnmR_o13]
  go_simp
  exact hK _ _ ⟨_, act_putD x hdef _ _, by rw [← hA1]; exact str_join [115, 46] S, Below.refl _ _⟩
set_option maxRecDepth 100000 in
set_option maxHeartbeats 2000000 in
theorem mnmR_s14 {Fc : Fence} (hF : Wide Fc) {nC : Nat} (g i : Nat) (n : Int) (S A1 A2 A3 A4 A5 A6 A7 A8 A9 B1 : List UInt8) (Q : Exit → Act → World → Prop) (df : List Deferred) (w0 : World)
    (hS : w0.cell? ⟨g, i, none⟩ = some (.int .i64 n)) (hi : i < 12) (hW : StdW w0) (lS : S.length ≤ 100) (hA1 : [115, 46] ++ S = A1) (lA1 : A1.length ≤ 200) (hA2 : [115, 46, 48] ++ S = A2) (lA2 : A2.length ≤ 200) (hA3 : [115, 46, 43] ++ S = A3) (lA3 : A3.length ≤ 200) (hA4 : [83, 46] ++ S = A4) (lA4 : A4.length ≤ 200) (hA5 : A1 ++ [32] = A5) (lA5 : A5.length ≤ 200) (hA6 : [115, 46, 32] ++ S = A6) (lA6 : A6.length ≤ 200) (hA7 : [115] ++ S = A7) (lA7 : A7.length ≤ 200) (hA8 : A1 ++ [48, 48, 48, 48, 48, 48, 48, 48, 48, 48, 48, 48, 48, 48, 48, 48, 48, 48, 48, 48, 48, 48] = A8) (lA8 : A8.length ≤ 200) (hA9 : A1 ++ [95, 48] = A9) (lA9 : A9.length ≤ 200) (hB1 : [115, 46, 115, 46] ++ S = B1) (lB1 : B1.length ≤ 200)
    (x : Act) (w : World) (hB : Below w0.heap.size w0 w) (hdef : x.defers = df) (u1 : x.tmps.getD 1 undef = .slice (some ⟨g, 0, none⟩) 12 12) (u2 : x.tmps.getD 2 undef = .int .i64 (i : Nat)) (u3 : x.tmps.getD 3 undef = .string ⟨S.toArray⟩)
    (p13 : mnmR_val g i n S A1 A2 A3 A4 A5 A6 A7 A8 A9 B1 13 (x.tmps.getD 30 undef) w)
    (p11 : mnmR_val g i n S A1 A2 A3 A4 A5 A6 A7 A8 A9 B1 11 (x.tmps.getD 28 undef) w)
    : wpOpIn Fc nC Tryz.prog mnmR_ops Q 14 (fun a' w' => ∃ v, a' = x.put (some 31) v ∧ (v = .bool true) ∧ Below w.heap.size w w') x w := by
  have ho : mnmR_ops[14]? = some mnmR_o14 := rfl
  simp only [Array.getD_eq_getD_getElem?] at u1 u2 u3
  have q13 : x.tmps.getD 30 undef = .string ⟨A1.toArray⟩ := p13
  have q11 : x.tmps.getD 28 undef = .bool false := p11
  simp only [Array.getD_eq_getD_getElem?] at q13 q11
  have e11 : (mnmR_ops[11]?.bind fun x => x.dst) = some 28 := rfl
  have g11 := get_someT q11 (fun h => by cases h)
  refine wpOpIn_stepT hF ho (fun K hK => ?_)
  clear ho
  rw [Oper.semAt_plain Fc _ _ (by intro c h; cases h)]
  simp only [mnmR_o14]
  go_simp
  refine ⟨hF.deep, (hF.call (name25_any A1 w (by omega) (hW.below hB))).mono ?_⟩
  rintro e w' ⟨rfl, hb⟩
  exact hK _ _ ⟨_, act_putD x hdef _ _, rfl, hb⟩
set_option maxRecDepth 100000 in
set_option maxHeartbeats 2000000 in
theorem mnmR_s15 {Fc : Fence} (hF : Wide Fc) {nC : Nat} (g i : Nat) (n : Int) (S A1 A2 A3 A4 A5 A6 A7 A8 A9 B1 : List UInt8) (Q : Exit → Act → World → Prop) (df : List Deferred) (w0 : World)
    (hS : w0.cell? ⟨g, i, none⟩ = some (.int .i64 n)) (hi : i < 12) (hW : StdW w0) (lS : S.length ≤ 100) (hA1 : [115, 46] ++ S = A1) (lA1 : A1.length ≤ 200) (hA2 : [115, 46, 48] ++ S = A2) (lA2 : A2.length ≤ 200) (hA3 : [115, 46, 43] ++ S = A3) (lA3 : A3.length ≤ 200) (hA4 : [83, 46] ++ S = A4) (lA4 : A4.length ≤ 200) (hA5 : A1 ++ [32] = A5) (lA5 : A5.length ≤ 200) (hA6 : [115, 46, 32] ++ S = A6) (lA6 : A6.length ≤ 200) (hA7 : [115] ++ S = A7) (lA7 : A7.length ≤ 200) (hA8 : A1 ++ [48, 48, 48, 48, 48, 48, 48, 48, 48, 48, 48, 48, 48, 48, 48, 48, 48, 48, 48, 48, 48, 48] = A8) (lA8 : A8.length ≤ 200) (hA9 : A1 ++ [95, 48] = A9) (lA9 : A9.length ≤ 200) (hB1 : [115, 46, 115, 46] ++ S = B1) (lB1 : B1.length ≤ 200)
    (x : Act) (w : World) (hB : Below w0.heap.size w0 w) (hdef : x.defers = df) (u1 : x.tmps.getD 1 undef = .slice (some ⟨g, 0, none⟩) 12 12) (u2 : x.tmps.getD 2 undef = .int .i64 (i : Nat)) (u3 : x.tmps.getD 3 undef = .string ⟨S.toArray⟩)
    (p14 : mnmR_val g i n S A1 A2 A3 A4 A5 A6 A7 A8 A9 B1 14 (x.tmps.getD 31 undef) w)
    (p11 : mnmR_val g i n S A1 A2 A3 A4 A5 A6 A7 A8 A9 B1 11 (x.tmps.getD 28 undef) w)
    : wpOpIn Fc nC Tryz.prog mnmR_ops Q 15 (fun a' w' => ∃ v, a' = x.put (some 32) v ∧ (v = .bool false) ∧ Below w.heap.size w w') x w := by
  have ho : mnmR_ops[15]? = some mnmR_o15 := rfl
  simp only [Array.getD_eq_getD_getElem?] at u1 u2 u3
  have q14 : x.tmps.getD 31 undef = .bool true := p14
  have q11 : x.tmps.getD 28 undef = .bool false := p11
  simp only [Array.getD_eq_getD_getElem?] at q14 q11
  have e11 : (mnmR_ops[11]?.bind fun x => x.dst) = some 28 := rfl
  have g11 := get_someT q11 (fun h => by cases h)
  refine wpOpIn_stepT hF ho (fun K hK => ?_)
  clear ho
  rw [Oper.semAt_plain Fc _ _ (by intro c h; cases h)]
  simp only [mnmR_o15]
  go_simp
  exact hK _ _ ⟨_, act_putD x hdef _ _, rfl, Below.refl _ _⟩
set_option maxRecDepth 100000 in
set_option maxHeartbeats 2000000 in
theorem mnmR_s16 {Fc : Fence} (hF : Wide Fc) {nC : Nat} (g i : Nat) (n : Int) (S A1 A2 A3 A4 A5 A6 A7 A8 A9 B1 : List UInt8) (Q : Exit → Act → World → Prop) (df : List Deferred) (w0 : World)
    (hS : w0.cell? ⟨g, i, none⟩ = some (.int .i64 n)) (hi : i < 12) (hW : StdW w0) (lS : S.length ≤ 100) (hA1 : [115, 46] ++ S = A1) (lA1 : A1.length ≤ 200) (hA2 : [115, 46, 48] ++ S = A2) (lA2 : A2.length ≤ 200) (hA3 : [115, 46, 43] ++ S = A3) (lA3 : A3.length ≤ 200) (hA4 : [83, 46] ++ S = A4) (lA4 : A4.length ≤ 200) (hA5 : A1 ++ [32] = A5) (lA5 : A5.length ≤ 200) (hA6 : [115, 46, 32] ++ S = A6) (lA6 : A6.length ≤ 200) (hA7 : [115] ++ S = A7) (lA7 : A7.length ≤ 200) (hA8 : A1 ++ [48, 48, 48, 48, 48, 48, 48, 48, 48, 48, 48, 48, 48, 48, 48, 48, 48, 48, 48, 48, 48, 48] = A8) (lA8 : A8.length ≤ 200) (hA9 : A1 ++ [95, 48] = A9) (lA9 : A9.length ≤ 200) (hB1 : [115, 46, 115, 46] ++ S = B1) (lB1 : B1.length ≤ 200)
    (x : Act) (w : World) (hB : Below w0.heap.size w0 w) (hdef : x.defers = df) (u1 : x.tmps.getD 1 undef = .slice (some ⟨g, 0, none⟩) 12 12) (u2 : x.tmps.getD 2 undef = .int .i64 (i : Nat)) (u3 : x.tmps.getD 3 undef = .string ⟨S.toArray⟩)
    (p11 : mnmR_val g i n S A1 A2 A3 A4 A5 A6 A7 A8 A9 B1 11 (x.tmps.getD 28 undef) w)
    (p15 : mnmR_val g i n S A1 A2 A3 A4 A5 A6 A7 A8 A9 B1 15 (x.tmps.getD 32 undef) w)
    : wpOpIn Fc nC Tryz.prog mnmR_ops Q 16 (fun a' w' => ∃ v, a' = x.put (some 33) v ∧ (v = .bool false) ∧ Below w.heap.size w w') x w := by
  have ho : mnmR_ops[16]? = some mnmR_o16 := rfl
  simp only [Array.getD_eq_getD_getElem?] at u1 u2 u3
  have q11 : x.tmps.getD 28 undef = .bool false := p11
  have q15 : x.tmps.getD 32 undef = .bool false := p15
  simp only [Array.getD_eq_getD_getElem?] at q11 q15
  refine wpOpIn_plain ho rfl (oper_inK hF.fn (fun K hK => ?_))
  clear ho
  rw [Oper.semAt_plain Fc _ _ (by intro c h; cases h)]
  simp only [mnmR_o16]
  go_simp
  exact hK _ _ ⟨_, act_putD x hdef _ _, rfl, Below.refl _ _⟩
set_option maxRecDepth 100000 in
set_option maxHeartbeats 2000000 in
theorem mnmR_s17 {Fc : Fence} (hF : Wide Fc) {nC : Nat} (g i : Nat) (n : Int) (S A1 A2 A3 A4 A5 A6 A7 A8 A9 B1 : List UInt8) (Q : Exit → Act → World → Prop) (df : List Deferred) (w0 : World)
    (hS : w0.cell? ⟨g, i, none⟩ = some (.int .i64 n)) (hi : i < 12) (hW : StdW w0) (lS : S.length ≤ 100) (hA1 : [115, 46] ++ S = A1) (lA1 : A1.length ≤ 200) (hA2 : [115, 46, 48] ++ S = A2) (lA2 : A2.length ≤ 200) (hA3 : [115, 46, 43] ++ S = A3) (lA3 : A3.length ≤ 200) (hA4 : [83, 46] ++ S = A4) (lA4 : A4.length ≤ 200) (hA5 : A1 ++ [32] = A5) (lA5 : A5.length ≤ 200) (hA6 : [115, 46, 32] ++ S = A6) (lA6 : A6.length ≤ 200) (hA7 : [115] ++ S = A7) (lA7 : A7.length ≤ 200) (hA8 : A1 ++ [48, 48, 48, 48, 48, 48, 48, 48, 48, 48, 48, 48, 48, 48, 48, 48, 48, 48, 48, 48, 48, 48] = A8) (lA8 : A8.length ≤ 200) (hA9 : A1 ++ [95, 48] = A9) (lA9 : A9.length ≤ 200) (hB1 : [115, 46, 115, 46] ++ S = B1) (lB1 : B1.length ≤ 200)
    (x : Act) (w : World) (hB : Below w0.heap.size w0 w) (hdef : x.defers = df) (u1 : x.tmps.getD 1 undef = .slice (some ⟨g, 0, none⟩) 12 12) (u2 : x.tmps.getD 2 undef = .int .i64 (i : Nat)) (u3 : x.tmps.getD 3 undef = .string ⟨S.toArray⟩)
    (p16 : mnmR_val g i n S A1 A2 A3 A4 A5 A6 A7 A8 A9 B1 16 (x.tmps.getD 33 undef) w)
    : wpOpIn Fc nC Tryz.prog mnmR_ops Q 17 (fun a' w' => ∃ v, a' = x.put (some 34) v ∧ (v = .bool false) ∧ Below w.heap.size w w') x w := by
  have ho : mnmR_ops[17]? = some mnmR_o17 := rfl
  simp only [Array.getD_eq_getD_getElem?] at u1 u2 u3
  have q16 : x.tmps.getD 33 undef = .bool false := p16
  simp only [Array.getD_eq_getD_getElem?] at q16
  refine wpOpIn_plain ho rfl (oper_inK hF.fn (fun K hK => ?_))
  clear ho
  rw [Oper.semAt_plain Fc _ _ (by intro c h; cases h)]
  simp only [mnmR_o17]
  go_simp
  exact hK _ _ ⟨_, act_putD x hdef _ _, rfl, Below.refl _ _⟩
set_option maxRecDepth 100000 in
set_option maxHeartbeats 2000000 in
theorem mnmR_s18 {Fc : Fence} (hF : Wide Fc) {nC : Nat} (g i : Nat) (n : Int) (S A1 A2 A3 A4 A5 A6 A7 A8 A9 B1 : List UInt8) (Q : Exit → Act → World → Prop) (df : List Deferred) (w0 : World)
    (hS : w0.cell? ⟨g, i, none⟩ = some (.int .i64 n)) (hi : i < 12) (hW : StdW w0) (lS : S.length ≤ 100) (hA1 : [115, 46] ++ S = A1) (lA1 : A1.length ≤ 200) (hA2 : [115, 46, 48] ++ S = A2) (lA2 : A2.length ≤ 200) (hA3 : [115, 46, 43] ++ S = A3) (lA3 : A3.length ≤ 200) (hA4 : [83, 46] ++ S = A4) (lA4 : A4.length ≤ 200) (hA5 : A1 ++ [32] = A5) (lA5 : A5.length ≤ 200) (hA6 : [115, 46, 32] ++ S = A6) (lA6 : A6.length ≤ 200) (hA7 : [115] ++ S = A7) (lA7 : A7.length ≤ 200) (hA8 : A1 ++ [48, 48, 48, 48, 48, 48, 48, 48, 48, 48, 48, 48, 48, 48, 48, 48, 48, 48, 48, 48, 48, 48] = A8) (lA8 : A8.length ≤ 200) (hA9 : A1 ++ [95, 48] = A9) (lA9 : A9.length ≤ 200) (hB1 : [115, 46, 115, 46] ++ S = B1) (lB1 : B1.length ≤ 200)
    (x : Act) (w : World) (hB : Below w0.heap.size w0 w) (hdef : x.defers = df) (u1 : x.tmps.getD 1 undef = .slice (some ⟨g, 0, none⟩) 12 12) (u2 : x.tmps.getD 2 undef = .int .i64 (i : Nat)) (u3 : x.tmps.getD 3 undef = .string ⟨S.toArray⟩)
    (p17 : mnmR_val g i n S A1 A2 A3 A4 A5 A6 A7 A8 A9 B1 17 (x.tmps.getD 34 undef) w)
    : wpOpIn Fc nC Tryz.prog mnmR_ops Q 18 (fun a' w' => ∃ v, a' = x.put (some 35) v ∧ (v = .string ⟨S.toArray⟩) ∧ Below w.heap.size w w') x w := by
  have ho : mnmR_ops[18]? = some mnmR_o18 := rfl
  simp only [Array.getD_eq_getD_getElem?] at u1 u2 u3
  have q17 : x.tmps.getD 34 undef = .bool false := p17
  simp only [Array.getD_eq_getD_getElem?] at q17
  have e17 : (mnmR_ops[17]?.bind fun x => x.dst) = some 34 := rfl
  have g17 := get_someT q17 (fun h => by cases h)
  refine wpOpIn_stepT hF ho (fun K hK => ?_)
  clear ho
  rw [Oper.semAt_plain Fc _ _ (by intro c h; cases h)]
  simp only [mnmR_o18]
  go_simp
  exact hK _ _ ⟨_, act_putD x hdef _ _, rfl, Below.refl _ _⟩
set_option maxRecDepth 100000 in
set_option maxHeartbeats 2000000 in
theorem mnmR_s19 {Fc : Fence} (hF : Wide Fc) {nC : Nat} (g i : Nat) (n : Int) (S A1 A2 A3 A4 A5 A6 A7 A8 A9 B1 : List UInt8) (Q : Exit → Act → World → Prop) (df : List Deferred) (w0 : World)
    (hS : w0.cell? ⟨g, i, none⟩ = some (.int .i64 n)) (hi : i < 12) (hW : StdW w0) (lS : S.length ≤ 100) (hA1 : [115, 46] ++ S = A1) (lA1 : A1.length ≤ 200) (hA2 : [115, 46, 48] ++ S = A2) (lA2 : A2.length ≤ 200) (hA3 : [115, 46, 43] ++ S = A3) (lA3 : A3.length ≤ 200) (hA4 : [83, 46] ++ S = A4) (lA4 : A4.length ≤ 200) (hA5 : A1 ++ [32] = A5) (lA5 : A5.length ≤ 200) (hA6 : [115, 46, 32] ++ S = A6) (lA6 : A6.length ≤ 200) (hA7 : [115] ++ S = A7) (lA7 : A7.length ≤ 200) (hA8 : A1 ++ [48, 48, 48, 48, 48, 48, 48, 48, 48, 48, 48, 48, 48, 48, 48, 48, 48, 48, 48, 48, 48, 48] = A8) (lA8 : A8.length ≤ 200) (hA9 : A1 ++ [95, 48] = A9) (lA9 : A9.length ≤ 200) (hB1 : [115, 46, 115, 46] ++ S = B1) (lB1 : B1.length ≤ 200)
    (x : Act) (w : World) (hB : Below w0.heap.size w0 w) (hdef : x.defers = df) (u1 : x.tmps.getD 1 undef = .slice (some ⟨g, 0, none⟩) 12 12) (u2 : x.tmps.getD 2 undef = .int .i64 (i : Nat)) (u3 : x.tmps.getD 3 undef = .string ⟨S.toArray⟩)
    (p18 : mnmR_val g i n S A1 A2 A3 A4 A5 A6 A7 A8 A9 B1 18 (x.tmps.getD 35 undef) w)
    (p17 : mnmR_val g i n S A1 A2 A3 A4 A5 A6 A7 A8 A9 B1 17 (x.tmps.getD 34 undef) w)
    : wpOpIn Fc nC Tryz.prog mnmR_ops Q 19 (fun a' w' => ∃ v, a' = x.put (some 36) v ∧ (v = .string ⟨A2.toArray⟩) ∧ Below w.heap.size w w') x w := by
  have ho : mnmR_ops[19]? = some mnmR_o19 := rfl
  simp only [Array.getD_eq_getD_getElem?] at u1 u2 u3
  have q18 : x.tmps.getD 35 undef = .string ⟨S.toArray⟩ := p18
  have q17 : x.tmps.getD 34 undef = .bool false := p17
  simp only [Array.getD_eq_getD_getElem?] at q18 q17
  have e17 : (mnmR_ops[17]?.bind fun x => x.dst) = some 34 := rfl
  have g17 := get_someT q17 (fun h => by cases h)
  have hl := (show ¬ 9223372036854775807 < 3 + S.length by omega)
  refine wpOpIn_stepT hF ho (fun K hK => ?_)
  clear ho
  rw [Oper.semAt_plain Fc _ _ (by intro c h; cases h)]
  simp only [mnmR_o19]
  go_simp
  exact hK _ _ ⟨_, act_putD x hdef _ _, by rw [← hA2]; exact str_join [115, 46, 48] S, Below.refl _ _⟩
set_option maxRecDepth 100000 in
set_option maxHeartbeats 2000000 in
theorem mnmR_s20 {Fc : Fence} (hF : Wide Fc) {nC : Nat} (g i : Nat) (n : Int) (S A1 A2 A3 A4 A5 A6 A7 A8 A9 B1 : List UInt8) (Q : Exit → Act → World → Prop) (df : List Deferred) (w0 : World)
    (hS : w0.cell? ⟨g, i, none⟩ = some (.int .i64 n)) (hi : i < 12) (hW : StdW w0) (lS : S.length ≤ 100) (hA1 : [115, 46] ++ S = A1) (lA1 : A1.length ≤ 200) (hA2 : [115, 46, 48] ++ S = A2) (lA2 : A2.length ≤ 200) (hA3 : [115, 46, 43] ++ S = A3) (lA3 : A3.length ≤ 200) (hA4 : [83, 46] ++ S = A4) (lA4 : A4.length ≤ 200) (hA5 : A1 ++ [32] = A5) (lA5 : A5.length ≤ 200) (hA6 : [115, 46, 32] ++ S = A6) (lA6 : A6.length ≤ 200) (hA7 : [115] ++ S = A7) (lA7 : A7.length ≤ 200) (hA8 : A1 ++ [48, 48, 48, 48, 48, 48, 48, 48, 48, 48, 48, 48, 48, 48, 48, 48, 48, 48, 48, 48, 48, 48] = A8) (lA8 : A8.length ≤ 200) (hA9 : A1 ++ [95, 48] = A9) (lA9 : A9.length ≤ 200) (hB1 : [115, 46, 115, 46] ++ S = B1) (lB1 : B1.length ≤ 200)
    (x : Act) (w : World) (hB : Below w0.heap.size w0 w) (hdef : x.defers = df) (u1 : x.tmps.getD 1 undef = .slice (some ⟨g, 0, none⟩) 12 12) (u2 : x.tmps.getD 2 undef = .int .i64 (i : Nat)) (u3 : x.tmps.getD 3 undef = .string ⟨S.toArray⟩)
    (p19 : mnmR_val g i n S A1 A2 A3 A4 A5 A6 A7 A8 A9 B1 19 (x.tmps.getD 36 undef) w)
    (p17 : mnmR_val g i n S A1 A2 A3 A4 A5 A6 A7 A8 A9 B1 17 (x.tmps.getD 34 undef) w)
    : wpOpIn Fc nC Tryz.prog mnmR_ops Q 20 (fun a' w' => ∃ v, a' = x.put (some 37) v ∧ (v = .bool true) ∧ Below w.heap.size w w') x w := by
  have ho : mnmR_ops[20]? = some mnmR_o20 := rfl
  simp only [Array.getD_eq_getD_getElem?] at u1 u2 u3
  have q19 : x.tmps.getD 36 undef = .string ⟨A2.toArray⟩ := p19
  have q17 : x.tmps.getD 34 undef = .bool false := p17
  simp only [Array.getD_eq_getD_getElem?] at q19 q17
  have e17 : (mnmR_ops[17]?.bind fun x => x.dst) = some 34 := rfl
  have g17 := get_someT q17 (fun h => by cases h)
  refine wpOpIn_stepT hF ho (fun K hK => ?_)
  clear ho
  rw [Oper.semAt_plain Fc _ _ (by intro c h; cases h)]
  simp only [mnmR_o20]
  go_simp
  refine ⟨hF.deep, (hF.call (name25_any A2 w (by omega) (hW.below hB))).mono ?_⟩
  rintro e w' ⟨rfl, hb⟩
  exact hK _ _ ⟨_, act_putD x hdef _ _, rfl, hb⟩
set_option maxRecDepth 100000 in
set_option maxHeartbeats 2000000 in
theorem mnmR_s21 {Fc : Fence} (hF : Wide Fc) {nC : Nat} (g i : Nat) (n : Int) (S A1 A2 A3 A4 A5 A6 A7 A8 A9 B1 : List UInt8) (Q : Exit → Act → World → Prop) (df : List Deferred) (w0 : World)
    (hS : w0.cell? ⟨g, i, none⟩ = some (.int .i64 n)) (hi : i < 12) (hW : StdW w0) (lS : S.length ≤ 100) (hA1 : [115, 46] ++ S = A1) (lA1 : A1.length ≤ 200) (hA2 : [115, 46, 48] ++ S = A2) (lA2 : A2.length ≤ 200) (hA3 : [115, 46, 43] ++ S = A3) (lA3 : A3.length ≤ 200) (hA4 : [83, 46] ++ S = A4) (lA4 : A4.length ≤ 200) (hA5 : A1 ++ [32] = A5) (lA5 : A5.length ≤ 200) (hA6 : [115, 46, 32] ++ S = A6) (lA6 : A6.length ≤ 200) (hA7 : [115] ++ S = A7) (lA7 : A7.length ≤ 200) (hA8 : A1 ++ [48, 48, 48, 48, 48, 48, 48, 48, 48, 48, 48, 48, 48, 48, 48, 48, 48, 48, 48, 48, 48, 48] = A8) (lA8 : A8.length ≤ 200) (hA9 : A1 ++ [95, 48] = A9) (lA9 : A9.length ≤ 200) (hB1 : [115, 46, 115, 46] ++ S = B1) (lB1 : B1.length ≤ 200)
    (x : Act) (w : World) (hB : Below w0.heap.size w0 w) (hdef : x.defers = df) (u1 : x.tmps.getD 1 undef = .slice (some ⟨g, 0, none⟩) 12 12) (u2 : x.tmps.getD 2 undef = .int .i64 (i : Nat)) (u3 : x.tmps.getD 3 undef = .string ⟨S.toArray⟩)
    (p20 : mnmR_val g i n S A1 A2 A3 A4 A5 A6 A7 A8 A9 B1 20 (x.tmps.getD 37 undef) w)
    (p17 : mnmR_val g i n S A1 A2 A3 A4 A5 A6 A7 A8 A9 B1 17 (x.tmps.getD 34 undef) w)
    : wpOpIn Fc nC Tryz.prog mnmR_ops Q 21 (fun a' w' => ∃ v, a' = x.put (some 38) v ∧ (v = .bool false) ∧ Below w.heap.size w w') x w := by
  have ho : mnmR_ops[21]? = some mnmR_o21 := rfl
  simp only [Array.getD_eq_getD_getElem?] at u1 u2 u3
  have q20 : x.tmps.getD 37 undef = .bool true := p20
  have q17 : x.tmps.getD 34 undef = .bool false := p17
  simp only [Array.getD_eq_getD_getElem?] at q20 q17
  have e17 : (mnmR_ops[17]?.bind fun x => x.dst) = some 34 := rfl
  have g17 := get_someT q17 (fun h => by cases h)
  refine wpOpIn_stepT hF ho (fun K hK => ?_)
  clear ho
  rw [Oper.semAt_plain Fc _ _ (by intro c h; cases h)]
  simp only [mnmR_o21]
  go_simp
  exact hK _ _ ⟨_, act_putD x hdef _ _, rfl, Below.refl _ _⟩
set_option maxRecDepth 100000 in
set_option maxHeartbeats 2000000 in
theorem mnmR_s22 {Fc : Fence} (hF : Wide Fc) {nC : Nat} (g i : Nat) (n : Int) (S A1 A2 A3 A4 A5 A6 A7 A8 A9 B1 : List UInt8) (Q : Exit → Act → World → Prop) (df : List Deferred) (w0 : World)
    (hS : w0.cell? ⟨g, i, none⟩ = some (.int .i64 n)) (hi : i < 12) (hW : StdW w0) (lS : S.length ≤ 100) (hA1 : [115, 46] ++ S = A1) (lA1 : A1.length ≤ 200) (hA2 : [115, 46, 48] ++ S = A2) (lA2 : A2.length ≤ 200) (hA3 : [115, 46, 43] ++ S = A3) (lA3 : A3.length ≤ 200) (hA4 : [83, 46] ++ S = A4) (lA4 : A4.length ≤ 200) (hA5 : A1 ++ [32] = A5) (lA5 : A5.length ≤ 200) (hA6 : [115, 46, 32] ++ S = A6) (lA6 : A6.length ≤ 200) (hA7 : [115] ++ S = A7) (lA7 : A7.length ≤ 200) (hA8 : A1 ++ [48, 48, 48, 48, 48, 48, 48, 48, 48, 48, 48, 48, 48, 48, 48, 48, 48, 48, 48, 48, 48, 48] = A8) (lA8 : A8.length ≤ 200) (hA9 : A1 ++ [95, 48] = A9) (lA9 : A9.length ≤ 200) (hB1 : [115, 46, 115, 46] ++ S = B1) (lB1 : B1.length ≤ 200)
    (x : Act) (w : World) (hB : Below w0.heap.size w0 w) (hdef : x.defers = df) (u1 : x.tmps.getD 1 undef = .slice (some ⟨g, 0, none⟩) 12 12) (u2 : x.tmps.getD 2 undef = .int .i64 (i : Nat)) (u3 : x.tmps.getD 3 undef = .string ⟨S.toArray⟩)
    (p17 : mnmR_val g i n S A1 A2 A3 A4 A5 A6 A7 A8 A9 B1 17 (x.tmps.getD 34 undef) w)
    (p21 : mnmR_val g i n S A1 A2 A3 A4 A5 A6 A7 A8 A9 B1 21 (x.tmps.getD 38 undef) w)
    : wpOpIn Fc nC Tryz.prog mnmR_ops Q 22 (fun a' w' => ∃ v, a' = x.put (some 39) v ∧ (v = .bool false) ∧ Below w.heap.size w w') x w := by
  have ho : mnmR_ops[22]? = some mnmR_o22 := rfl
  simp only [Array.getD_eq_getD_getElem?] at u1 u2 u3
  have q17 : x.tmps.getD 34 undef = .bool false := p17
  have q21 : x.tmps.getD 38 undef = .bool false := p21
  simp only [Array.getD_eq_getD_getElem?] at q17 q21
  refine wpOpIn_plain ho rfl (oper_inK hF.fn (fun K hK => ?_))
  clear ho
  rw [Oper.semAt_plain Fc _ _ (by intro c h; cases h)]
  simp only [mnmR_o22]
  go_simp
  exact hK _ _ ⟨_, act_putD x hdef _ _, rfl, Below.refl _ _⟩
set_option maxRecDepth 100000 in
set_option maxHeartbeats 2000000 in
theorem mnmR_s23 {Fc : Fence} (hF : Wide Fc) {nC : Nat} (g i : Nat) (n : Int) (S A1 A2 A3 A4 A5 A6 A7 A8 A9 B1 : List UInt8) (Q : Exit → Act → World → Prop) (df : List Deferred) (w0 : World)
    (hS : w0.cell? ⟨g, i, none⟩ = some (.int .i64 n)) (hi : i < 12) (hW : StdW w0) (lS : S.length ≤ 100) (hA1 : [115, 46] ++ S = A1) (lA1 : A1.length ≤ 200) (hA2 : [115, 46, 48] ++ S = A2) (lA2 : A2.length ≤ 200) (hA3 : [115, 46, 43] ++ S = A3) (lA3 : A3.length ≤ 200) (hA4 : [83, 46] ++ S = A4) (lA4 : A4.length ≤ 200) (hA5 : A1 ++ [32] = A5) (lA5 : A5.length ≤ 200) (hA6 : [115, 46, 32] ++ S = A6) (lA6 : A6.length ≤ 200) (hA7 : [115] ++ S = A7) (lA7 : A7.length ≤ 200) (hA8 : A1 ++ [48, 48, 48, 48, 48, 48, 48, 48, 48, 48, 48, 48, 48, 48, 48, 48, 48, 48, 48, 48, 48, 48] = A8) (lA8 : A8.length ≤ 200) (hA9 : A1 ++ [95, 48] = A9) (lA9 : A9.length ≤ 200) (hB1 : [115, 46, 115, 46] ++ S = B1) (lB1 : B1.length ≤ 200)
    (x : Act) (w : World) (hB : Below w0.heap.size w0 w) (hdef : x.defers = df) (u1 : x.tmps.getD 1 undef = .slice (some ⟨g, 0, none⟩) 12 12) (u2 : x.tmps.getD 2 undef = .int .i64 (i : Nat)) (u3 : x.tmps.getD 3 undef = .string ⟨S.toArray⟩)
    (p22 : mnmR_val g i n S A1 A2 A3 A4 A5 A6 A7 A8 A9 B1 22 (x.tmps.getD 39 undef) w)
    : wpOpIn Fc nC Tryz.prog mnmR_ops Q 23 (fun a' w' => ∃ v, a' = x.put (some 40) v ∧ (v = .bool false) ∧ Below w.heap.size w w') x w := by
  have ho : mnmR_ops[23]? = some mnmR_o23 := rfl
  simp only [Array.getD_eq_getD_getElem?] at u1 u2 u3
  have q22 : x.tmps.getD 39 undef = .bool false := p22
  simp only [Array.getD_eq_getD_getElem?] at q22
  refine wpOpIn_plain ho rfl (oper_inK hF.fn (fun K hK => ?_))
  clear ho
  rw [Oper.semAt_plain Fc _ _ (by intro c h; cases h)]
  simp only [mnmR_o23]
  go_simp
  exact hK _ _ ⟨_, act_putD x hdef _ _, rfl, Below.refl _ _⟩
set_option maxRecDepth 100000 in
set_option maxHeartbeats 2000000 in
theorem mnmR_s24 {Fc : Fence} (hF : Wide Fc) {nC : Nat} (g i : Nat) (n : Int) (S A1 A2 A3 A4 A5 A6 A7 A8 A9 B1 : List UInt8) (Q : Exit → Act → World → Prop) (df : List Deferred) (w0 : World)
    (hS : w0.cell? ⟨g, i, none⟩ = some (.int .i64 n)) (hi : i < 12) (hW : StdW w0) (lS : S.length ≤ 100) (hA1 : [115, 46] ++ S = A1) (lA1 : A1.length ≤ 200) (hA2 : [115, 46, 48] ++ S = A2) (lA2 : A2.length ≤ 200) (hA3 : [115, 46, 43] ++ S = A3) (lA3 : A3.length ≤ 200) (hA4 : [83, 46] ++ S = A4) (lA4 : A4.length ≤ 200) (hA5 : A1 ++ [32] = A5) (lA5 : A5.length ≤ 200) (hA6 : [115, 46, 32] ++ S = A6) (lA6 : A6.length ≤ 200) (hA7 : [115] ++ S = A7) (lA7 : A7.length ≤ 200) (hA8 : A1 ++ [48, 48, 48, 48, 48, 48, 48, 48, 48, 48, 48, 48, 48, 48, 48, 48, 48, 48, 48, 48, 48, 48] = A8) (lA8 : A8.length ≤ 200) (hA9 : A1 ++ [95, 48] = A9) (lA9 : A9.length ≤ 200) (hB1 : [115, 46, 115, 46] ++ S = B1) (lB1 : B1.length ≤ 200)
    (x : Act) (w : World) (hB : Below w0.heap.size w0 w) (hdef : x.defers = df) (u1 : x.tmps.getD 1 undef = .slice (some ⟨g, 0, none⟩) 12 12) (u2 : x.tmps.getD 2 undef = .int .i64 (i : Nat)) (u3 : x.tmps.getD 3 undef = .string ⟨S.toArray⟩)
    (p23 : mnmR_val g i n S A1 A2 A3 A4 A5 A6 A7 A8 A9 B1 23 (x.tmps.getD 40 undef) w)
    : wpOpIn Fc nC Tryz.prog mnmR_ops Q 24 (fun a' w' => ∃ v, a' = x.put (some 41) v ∧ (v = .string ⟨S.toArray⟩) ∧ Below w.heap.size w w') x w := by
  have ho : mnmR_ops[24]? = some mnmR_o24 := rfl
  simp only [Array.getD_eq_getD_getElem?] at u1 u2 u3
  have q23 : x.tmps.getD 40 undef = .bool false := p23
  simp only [Array.getD_eq_getD_getElem?] at q23
  have e23 : (mnmR_ops[23]?.bind fun x => x.dst) = some 40 := rfl
  have g23 := get_someT q23 (fun h => by cases h)
  refine wpOpIn_stepT hF ho (fun K hK => ?_)
  clear ho
  rw [Oper.semAt_plain Fc _ _ (by intro c h; cases h)]
  simp only [mnmR_o24]
  go_simp
  exact hK _ _ ⟨_, act_putD x hdef _ _, rfl, Below.refl _ _⟩
set_option maxRecDepth 100000 in
set_option maxHeartbeats 2000000 in
theorem mnmR_s25 {Fc : Fence} (hF : Wide Fc) {nC : Nat} (g i : Nat) (n : Int) (S A1 A2 A3 A4 A5 A6 A7 A8 A9 B1 : List UInt8) (Q : Exit → Act → World → Prop) (df : List Deferred) (w0 : World)
    (hS : w0.cell? ⟨g, i, none⟩ = some (.int .i64 n)) (hi : i < 12) (hW : StdW w0) (lS : S.length ≤ 100) (hA1 : [115, 46] ++ S = A1) (lA1 : A1.length ≤ 200) (hA2 : [115, 46, 48] ++ S = A2) (lA2 : A2.length ≤ 200) (hA3 : [115, 46, 43] ++ S = A3) (lA3 : A3.length ≤ 200) (hA4 : [83, 46] ++ S = A4) (lA4 : A4.length ≤ 200) (hA5 : A1 ++ [32] = A5) (lA5 : A5.length ≤ 200) (hA6 : [115, 46, 32] ++ S = A6) (lA6 : A6.length ≤ 200) (hA7 : [115] ++ S = A7) (lA7 : A7.length ≤ 200) (hA8 : A1 ++ [48, 48, 48, 48, 48, 48, 48, 48, 48, 48, 48, 48, 48, 48, 48, 48, 48, 48, 48, 48, 48, 48] = A8) (lA8 : A8.length ≤ 200) (hA9 : A1 ++ [95, 48] = A9) (lA9 : A9.length ≤ 200) (hB1 : [115, 46, 115, 46] ++ S = B1) (lB1 : B1.length ≤ 200)
    (x : Act) (w : World) (hB : Below w0.heap.size w0 w) (hdef : x.defers = df) (u1 : x.tmps.getD 1 undef = .slice (some ⟨g, 0, none⟩) 12 12) (u2 : x.tmps.getD 2 undef = .int .i64 (i : Nat)) (u3 : x.tmps.getD 3 undef = .string ⟨S.toArray⟩)
    (p24 : mnmR_val g i n S A1 A2 A3 A4 A5 A6 A7 A8 A9 B1 24 (x.tmps.getD 41 undef) w)
    (p23 : mnmR_val g i n S A1 A2 A3 A4 A5 A6 A7 A8 A9 B1 23 (x.tmps.getD 40 undef) w)
    : wpOpIn Fc nC Tryz.prog mnmR_ops Q 25 (fun a' w' => ∃ v, a' = x.put (some 42) v ∧ (v = .string ⟨A3.toArray⟩) ∧ Below w.heap.size w w') x w := by
  have ho : mnmR_ops[25]? = some mnmR_o25 := rfl
  simp only [Array.getD_eq_getD_getElem?] at u1 u2 u3
  have q24 : x.tmps.getD 41 undef = .string ⟨S.toArray⟩ := p24
  have q23 : x.tmps.getD 40 undef = .bool false := p23
  simp only [Array.getD_eq_getD_getElem?] at q24 q23
  have e23 : (mnmR_ops[23]?.bind fun x => x.dst) = some 40 := rfl
  have g23 := get_someT q23 (fun h => by cases h)
  have hl := (show ¬ 9223372036854775807 < 3 + S.length by omega)
  refine wpOpIn_stepT hF ho (fun K hK => ?_)
  clear ho
  rw [Oper.semAt_plain Fc _ _ (by intro c h; cases h)]
  simp only [mnmR_o25]
  go_simp
  exact hK _ _ ⟨_, act_putD x hdef _ _, by rw [← hA3]; exact str_join [115, 46, 43] S, Below.refl _ _⟩
set_option maxRecDepth 100000 in
set_option maxHeartbeats 2000000 in
theorem mnmR_s26 {Fc : Fence} (hF : Wide Fc) {nC : Nat} (g i : Nat) (n : Int) (S A1 A2 A3 A4 A5 A6 A7 A8 A9 B1 : List UInt8) (Q : Exit → Act → World → Prop) (df : List Deferred) (w0 : World)
    (hS : w0.cell? ⟨g, i, none⟩ = some (.int .i64 n)) (hi : i < 12) (hW : StdW w0) (lS : S.length ≤ 100) (hA1 : [115, 46] ++ S = A1) (lA1 : A1.length ≤ 200) (hA2 : [115, 46, 48] ++ S = A2) (lA2 : A2.length ≤ 200) (hA3 : [115, 46, 43] ++ S = A3) (lA3 : A3.length ≤ 200) (hA4 : [83, 46] ++ S = A4) (lA4 : A4.length ≤ 200) (hA5 : A1 ++ [32] = A5) (lA5 : A5.length ≤ 200) (hA6 : [115, 46, 32] ++ S = A6) (lA6 : A6.length ≤ 200) (hA7 : [115] ++ S = A7) (lA7 : A7.length ≤ 200) (hA8 : A1 ++ [48, 48, 48, 48, 48, 48, 48, 48, 48, 48, 48, 48, 48, 48, 48, 48, 48, 48, 48, 48, 48, 48] = A8) (lA8 : A8.length ≤ 200) (hA9 : A1 ++ [95, 48] = A9) (lA9 : A9.length ≤ 200) (hB1 : [115, 46, 115, 46] ++ S = B1) (lB1 : B1.length ≤ 200)
    (x : Act) (w : World) (hB : Below w0.heap.size w0 w) (hdef : x.defers = df) (u1 : x.tmps.getD 1 undef = .slice (some ⟨g, 0, none⟩) 12 12) (u2 : x.tmps.getD 2 undef = .int .i64 (i : Nat)) (u3 : x.tmps.getD 3 undef = .string ⟨S.toArray⟩)
    (p25 : mnmR_val g i n S A1 A2 A3 A4 A5 A6 A7 A8 A9 B1 25 (x.tmps.getD 42 undef) w)
    (p23 : mnmR_val g i n S A1 A2 A3 A4 A5 A6 A7 A8 A9 B1 23 (x.tmps.getD 40 undef) w)
    : wpOpIn Fc nC Tryz.prog mnmR_ops Q 26 (fun a' w' => ∃ v, a' = x.put (some 43) v ∧ (v = .bool true) ∧ Below w.heap.size w w') x w := by
  have ho : mnmR_ops[26]? = some mnmR_o26 := rfl
  simp only [Array.getD_eq_getD_getElem?] at u1 u2 u3
  have q25 : x.tmps.getD 42 undef = .string ⟨A3.toArray⟩ := p25
  have q23 : x.tmps.getD 40 undef = .bool false := p23
  simp only [Array.getD_eq_getD_getElem?] at q25 q23
  have e23 : (mnmR_ops[23]?.bind fun x => x.dst) = some 40 := rfl
  have g23 := get_someT q23 (fun h => by cases h)
  refine wpOpIn_stepT hF ho (fun K hK => ?_)
  clear ho
  rw [Oper.semAt_plain Fc _ _ (by intro c h; cases h)]
  simp only [mnmR_o26]
  go_simp
  refine ⟨hF.deep, (hF.call (name25_any A3 w (by omega) (hW.below hB))).mono ?_⟩
  rintro e w' ⟨rfl, hb⟩
  exact hK _ _ ⟨_, act_putD x hdef _ _, rfl, hb⟩
set_option maxRecDepth 100000 in
set_option maxHeartbeats 2000000 in
theorem mnmR_s27 {Fc : Fence} (hF : Wide Fc) {nC : Nat} (g i : Nat) (n : Int) (S A1 A2 A3 A4 A5 A6 A7 A8 A9 B1 : List UInt8) (Q : Exit → Act → World → Prop) (df : List Deferred) (w0 : World)
    (hS : w0.cell? ⟨g, i, none⟩ = some (.int .i64 n)) (hi : i < 12) (hW : StdW w0) (lS : S.length ≤ 100) (hA1 : [115, 46] ++ S = A1) (lA1 : A1.length ≤ 200) (hA2 : [115, 46, 48] ++ S = A2) (lA2 : A2.length ≤ 200) (hA3 : [115, 46, 43] ++ S = A3) (lA3 : A3.length ≤ 200) (hA4 : [83, 46] ++ S = A4) (lA4 : A4.length ≤ 200) (hA5 : A1 ++ [32] = A5) (lA5 : A5.length ≤ 200) (hA6 : [115, 46, 32] ++ S = A6) (lA6 : A6.length ≤ 200) (hA7 : [115] ++ S = A7) (lA7 : A7.length ≤ 200) (hA8 : A1 ++ [48, 48, 48, 48, 48, 48, 48, 48, 48, 48, 48, 48, 48, 48, 48, 48, 48, 48, 48, 48, 48, 48] = A8) (lA8 : A8.length ≤ 200) (hA9 : A1 ++ [95, 48] = A9) (lA9 : A9.length ≤ 200) (hB1 : [115, 46, 115, 46] ++ S = B1) (lB1 : B1.length ≤ 200)
    (x : Act) (w : World) (hB : Below w0.heap.size w0 w) (hdef : x.defers = df) (u1 : x.tmps.getD 1 undef = .slice (some ⟨g, 0, none⟩) 12 12) (u2 : x.tmps.getD 2 undef = .int .i64 (i : Nat)) (u3 : x.tmps.getD 3 undef = .string ⟨S.toArray⟩)
    (p26 : mnmR_val g i n S A1 A2 A3 A4 A5 A6 A7 A8 A9 B1 26 (x.tmps.getD 43 undef) w)
    (p23 : mnmR_val g i n S A1 A2 A3 A4 A5 A6 A7 A8 A9 B1 23 (x.tmps.getD 40 undef) w)
    : wpOpIn Fc nC Tryz.prog mnmR_ops Q 27 (fun a' w' => ∃ v, a' = x.put (some 44) v ∧ (v = .bool false) ∧ Below w.heap.size w w') x w := by
  have ho : mnmR_ops[27]? = some mnmR_o27 := rfl
  simp only [Array.getD_eq_getD_getElem?] at u1 u2 u3
  have q26 : x.tmps.getD 43 undef = .bool true := p26
  have q23 : x.tmps.getD 40 undef = .bool false := p23
  simp only [Array.getD_eq_getD_getElem?] at q26 q23
  have e23 : (mnmR_ops[23]?.bind fun x => x.dst) = some 40 := rfl
  have g23 := get_someT q23 (fun h => by cases h)
  refine wpOpIn_stepT hF ho (fun K hK => ?_)
  clear ho
  rw [Oper.semAt_plain Fc _ _ (by intro c h; cases h)]
  simp only [mnmR_o27]
  go_simp
  exact hK _ _ ⟨_, act_putD x hdef _ _, rfl, Below.refl _ _⟩
set_option maxRecDepth 100000 in
set_option maxHeartbeats 2000000 in
theorem mnmR_s28 {Fc : Fence} (hF : Wide Fc) {nC : Nat} (g i : Nat) (n : Int) (S A1 A2 A3 A4 A5 A6 A7 A8 A9 B1 : List UInt8) (Q : Exit → Act → World → Prop) (df : List Deferred) (w0 : World)
    (hS : w0.cell? ⟨g, i, none⟩ = some (.int .i64 n)) (hi : i < 12) (hW : StdW w0) (lS : S.length ≤ 100) (hA1 : [115, 46] ++ S = A1) (lA1 : A1.length ≤ 200) (hA2 : [115, 46, 48] ++ S = A2) (lA2 : A2.length ≤ 200) (hA3 : [115, 46, 43] ++ S = A3) (lA3 : A3.length ≤ 200) (hA4 : [83, 46] ++ S = A4) (lA4 : A4.length ≤ 200) (hA5 : A1 ++ [32] = A5) (lA5 : A5.length ≤ 200) (hA6 : [115, 46, 32] ++ S = A6) (lA6 : A6.length ≤ 200) (hA7 : [115] ++ S = A7) (lA7 : A7.length ≤ 200) (hA8 : A1 ++ [48, 48, 48, 48, 48, 48, 48, 48, 48, 48, 48, 48, 48, 48, 48, 48, 48, 48, 48, 48, 48, 48] = A8) (lA8 : A8.length ≤ 200) (hA9 : A1 ++ [95, 48] = A9) (lA9 : A9.length ≤ 200) (hB1 : [115, 46, 115, 46] ++ S = B1) (lB1 : B1.length ≤ 200)
    (x : Act) (w : World) (hB : Below w0.heap.size w0 w) (hdef : x.defers = df) (u1 : x.tmps.getD 1 undef = .slice (some ⟨g, 0, none⟩) 12 12) (u2 : x.tmps.getD 2 undef = .int .i64 (i : Nat)) (u3 : x.tmps.getD 3 undef = .string ⟨S.toArray⟩)
    (p23 : mnmR_val g i n S A1 A2 A3 A4 A5 A6 A7 A8 A9 B1 23 (x.tmps.getD 40 undef) w)
    (p27 : mnmR_val g i n S A1 A2 A3 A4 A5 A6 A7 A8 A9 B1 27 (x.tmps.getD 44 undef) w)
    : wpOpIn Fc nC Tryz.prog mnmR_ops Q 28 (fun a' w' => ∃ v, a' = x.put (some 45) v ∧ (v = .bool false) ∧ Below w.heap.size w w') x w := by
  have ho : mnmR_ops[28]? = some mnmR_o28 := rfl
  simp only [Array.getD_eq_getD_getElem?] at u1 u2 u3
  have q23 : x.tmps.getD 40 undef = .bool false := p23
  have q27 : x.tmps.getD 44 undef = .bool false := p27
  simp only [Array.getD_eq_getD_getElem?] at q23 q27
  refine wpOpIn_plain ho rfl (oper_inK hF.fn (fun K hK => ?_))
  clear ho
  rw [Oper.semAt_plain Fc _ _ (by intro c h; cases h)]
  simp only [mnmR_o28]
  go_simp
  exact hK _ _ ⟨_, act_putD x hdef _ _, rfl, Below.refl _ _⟩
set_option maxRecDepth 100000 in
set_option maxHeartbeats 2000000 in
theorem mnmR_s29 {Fc : Fence} (hF : Wide Fc) {nC : Nat} (g i : Nat) (n : Int) (S A1 A2 A3 A4 A5 A6 A7 A8 A9 B1 : List UInt8) (Q : Exit → Act → World → Prop) (df : List Deferred) (w0 : World)
    (hS : w0.cell? ⟨g, i, none⟩ = some (.int .i64 n)) (hi : i < 12) (hW : StdW w0) (lS : S.length ≤ 100) (hA1 : [115, 46] ++ S = A1) (lA1 : A1.length ≤ 200) (hA2 : [115, 46, 48] ++ S = A2) (lA2 : A2.length ≤ 200) (hA3 : [115, 46, 43] ++ S = A3) (lA3 : A3.length ≤ 200) (hA4 : [83, 46] ++ S = A4) (lA4 : A4.length ≤ 200) (hA5 : A1 ++ [32] = A5) (lA5 : A5.length ≤ 200) (hA6 : [115, 46, 32] ++ S = A6) (lA6 : A6.length ≤ 200) (hA7 : [115] ++ S = A7) (lA7 : A7.length ≤ 200) (hA8 : A1 ++ [48, 48, 48, 48, 48, 48, 48, 48, 48, 48, 48, 48, 48, 48, 48, 48, 48, 48, 48, 48, 48, 48] = A8) (lA8 : A8.length ≤ 200) (hA9 : A1 ++ [95, 48] = A9) (lA9 : A9.length ≤ 200) (hB1 : [115, 46, 115, 46] ++ S = B1) (lB1 : B1.length ≤ 200)
    (x : Act) (w : World) (hB : Below w0.heap.size w0 w) (hdef : x.defers = df) (u1 : x.tmps.getD 1 undef = .slice (some ⟨g, 0, none⟩) 12 12) (u2 : x.tmps.getD 2 undef = .int .i64 (i : Nat)) (u3 : x.tmps.getD 3 undef = .string ⟨S.toArray⟩)
    (p28 : mnmR_val g i n S A1 A2 A3 A4 A5 A6 A7 A8 A9 B1 28 (x.tmps.getD 45 undef) w)
    : wpOpIn Fc nC Tryz.prog mnmR_ops Q 29 (fun a' w' => ∃ v, a' = x.put (some 46) v ∧ (v = .bool false) ∧ Below w.heap.size w w') x w := by
  have ho : mnmR_ops[29]? = some mnmR_o29 := rfl
  simp only [Array.getD_eq_getD_getElem?] at u1 u2 u3
  have q28 : x.tmps.getD 45 undef = .bool false := p28
  simp only [Array.getD_eq_getD_getElem?] at q28
  refine wpOpIn_plain ho rfl (oper_inK hF.fn (fun K hK => ?_))
  clear ho
  rw [Oper.semAt_plain Fc _ _ (by intro c h; cases h)]
  simp only [mnmR_o29]
  go_simp
  exact hK _ _ ⟨_, act_putD x hdef _ _, rfl, Below.refl _ _⟩
set_option maxRecDepth 100000 in
set_option maxHeartbeats 2000000 in
theorem mnmR_s30 {Fc : Fence} (hF : Wide Fc) {nC : Nat} (g i : Nat) (n : Int) (S A1 A2 A3 A4 A5 A6 A7 A8 A9 B1 : List UInt8) (Q : Exit → Act → World → Prop) (df : List Deferred) (w0 : World)
    (hS : w0.cell? ⟨g, i, none⟩ = some (.int .i64 n)) (hi : i < 12) (hW : StdW w0) (lS : S.length ≤ 100) (hA1 : [115, 46] ++ S = A1) (lA1 : A1.length ≤ 200) (hA2 : [115, 46, 48] ++ S = A2) (lA2 : A2.length ≤ 200) (hA3 : [115, 46, 43] ++ S = A3) (lA3 : A3.length ≤ 200) (hA4 : [83, 46] ++ S = A4) (lA4 : A4.length ≤ 200) (hA5 : A1 ++ [32] = A5) (lA5 : A5.length ≤ 200) (hA6 : [115, 46, 32] ++ S = A6) (lA6 : A6.length ≤ 200) (hA7 : [115] ++ S = A7) (lA7 : A7.length ≤ 200) (hA8 : A1 ++ [48, 48, 48, 48, 48, 48, 48, 48, 48, 48, 48, 48, 48, 48, 48, 48, 48, 48, 48, 48, 48, 48] = A8) (lA8 : A8.length ≤ 200) (hA9 : A1 ++ [95, 48] = A9) (lA9 : A9.length ≤ 200) (hB1 : [115, 46, 115, 46] ++ S = B1) (lB1 : B1.length ≤ 200)
    (x : Act) (w : World) (hB : Below w0.heap.size w0 w) (hdef : x.defers = df) (u1 : x.tmps.getD 1 undef = .slice (some ⟨g, 0, none⟩) 12 12) (u2 : x.tmps.getD 2 undef = .int .i64 (i : Nat)) (u3 : x.tmps.getD 3 undef = .string ⟨S.toArray⟩)
    (p29 : mnmR_val g i n S A1 A2 A3 A4 A5 A6 A7 A8 A9 B1 29 (x.tmps.getD 46 undef) w)
    : wpOpIn Fc nC Tryz.prog mnmR_ops Q 30 (fun a' w' => ∃ v, a' = x.put (some 47) v ∧ (v = .string ⟨S.toArray⟩) ∧ Below w.heap.size w w') x w := by
  have ho : mnmR_ops[30]? = some mnmR_o30 := rfl
  simp only [Array.getD_eq_getD_getElem?] at u1 u2 u3
  have q29 : x.tmps.getD 46 undef = .bool false := p29
  simp only [Array.getD_eq_getD_getElem?] at q29
  have e29 : (mnmR_ops[29]?.bind fun x => x.dst) = some 46 := rfl
  have g29 := get_someT q29 (fun h => by cases h)
  refine wpOpIn_stepT hF ho (fun K hK => ?_)
  clear ho
  rw [Oper.semAt_plain Fc _ _ (by intro c h; cases h)]
  simp only [mnmR_o30]
  go_simp
  exact hK _ _ ⟨_, act_putD x hdef _ _, rfl, Below.refl _ _⟩
set_option maxRecDepth 100000 in
set_option maxHeartbeats 2000000 in
theorem mnmR_s31 {Fc : Fence} (hF : Wide Fc) {nC : Nat} (g i : Nat) (n : Int) (S A1 A2 A3 A4 A5 A6 A7 A8 A9 B1 : List UInt8) (Q : Exit → Act → World → Prop) (df : List Deferred) (w0 : World)
    (hS : w0.cell? ⟨g, i, none⟩ = some (.int .i64 n)) (hi : i < 12) (hW : StdW w0) (lS : S.length ≤ 100) (hA1 : [115, 46] ++ S = A1) (lA1 : A1.length ≤ 200) (hA2 : [115, 46, 48] ++ S = A2) (lA2 : A2.length ≤ 200) (hA3 : [115, 46, 43] ++ S = A3) (lA3 : A3.length ≤ 200) (hA4 : [83, 46] ++ S = A4) (lA4 : A4.length ≤ 200) (hA5 : A1 ++ [32] = A5) (lA5 : A5.length ≤ 200) (hA6 : [115, 46, 32] ++ S = A6) (lA6 : A6.length ≤ 200) (hA7 : [115] ++ S = A7) (lA7 : A7.length ≤ 200) (hA8 : A1 ++ [48, 48, 48, 48, 48, 48, 48, 48, 48, 48, 48, 48, 48, 48, 48, 48, 48, 48, 48, 48, 48, 48] = A8) (lA8 : A8.length ≤ 200) (hA9 : A1 ++ [95, 48] = A9) (lA9 : A9.length ≤ 200) (hB1 : [115, 46, 115, 46] ++ S = B1) (lB1 : B1.length ≤ 200)
    (x : Act) (w : World) (hB : Below w0.heap.size w0 w) (hdef : x.defers = df) (u1 : x.tmps.getD 1 undef = .slice (some ⟨g, 0, none⟩) 12 12) (u2 : x.tmps.getD 2 undef = .int .i64 (i : Nat)) (u3 : x.tmps.getD 3 undef = .string ⟨S.toArray⟩)
    (p30 : mnmR_val g i n S A1 A2 A3 A4 A5 A6 A7 A8 A9 B1 30 (x.tmps.getD 47 undef) w)
    (p29 : mnmR_val g i n S A1 A2 A3 A4 A5 A6 A7 A8 A9 B1 29 (x.tmps.getD 46 undef) w)
    : wpOpIn Fc nC Tryz.prog mnmR_ops Q 31 (fun a' w' => ∃ v, a' = x.put (some 48) v ∧ (v = .string ⟨A4.toArray⟩) ∧ Below w.heap.size w w') x w := by
  have ho : mnmR_ops[31]? = some mnmR_o31 := rfl
  simp only [Array.getD_eq_getD_getElem?] at u1 u2 u3
  have q30 : x.tmps.getD 47 undef = .string ⟨S.toArray⟩ := p30
  have q29 : x.tmps.getD 46 undef = .bool false := p29
  simp only [Array.getD_eq_getD_getElem?] at q30 q29
  have e29 : (mnmR_ops[29]?.bind fun x => x.dst) = some 46 := rfl
  have g29 := get_someT q29 (fun h => by cases h)
  have hl := (show ¬ 9223372036854775807 < 2 + S.length by omega)
  refine wpOpIn_stepT hF ho (fun K hK => ?_)
  clear ho
  rw [Oper.semAt_plain Fc _ _ (by intro c h; cases h)]
  simp only [mnmR_o31]
  go_simp
  exact hK _ _ ⟨_, act_putD x hdef _ _, by rw [← hA4]; exact str_join [83, 46] S, Below.refl _ _⟩
set_option maxRecDepth 100000 in
set_option maxHeartbeats 2000000 in
theorem mnmR_s32 {Fc : Fence} (hF : Wide Fc) {nC : Nat} (g i : Nat) (n : Int) (S A1 A2 A3 A4 A5 A6 A7 A8 A9 B1 : List UInt8) (Q : Exit → Act → World → Prop) (df : List Deferred) (w0 : World)
    (hS : w0.cell? ⟨g, i, none⟩ = some (.int .i64 n)) (hi : i < 12) (hW : StdW w0) (lS : S.length ≤ 100) (hA1 : [115, 46] ++ S = A1) (lA1 : A1.length ≤ 200) (hA2 : [115, 46, 48] ++ S = A2) (lA2 : A2.length ≤ 200) (hA3 : [115, 46, 43] ++ S = A3) (lA3 : A3.length ≤ 200) (hA4 : [83, 46] ++ S = A4) (lA4 : A4.length ≤ 200) (hA5 : A1 ++ [32] = A5) (lA5 : A5.length ≤ 200) (hA6 : [115, 46, 32] ++ S = A6) (lA6 : A6.length ≤ 200) (hA7 : [115] ++ S = A7) (lA7 : A7.length ≤ 200) (hA8 : A1 ++ [48, 48, 48, 48, 48, 48, 48, 48, 48, 48, 48, 48, 48, 48, 48, 48, 48, 48, 48, 48, 48, 48] = A8) (lA8 : A8.length ≤ 200) (hA9 : A1 ++ [95, 48] = A9) (lA9 : A9.length ≤ 200) (hB1 : [115, 46, 115, 46] ++ S = B1) (lB1 : B1.length ≤ 200)
    (x : Act) (w : World) (hB : Below w0.heap.size w0 w) (hdef : x.defers = df) (u1 : x.tmps.getD 1 undef = .slice (some ⟨g, 0, none⟩) 12 12) (u2 : x.tmps.getD 2 undef = .int .i64 (i : Nat)) (u3 : x.tmps.getD 3 undef = .string ⟨S.toArray⟩)
    (p31 : mnmR_val g i n S A1 A2 A3 A4 A5 A6 A7 A8 A9 B1 31 (x.tmps.getD 48 undef) w)
    (p29 : mnmR_val g i n S A1 A2 A3 A4 A5 A6 A7 A8 A9 B1 29 (x.tmps.getD 46 undef) w)
    : wpOpIn Fc nC Tryz.prog mnmR_ops Q 32 (fun a' w' => ∃ v, a' = x.put (some 49) v ∧ (v = .bool true) ∧ Below w.heap.size w w') x w := by
  have ho : mnmR_ops[32]? = some mnmR_o32 := rfl
  simp only [Array.getD_eq_getD_getElem?] at u1 u2 u3
  have q31 : x.tmps.getD 48 undef = .string ⟨A4.toArray⟩ := p31
  have q29 : x.tmps.getD 46 undef = .bool false := p29
  simp only [Array.getD_eq_getD_getElem?] at q31 q29
  have e29 : (mnmR_ops[29]?.bind fun x => x.dst) = some 46 := rfl
  have g29 := get_someT q29 (fun h => by cases h)
  refine wpOpIn_stepT hF ho (fun K hK => ?_)
  clear ho
  rw [Oper.semAt_plain Fc _ _ (by intro c h; cases h)]
  simp only [mnmR_o32]
  go_simp
  refine ⟨hF.deep, (hF.call (name25_any A4 w (by omega) (hW.below hB))).mono ?_⟩
  rintro e w' ⟨rfl, hb⟩
  exact hK _ _ ⟨_, act_putD x hdef _ _, rfl, hb⟩
set_option maxRecDepth 100000 in
set_option maxHeartbeats 2000000 in
theorem mnmR_s33 {Fc : Fence} (hF : Wide Fc) {nC : Nat} (g i : Nat) (n : Int) (S A1 A2 A3 A4 A5 A6 A7 A8 A9 B1 : List UInt8) (Q : Exit → Act → World → Prop) (df : List Deferred) (w0 : World)
    (hS : w0.cell? ⟨g, i, none⟩ = some (.int .i64 n)) (hi : i < 12) (hW : StdW w0) (lS : S.length ≤ 100) (hA1 : [115, 46] ++ S = A1) (lA1 : A1.length ≤ 200) (hA2 : [115, 46, 48] ++ S = A2) (lA2 : A2.length ≤ 200) (hA3 : [115, 46, 43] ++ S = A3) (lA3 : A3.length ≤ 200) (hA4 : [83, 46] ++ S = A4) (lA4 : A4.length ≤ 200) (hA5 : A1 ++ [32] = A5) (lA5 : A5.length ≤ 200) (hA6 : [115, 46, 32] ++ S = A6) (lA6 : A6.length ≤ 200) (hA7 : [115] ++ S = A7) (lA7 : A7.length ≤ 200) (hA8 : A1 ++ [48, 48, 48, 48, 48, 48, 48, 48, 48, 48, 48, 48, 48, 48, 48, 48, 48, 48, 48, 48, 48, 48] = A8) (lA8 : A8.length ≤ 200) (hA9 : A1 ++ [95, 48] = A9) (lA9 : A9.length ≤ 200) (hB1 : [115, 46, 115, 46] ++ S = B1) (lB1 : B1.length ≤ 200)
    (x : Act) (w : World) (hB : Below w0.heap.size w0 w) (hdef : x.defers = df) (u1 : x.tmps.getD 1 undef = .slice (some ⟨g, 0, none⟩) 12 12) (u2 : x.tmps.getD 2 undef = .int .i64 (i : Nat)) (u3 : x.tmps.getD 3 undef = .string ⟨S.toArray⟩)
    (p32 : mnmR_val g i n S A1 A2 A3 A4 A5 A6 A7 A8 A9 B1 32 (x.tmps.getD 49 undef) w)
    (p29 : mnmR_val g i n S A1 A2 A3 A4 A5 A6 A7 A8 A9 B1 29 (x.tmps.getD 46 undef) w)
    : wpOpIn Fc nC Tryz.prog mnmR_ops Q 33 (fun a' w' => ∃ v, a' = x.put (some 50) v ∧ (v = .bool false) ∧ Below w.heap.size w w') x w := by
  have ho : mnmR_ops[33]? = some mnmR_o33 := rfl
  simp only [Array.getD_eq_getD_getElem?] at u1 u2 u3
  have q32 : x.tmps.getD 49 undef = .bool true := p32
  have q29 : x.tmps.getD 46 undef = .bool false := p29
  simp only [Array.getD_eq_getD_getElem?] at q32 q29
  have e29 : (mnmR_ops[29]?.bind fun x => x.dst) = some 46 := rfl
  have g29 := get_someT q29 (fun h => by cases h)
  refine wpOpIn_stepT hF ho (fun K hK => ?_)
  clear ho
  rw [Oper.semAt_plain Fc _ _ (by intro c h; cases h)]
  simp only [mnmR_o33]
  go_simp
  exact hK _ _ ⟨_, act_putD x hdef _ _, rfl, Below.refl _ _⟩
set_option maxRecDepth 100000 in
set_option maxHeartbeats 2000000 in
theorem mnmR_s34 {Fc : Fence} (hF : Wide Fc) {nC : Nat} (g i : Nat) (n : Int) (S A1 A2 A3 A4 A5 A6 A7 A8 A9 B1 : List UInt8) (Q : Exit → Act → World → Prop) (df : List Deferred) (w0 : World)
    (hS : w0.cell? ⟨g, i, none⟩ = some (.int .i64 n)) (hi : i < 12) (hW : StdW w0) (lS : S.length ≤ 100) (hA1 : [115, 46] ++ S = A1) (lA1 : A1.length ≤ 200) (hA2 : [115, 46, 48] ++ S = A2) (lA2 : A2.length ≤ 200) (hA3 : [115, 46, 43] ++ S = A3) (lA3 : A3.length ≤ 200) (hA4 : [83, 46] ++ S = A4) (lA4 : A4.length ≤ 200) (hA5 : A1 ++ [32] = A5) (lA5 : A5.length ≤ 200) (hA6 : [115, 46, 32] ++ S = A6) (lA6 : A6.length ≤ 200) (hA7 : [115] ++ S = A7) (lA7 : A7.length ≤ 200) (hA8 : A1 ++ [48, 48, 48, 48, 48, 48, 48, 48, 48, 48, 48, 48, 48, 48, 48, 48, 48, 48, 48, 48, 48, 48] = A8) (lA8 : A8.length ≤ 200) (hA9 : A1 ++ [95, 48] = A9) (lA9 : A9.length ≤ 200) (hB1 : [115, 46, 115, 46] ++ S = B1) (lB1 : B1.length ≤ 200)
    (x : Act) (w : World) (hB : Below w0.heap.size w0 w) (hdef : x.defers = df) (u1 : x.tmps.getD 1 undef = .slice (some ⟨g, 0, none⟩) 12 12) (u2 : x.tmps.getD 2 undef = .int .i64 (i : Nat)) (u3 : x.tmps.getD 3 undef = .string ⟨S.toArray⟩)
    (p29 : mnmR_val g i n S A1 A2 A3 A4 A5 A6 A7 A8 A9 B1 29 (x.tmps.getD 46 undef) w)
    (p33 : mnmR_val g i n S A1 A2 A3 A4 A5 A6 A7 A8 A9 B1 33 (x.tmps.getD 50 undef) w)
    : wpOpIn Fc nC Tryz.prog mnmR_ops Q 34 (fun a' w' => ∃ v, a' = x.put (some 51) v ∧ (v = .bool false) ∧ Below w.heap.size w w') x w := by
  have ho : mnmR_ops[34]? = some mnmR_o34 := rfl
  simp only [Array.getD_eq_getD_getElem?] at u1 u2 u3
  have q29 : x.tmps.getD 46 undef = .bool false := p29
  have q33 : x.tmps.getD 50 undef = .bool false := p33
  simp only [Array.getD_eq_getD_getElem?] at q29 q33
  refine wpOpIn_plain ho rfl (oper_inK hF.fn (fun K hK => ?_))
  clear ho
  rw [Oper.semAt_plain Fc _ _ (by intro c h; cases h)]
  simp only [mnmR_o34]
  go_simp
  exact hK _ _ ⟨_, act_putD x hdef _ _, rfl, Below.refl _ _⟩
set_option maxRecDepth 100000 in
set_option maxHeartbeats 2000000 in
theorem mnmR_s35 {Fc : Fence} (hF : Wide Fc) {nC : Nat} (g i : Nat) (n : Int) (S A1 A2 A3 A4 A5 A6 A7 A8 A9 B1 : List UInt8) (Q : Exit → Act → World → Prop) (df : List Deferred) (w0 : World)
    (hS : w0.cell? ⟨g, i, none⟩ = some (.int .i64 n)) (hi : i < 12) (hW : StdW w0) (lS : S.length ≤ 100) (hA1 : [115, 46] ++ S = A1) (lA1 : A1.length ≤ 200) (hA2 : [115, 46, 48] ++ S = A2) (lA2 : A2.length ≤ 200) (hA3 : [115, 46, 43] ++ S = A3) (lA3 : A3.length ≤ 200) (hA4 : [83, 46] ++ S = A4) (lA4 : A4.length ≤ 200) (hA5 : A1 ++ [32] = A5) (lA5 : A5.length ≤ 200) (hA6 : [115, 46, 32] ++ S = A6) (lA6 : A6.length ≤ 200) (hA7 : [115] ++ S = A7) (lA7 : A7.length ≤ 200) (hA8 : A1 ++ [48, 48, 48, 48, 48, 48, 48, 48, 48, 48, 48, 48, 48, 48, 48, 48, 48, 48, 48, 48, 48, 48] = A8) (lA8 : A8.length ≤ 200) (hA9 : A1 ++ [95, 48] = A9) (lA9 : A9.length ≤ 200) (hB1 : [115, 46, 115, 46] ++ S = B1) (lB1 : B1.length ≤ 200)
    (x : Act) (w : World) (hB : Below w0.heap.size w0 w) (hdef : x.defers = df) (u1 : x.tmps.getD 1 undef = .slice (some ⟨g, 0, none⟩) 12 12) (u2 : x.tmps.getD 2 undef = .int .i64 (i : Nat)) (u3 : x.tmps.getD 3 undef = .string ⟨S.toArray⟩)
    (p34 : mnmR_val g i n S A1 A2 A3 A4 A5 A6 A7 A8 A9 B1 34 (x.tmps.getD 51 undef) w)
    : wpOpIn Fc nC Tryz.prog mnmR_ops Q 35 (fun a' w' => ∃ v, a' = x.put (some 52) v ∧ (v = .bool false) ∧ Below w.heap.size w w') x w := by
  have ho : mnmR_ops[35]? = some mnmR_o35 := rfl
  simp only [Array.getD_eq_getD_getElem?] at u1 u2 u3
  have q34 : x.tmps.getD 51 undef = .bool false := p34
  simp only [Array.getD_eq_getD_getElem?] at q34
  refine wpOpIn_plain ho rfl (oper_inK hF.fn (fun K hK => ?_))
  clear ho
  rw [Oper.semAt_plain Fc _ _ (by intro c h; cases h)]
  simp only [mnmR_o35]
  go_simp
  exact hK _ _ ⟨_, act_putD x hdef _ _, rfl, Below.refl _ _⟩
set_option maxRecDepth 100000 in
set_option maxHeartbeats 2000000 in
theorem mnmR_s36 {Fc : Fence} (hF : Wide Fc) {nC : Nat} (g i : Nat) (n : Int) (S A1 A2 A3 A4 A5 A6 A7 A8 A9 B1 : List UInt8) (Q : Exit → Act → World → Prop) (df : List Deferred) (w0 : World)
    (hS : w0.cell? ⟨g, i, none⟩ = some (.int .i64 n)) (hi : i < 12) (hW : StdW w0) (lS : S.length ≤ 100) (hA1 : [115, 46] ++ S = A1) (lA1 : A1.length ≤ 200) (hA2 : [115, 46, 48] ++ S = A2) (lA2 : A2.length ≤ 200) (hA3 : [115, 46, 43] ++ S = A3) (lA3 : A3.length ≤ 200) (hA4 : [83, 46] ++ S = A4) (lA4 : A4.length ≤ 200) (hA5 : A1 ++ [32] = A5) (lA5 : A5.length ≤ 200) (hA6 : [115, 46, 32] ++ S = A6) (lA6 : A6.length ≤ 200) (hA7 : [115] ++ S = A7) (lA7 : A7.length ≤ 200) (hA8 : A1 ++ [48, 48, 48, 48, 48, 48, 48, 48, 48, 48, 48, 48, 48, 48, 48, 48, 48, 48, 48, 48, 48, 48] = A8) (lA8 : A8.length ≤ 200) (hA9 : A1 ++ [95, 48] = A9) (lA9 : A9.length ≤ 200) (hB1 : [115, 46, 115, 46] ++ S = B1) (lB1 : B1.length ≤ 200)
    (x : Act) (w : World) (hB : Below w0.heap.size w0 w) (hdef : x.defers = df) (u1 : x.tmps.getD 1 undef = .slice (some ⟨g, 0, none⟩) 12 12) (u2 : x.tmps.getD 2 undef = .int .i64 (i : Nat)) (u3 : x.tmps.getD 3 undef = .string ⟨S.toArray⟩)
    (p35 : mnmR_val g i n S A1 A2 A3 A4 A5 A6 A7 A8 A9 B1 35 (x.tmps.getD 52 undef) w)
    : wpOpIn Fc nC Tryz.prog mnmR_ops Q 36 (fun a' w' => ∃ v, a' = x.put (some 53) v ∧ (v = .string ⟨S.toArray⟩) ∧ Below w.heap.size w w') x w := by
  have ho : mnmR_ops[36]? = some mnmR_o36 := rfl
  simp only [Array.getD_eq_getD_getElem?] at u1 u2 u3
  have q35 : x.tmps.getD 52 undef = .bool false := p35
  simp only [Array.getD_eq_getD_getElem?] at q35
  have e35 : (mnmR_ops[35]?.bind fun x => x.dst) = some 52 := rfl
  have g35 := get_someT q35 (fun h => by cases h)
  refine wpOpIn_stepT hF ho (fun K hK => ?_)
  clear ho
  rw [Oper.semAt_plain Fc _ _ (by intro c h; cases h)]
  simp only [mnmR_o36]
  go_simp
  exact hK _ _ ⟨_, act_putD x hdef _ _, rfl, Below.refl _ _⟩
set_option maxRecDepth 100000 in
set_option maxHeartbeats 2000000 in
theorem mnmR_s37 {Fc : Fence} (hF : Wide Fc) {nC : Nat} (g i : Nat) (n : Int) (S A1 A2 A3 A4 A5 A6 A7 A8 A9 B1 : List UInt8) (Q : Exit → Act → World → Prop) (df : List Deferred) (w0 : World)
    (hS : w0.cell? ⟨g, i, none⟩ = some (.int .i64 n)) (hi : i < 12) (hW : StdW w0) (lS : S.length ≤ 100) (hA1 : [115, 46] ++ S = A1) (lA1 : A1.length ≤ 200) (hA2 : [115, 46, 48] ++ S = A2) (lA2 : A2.length ≤ 200) (hA3 : [115, 46, 43] ++ S = A3) (lA3 : A3.length ≤ 200) (hA4 : [83, 46] ++ S = A4) (lA4 : A4.length ≤ 200) (hA5 : A1 ++ [32] = A5) (lA5 : A5.length ≤ 200) (hA6 : [115, 46, 32] ++ S = A6) (lA6 : A6.length ≤ 200) (hA7 : [115] ++ S = A7) (lA7 : A7.length ≤ 200) (hA8 : A1 ++ [48, 48, 48, 48, 48, 48, 48, 48, 48, 48, 48, 48, 48, 48, 48, 48, 48, 48, 48, 48, 48, 48] = A8) (lA8 : A8.length ≤ 200) (hA9 : A1 ++ [95, 48] = A9) (lA9 : A9.length ≤ 200) (hB1 : [115, 46, 115, 46] ++ S = B1) (lB1 : B1.length ≤ 200)
    (x : Act) (w : World) (hB : Below w0.heap.size w0 w) (hdef : x.defers = df) (u1 : x.tmps.getD 1 undef = .slice (some ⟨g, 0, none⟩) 12 12) (u2 : x.tmps.getD 2 undef = .int .i64 (i : Nat)) (u3 : x.tmps.getD 3 undef = .string ⟨S.toArray⟩)
    (p36 : mnmR_val g i n S A1 A2 A3 A4 A5 A6 A7 A8 A9 B1 36 (x.tmps.getD 53 undef) w)
    (p35 : mnmR_val g i n S A1 A2 A3 A4 A5 A6 A7 A8 A9 B1 35 (x.tmps.getD 52 undef) w)
    : wpOpIn Fc nC Tryz.prog mnmR_ops Q 37 (fun a' w' => ∃ v, a' = x.put (some 54) v ∧ (v = .string ⟨A1.toArray⟩) ∧ Below w.heap.size w w') x w := by
  have ho : mnmR_ops[37]? = some mnmR_o37 := rfl
  simp only [Array.getD_eq_getD_getElem?] at u1 u2 u3
  have q36 : x.tmps.getD 53 undef = .string ⟨S.toArray⟩ := p36
  have q35 : x.tmps.getD 52 undef = .bool false := p35
  simp only [Array.getD_eq_getD_getElem?] at q36 q35
  have e35 : (mnmR_ops[35]?.bind fun x => x.dst) = some 52 := rfl
  have g35 := get_someT q35 (fun h => by cases h)
  have hl := (show ¬ 9223372036854775807 < 2 + S.length by omega)
  refine wpOpIn_stepT hF ho (fun K hK => ?_)
  clear ho
  rw [Oper.semAt_plain Fc _ _ (by intro c h; cases h)]
  simp only [mnmR_o37]
  go_simp
  exact hK _ _ ⟨_, act_putD x hdef _ _, by rw [← hA1]; exact str_join [115, 46] S, Below.refl _ _⟩
set_option maxRecDepth 100000 in
set_option maxHeartbeats 2000000 in
theorem mnmR_s38 {Fc : Fence} (hF : Wide Fc) {nC : Nat} (g i : Nat) (n : Int) (S A1 A2 A3 A4 A5 A6 A7 A8 A9 B1 : List UInt8) (Q : Exit → Act → World → Prop) (df : List Deferred) (w0 : World)
    (hS : w0.cell? ⟨g, i, none⟩ = some (.int .i64 n)) (hi : i < 12) (hW : StdW w0) (lS : S.length ≤ 100) (hA1 : [115, 46] ++ S = A1) (lA1 : A1.length ≤ 200) (hA2 : [115, 46, 48] ++ S = A2) (lA2 : A2.length ≤ 200) (hA3 : [115, 46, 43] ++ S = A3) (lA3 : A3.length ≤ 200) (hA4 : [83, 46] ++ S = A4) (lA4 : A4.length ≤ 200) (hA5 : A1 ++ [32] = A5) (lA5 : A5.length ≤ 200) (hA6 : [115, 46, 32] ++ S = A6) (lA6 : A6.length ≤ 200) (hA7 : [115] ++ S = A7) (lA7 : A7.length ≤ 200) (hA8 : A1 ++ [48, 48, 48, 48, 48, 48, 48, 48, 48, 48, 48, 48, 48, 48, 48, 48, 48, 48, 48, 48, 48, 48] = A8) (lA8 : A8.length ≤ 200) (hA9 : A1 ++ [95, 48] = A9) (lA9 : A9.length ≤ 200) (hB1 : [115, 46, 115, 46] ++ S = B1) (lB1 : B1.length ≤ 200)
    (x : Act) (w : World) (hB : Below w0.heap.size w0 w) (hdef : x.defers = df) (u1 : x.tmps.getD 1 undef = .slice (some ⟨g, 0, none⟩) 12 12) (u2 : x.tmps.getD 2 undef = .int .i64 (i : Nat)) (u3 : x.tmps.getD 3 undef = .string ⟨S.toArray⟩)
    (p37 : mnmR_val g i n S A1 A2 A3 A4 A5 A6 A7 A8 A9 B1 37 (x.tmps.getD 54 undef) w)
    (p35 : mnmR_val g i n S A1 A2 A3 A4 A5 A6 A7 A8 A9 B1 35 (x.tmps.getD 52 undef) w)
    : wpOpIn Fc nC Tryz.prog mnmR_ops Q 38 (fun a' w' => ∃ v, a' = x.put (some 55) v ∧ (v = .string ⟨A5.toArray⟩) ∧ Below w.heap.size w w') x w := by
  have ho : mnmR_ops[38]? = some mnmR_o38 := rfl
  simp only [Array.getD_eq_getD_getElem?] at u1 u2 u3
  have q37 : x.tmps.getD 54 undef = .string ⟨A1.toArray⟩ := p37
  have q35 : x.tmps.getD 52 undef = .bool false := p35
  simp only [Array.getD_eq_getD_getElem?] at q37 q35
  have e35 : (mnmR_ops[35]?.bind fun x => x.dst) = some 52 := rfl
  have g35 := get_someT q35 (fun h => by cases h)
  have hl := (show ¬ 9223372036854775807 < A1.length + 1 by omega)
  refine wpOpIn_stepT hF ho (fun K hK => ?_)
  clear ho
  rw [Oper.semAt_plain Fc _ _ (by intro c h; cases h)]
  simp only [mnmR_o38]
  go_simp
  exact hK _ _ ⟨_, act_putD x hdef _ _, by rw [← hA5]; exact str_join A1 [32], Below.refl _ _⟩
set_option maxRecDepth 100000 in
set_option maxHeartbeats 2000000 in
theorem mnmR_s39 {Fc : Fence} (hF : Wide Fc) {nC : Nat} (g i : Nat) (n : Int) (S A1 A2 A3 A4 A5 A6 A7 A8 A9 B1 : List UInt8) (Q : Exit → Act → World → Prop) (df : List Deferred) (w0 : World)
    (hS : w0.cell? ⟨g, i, none⟩ = some (.int .i64 n)) (hi : i < 12) (hW : StdW w0) (lS : S.length ≤ 100) (hA1 : [115, 46] ++ S = A1) (lA1 : A1.length ≤ 200) (hA2 : [115, 46, 48] ++ S = A2) (lA2 : A2.length ≤ 200) (hA3 : [115, 46, 43] ++ S = A3) (lA3 : A3.length ≤ 200) (hA4 : [83, 46] ++ S = A4) (lA4 : A4.length ≤ 200) (hA5 : A1 ++ [32] = A5) (lA5 : A5.length ≤ 200) (hA6 : [115, 46, 32] ++ S = A6) (lA6 : A6.length ≤ 200) (hA7 : [115] ++ S = A7) (lA7 : A7.length ≤ 200) (hA8 : A1 ++ [48, 48, 48, 48, 48, 48, 48, 48, 48, 48, 48, 48, 48, 48, 48, 48, 48, 48, 48, 48, 48, 48] = A8) (lA8 : A8.length ≤ 200) (hA9 : A1 ++ [95, 48] = A9) (lA9 : A9.length ≤ 200) (hB1 : [115, 46, 115, 46] ++ S = B1) (lB1 : B1.length ≤ 200)
    (x : Act) (w : World) (hB : Below w0.heap.size w0 w) (hdef : x.defers = df) (u1 : x.tmps.getD 1 undef = .slice (some ⟨g, 0, none⟩) 12 12) (u2 : x.tmps.getD 2 undef = .int .i64 (i : Nat)) (u3 : x.tmps.getD 3 undef = .string ⟨S.toArray⟩)
    (p38 : mnmR_val g i n S A1 A2 A3 A4 A5 A6 A7 A8 A9 B1 38 (x.tmps.getD 55 undef) w)
    (p35 : mnmR_val g i n S A1 A2 A3 A4 A5 A6 A7 A8 A9 B1 35 (x.tmps.getD 52 undef) w)
    : wpOpIn Fc nC Tryz.prog mnmR_ops Q 39 (fun a' w' => ∃ v, a' = x.put (some 56) v ∧ (v = .bool true) ∧ Below w.heap.size w w') x w := by
  have ho : mnmR_ops[39]? = some mnmR_o39 := rfl
  simp only [Array.getD_eq_getD_getElem?] at u1 u2 u3
  have q38 : x.tmps.getD 55 undef = .string ⟨A5.toArray⟩ := p38
  have q35 : x.tmps.getD 52 undef = .bool false := p35
  simp only [Array.getD_eq_getD_getElem?] at q38 q35
  have e35 : (mnmR_ops[35]?.bind fun x => x.dst) = some 52 := rfl
  have g35 := get_someT q35 (fun h => by cases h)
  refine wpOpIn_stepT hF ho (fun K hK => ?_)
  clear ho
  rw [Oper.semAt_plain Fc _ _ (by intro c h; cases h)]
  simp only [mnmR_o39]
  go_simp
  refine ⟨hF.deep, (hF.call (name25_any A5 w (by omega) (hW.below hB))).mono ?_⟩
  rintro e w' ⟨rfl, hb⟩
  exact hK _ _ ⟨_, act_putD x hdef _ _, rfl, hb⟩
set_option maxRecDepth 100000 in
set_option maxHeartbeats 2000000 in
theorem mnmR_s40 {Fc : Fence} (hF : Wide Fc) {nC : Nat} (g i : Nat) (n : Int) (S A1 A2 A3 A4 A5 A6 A7 A8 A9 B1 : List UInt8) (Q : Exit → Act → World → Prop) (df : List Deferred) (w0 : World)
    (hS : w0.cell? ⟨g, i, none⟩ = some (.int .i64 n)) (hi : i < 12) (hW : StdW w0) (lS : S.length ≤ 100) (hA1 : [115, 46] ++ S = A1) (lA1 : A1.length ≤ 200) (hA2 : [115, 46, 48] ++ S = A2) (lA2 : A2.length ≤ 200) (hA3 : [115, 46, 43] ++ S = A3) (lA3 : A3.length ≤ 200) (hA4 : [83, 46] ++ S = A4) (lA4 : A4.length ≤ 200) (hA5 : A1 ++ [32] = A5) (lA5 : A5.length ≤ 200) (hA6 : [115, 46, 32] ++ S = A6) (lA6 : A6.length ≤ 200) (hA7 : [115] ++ S = A7) (lA7 : A7.length ≤ 200) (hA8 : A1 ++ [48, 48, 48, 48, 48, 48, 48, 48, 48, 48, 48, 48, 48, 48, 48, 48, 48, 48, 48, 48, 48, 48] = A8) (lA8 : A8.length ≤ 200) (hA9 : A1 ++ [95, 48] = A9) (lA9 : A9.length ≤ 200) (hB1 : [115, 46, 115, 46] ++ S = B1) (lB1 : B1.length ≤ 200)
    (x : Act) (w : World) (hB : Below w0.heap.size w0 w) (hdef : x.defers = df) (u1 : x.tmps.getD 1 undef = .slice (some ⟨g, 0, none⟩) 12 12) (u2 : x.tmps.getD 2 undef = .int .i64 (i : Nat)) (u3 : x.tmps.getD 3 undef = .string ⟨S.toArray⟩)
    (p39 : mnmR_val g i n S A1 A2 A3 A4 A5 A6 A7 A8 A9 B1 39 (x.tmps.getD 56 undef) w)
    (p35 : mnmR_val g i n S A1 A2 A3 A4 A5 A6 A7 A8 A9 B1 35 (x.tmps.getD 52 undef) w)
    : wpOpIn Fc nC Tryz.prog mnmR_ops Q 40 (fun a' w' => ∃ v, a' = x.put (some 57) v ∧ (v = .bool false) ∧ Below w.heap.size w w') x w := by
  have ho : mnmR_ops[40]? = some mnmR_o40 := rfl
  simp only [Array.getD_eq_getD_getElem?] at u1 u2 u3
  have q39 : x.tmps.getD 56 undef = .bool true := p39
  have q35 : x.tmps.getD 52 undef = .bool false := p35
  simp only [Array.getD_eq_getD_getElem?] at q39 q35
  have e35 : (mnmR_ops[35]?.bind fun x => x.dst) = some 52 := rfl
  have g35 := get_someT q35 (fun h => by cases h)
  refine wpOpIn_stepT hF ho (fun K hK => ?_)
  clear ho
  rw [Oper.semAt_plain Fc _ _ (by intro c h; cases h)]
  simp only [mnmR_o40]
  go_simp
  exact hK _ _ ⟨_, act_putD x hdef _ _, rfl, Below.refl _ _⟩
set_option maxRecDepth 100000 in
set_option maxHeartbeats 2000000 in
theorem mnmR_s41 {Fc : Fence} (hF : Wide Fc) {nC : Nat} (g i : Nat) (n : Int) (S A1 A2 A3 A4 A5 A6 A7 A8 A9 B1 : List UInt8) (Q : Exit → Act → World → Prop) (df : List Deferred) (w0 : World)
    (hS : w0.cell? ⟨g, i, none⟩ = some (.int .i64 n)) (hi : i < 12) (hW : StdW w0) (lS : S.length ≤ 100) (hA1 : [115, 46] ++ S = A1) (lA1 : A1.length ≤ 200) (hA2 : [115, 46, 48] ++ S = A2) (lA2 : A2.length ≤ 200) (hA3 : [115, 46, 43] ++ S = A3) (lA3 : A3.length ≤ 200) (hA4 : [83, 46] ++ S = A4) (lA4 : A4.length ≤ 200) (hA5 : A1 ++ [32] = A5) (lA5 : A5.length ≤ 200) (hA6 : [115, 46, 32] ++ S = A6) (lA6 : A6.length ≤ 200) (hA7 : [115] ++ S = A7) (lA7 : A7.length ≤ 200) (hA8 : A1 ++ [48, 48, 48, 48, 48, 48, 48, 48, 48, 48, 48, 48, 48, 48, 48, 48, 48, 48, 48, 48, 48, 48] = A8) (lA8 : A8.length ≤ 200) (hA9 : A1 ++ [95, 48] = A9) (lA9 : A9.length ≤ 200) (hB1 : [115, 46, 115, 46] ++ S = B1) (lB1 : B1.length ≤ 200)
    (x : Act) (w : World) (hB : Below w0.heap.size w0 w) (hdef : x.defers = df) (u1 : x.tmps.getD 1 undef = .slice (some ⟨g, 0, none⟩) 12 12) (u2 : x.tmps.getD 2 undef = .int .i64 (i : Nat)) (u3 : x.tmps.getD 3 undef = .string ⟨S.toArray⟩)
    (p35 : mnmR_val g i n S A1 A2 A3 A4 A5 A6 A7 A8 A9 B1 35 (x.tmps.getD 52 undef) w)
    (p40 : mnmR_val g i n S A1 A2 A3 A4 A5 A6 A7 A8 A9 B1 40 (x.tmps.getD 57 undef) w)
    : wpOpIn Fc nC Tryz.prog mnmR_ops Q 41 (fun a' w' => ∃ v, a' = x.put (some 58) v ∧ (v = .bool false) ∧ Below w.heap.size w w') x w := by
  have ho : mnmR_ops[41]? = some mnmR_o41 := rfl
  simp only [Array.getD_eq_getD_getElem?] at u1 u2 u3
  have q35 : x.tmps.getD 52 undef = .bool false := p35
  have q40 : x.tmps.getD 57 undef = .bool false := p40
  simp only [Array.getD_eq_getD_getElem?] at q35 q40
  refine wpOpIn_plain ho rfl (oper_inK hF.fn (fun K hK => ?_))
  clear ho
  rw [Oper.semAt_plain Fc _ _ (by intro c h; cases h)]
  simp only [mnmR_o41]
  go_simp
  exact hK _ _ ⟨_, act_putD x hdef _ _, rfl, Below.refl _ _⟩
set_option maxRecDepth 100000 in
set_option maxHeartbeats 2000000 in
theorem mnmR_s42 {Fc : Fence} (hF : Wide Fc) {nC : Nat} (g i : Nat) (n : Int) (S A1 A2 A3 A4 A5 A6 A7 A8 A9 B1 : List UInt8) (Q : Exit → Act → World → Prop) (df : List Deferred) (w0 : World)
    (hS : w0.cell? ⟨g, i, none⟩ = some (.int .i64 n)) (hi : i < 12) (hW : StdW w0) (lS : S.length ≤ 100) (hA1 : [115, 46] ++ S = A1) (lA1 : A1.length ≤ 200) (hA2 : [115, 46, 48] ++ S = A2) (lA2 : A2.length ≤ 200) (hA3 : [115, 46, 43] ++ S = A3) (lA3 : A3.length ≤ 200) (hA4 : [83, 46] ++ S = A4) (lA4 : A4.length ≤ 200) (hA5 : A1 ++ [32] = A5) (lA5 : A5.length ≤ 200) (hA6 : [115, 46, 32] ++ S = A6) (lA6 : A6.length ≤ 200) (hA7 : [115] ++ S = A7) (lA7 : A7.length ≤ 200) (hA8 : A1 ++ [48, 48, 48, 48, 48, 48, 48, 48, 48, 48, 48, 48, 48, 48, 48, 48, 48, 48, 48, 48, 48, 48] = A8) (lA8 : A8.length ≤ 200) (hA9 : A1 ++ [95, 48] = A9) (lA9 : A9.length ≤ 200) (hB1 : [115, 46, 115, 46] ++ S = B1) (lB1 : B1.length ≤ 200)
    (x : Act) (w : World) (hB : Below w0.heap.size w0 w) (hdef : x.defers = df) (u1 : x.tmps.getD 1 undef = .slice (some ⟨g, 0, none⟩) 12 12) (u2 : x.tmps.getD 2 undef = .int .i64 (i : Nat)) (u3 : x.tmps.getD 3 undef = .string ⟨S.toArray⟩)
    (p41 : mnmR_val g i n S A1 A2 A3 A4 A5 A6 A7 A8 A9 B1 41 (x.tmps.getD 58 undef) w)
    : wpOpIn Fc nC Tryz.prog mnmR_ops Q 42 (fun a' w' => ∃ v, a' = x.put (some 59) v ∧ (v = .bool false) ∧ Below w.heap.size w w') x w := by
  have ho : mnmR_ops[42]? = some mnmR_o42 := rfl
  simp only [Array.getD_eq_getD_getElem?] at u1 u2 u3
  have q41 : x.tmps.getD 58 undef = .bool false := p41
  simp only [Array.getD_eq_getD_getElem?] at q41
  refine wpOpIn_plain ho rfl (oper_inK hF.fn (fun K hK => ?_))
  clear ho
  rw [Oper.semAt_plain Fc _ _ (by intro c h; cases h)]
  simp only [mnmR_o42]
  go_simp
  exact hK _ _ ⟨_, act_putD x hdef _ _, rfl, Below.refl _ _⟩
set_option maxRecDepth 100000 in
set_option maxHeartbeats 2000000 in
theorem mnmR_s43 {Fc : Fence} (hF : Wide Fc) {nC : Nat} (g i : Nat) (n : Int) (S A1 A2 A3 A4 A5 A6 A7 A8 A9 B1 : List UInt8) (Q : Exit → Act → World → Prop) (df : List Deferred) (w0 : World)
    (hS : w0.cell? ⟨g, i, none⟩ = some (.int .i64 n)) (hi : i < 12) (hW : StdW w0) (lS : S.length ≤ 100) (hA1 : [115, 46] ++ S = A1) (lA1 : A1.length ≤ 200) (hA2 : [115, 46, 48] ++ S = A2) (lA2 : A2.length ≤ 200) (hA3 : [115, 46, 43] ++ S = A3) (lA3 : A3.length ≤ 200) (hA4 : [83, 46] ++ S = A4) (lA4 : A4.length ≤ 200) (hA5 : A1 ++ [32] = A5) (lA5 : A5.length ≤ 200) (hA6 : [115, 46, 32] ++ S = A6) (lA6 : A6.length ≤ 200) (hA7 : [115] ++ S = A7) (lA7 : A7.length ≤ 200) (hA8 : A1 ++ [48, 48, 48, 48, 48, 48, 48, 48, 48, 48, 48, 48, 48, 48, 48, 48, 48, 48, 48, 48, 48, 48] = A8) (lA8 : A8.length ≤ 200) (hA9 : A1 ++ [95, 48] = A9) (lA9 : A9.length ≤ 200) (hB1 : [115, 46, 115, 46] ++ S = B1) (lB1 : B1.length ≤ 200)
    (x : Act) (w : World) (hB : Below w0.heap.size w0 w) (hdef : x.defers = df) (u1 : x.tmps.getD 1 undef = .slice (some ⟨g, 0, none⟩) 12 12) (u2 : x.tmps.getD 2 undef = .int .i64 (i : Nat)) (u3 : x.tmps.getD 3 undef = .string ⟨S.toArray⟩)
    (p42 : mnmR_val g i n S A1 A2 A3 A4 A5 A6 A7 A8 A9 B1 42 (x.tmps.getD 59 undef) w)
    : wpOpIn Fc nC Tryz.prog mnmR_ops Q 43 (fun a' w' => ∃ v, a' = x.put (some 60) v ∧ (v = .string ⟨S.toArray⟩) ∧ Below w.heap.size w w') x w := by
  have ho : mnmR_ops[43]? = some mnmR_o43 := rfl
  simp only [Array.getD_eq_getD_getElem?] at u1 u2 u3
  have q42 : x.tmps.getD 59 undef = .bool false := p42
  simp only [Array.getD_eq_getD_getElem?] at q42
  have e42 : (mnmR_ops[42]?.bind fun x => x.dst) = some 59 := rfl
  have g42 := get_someT q42 (fun h => by cases h)
  refine wpOpIn_stepT hF ho (fun K hK => ?_)
  clear ho
  rw [Oper.semAt_plain Fc _ _ (by intro c h; cases h)]
  simp only [mnmR_o43]
  go_simp
  exact hK _ _ ⟨_, act_putD x hdef _ _, rfl, Below.refl _ _⟩
set_option maxRecDepth 100000 in
set_option maxHeartbeats 2000000 in
theorem mnmR_s44 {Fc : Fence} (hF : Wide Fc) {nC : Nat} (g i : Nat) (n : Int) (S A1 A2 A3 A4 A5 A6 A7 A8 A9 B1 : List UInt8) (Q : Exit → Act → World → Prop) (df : List Deferred) (w0 : World)
    (hS : w0.cell? ⟨g, i, none⟩ = some (.int .i64 n)) (hi : i < 12) (hW : StdW w0) (lS : S.length ≤ 100) (hA1 : [115, 46] ++ S = A1) (lA1 : A1.length ≤ 200) (hA2 : [115, 46, 48] ++ S = A2) (lA2 : A2.length ≤ 200) (hA3 : [115, 46, 43] ++ S = A3) (lA3 : A3.length ≤ 200) (hA4 : [83, 46] ++ S = A4) (lA4 : A4.length ≤ 200) (hA5 : A1 ++ [32] = A5) (lA5 : A5.length ≤ 200) (hA6 : [115, 46, 32] ++ S = A6) (lA6 : A6.length ≤ 200) (hA7 : [115] ++ S = A7) (lA7 : A7.length ≤ 200) (hA8 : A1 ++ [48, 48, 48, 48, 48, 48, 48, 48, 48, 48, 48, 48, 48, 48, 48, 48, 48, 48, 48, 48, 48, 48] = A8) (lA8 : A8.length ≤ 200) (hA9 : A1 ++ [95, 48] = A9) (lA9 : A9.length ≤ 200) (hB1 : [115, 46, 115, 46] ++ S = B1) (lB1 : B1.length ≤ 200)
    (x : Act) (w : World) (hB : Below w0.heap.size w0 w) (hdef : x.defers = df) (u1 : x.tmps.getD 1 undef = .slice (some ⟨g, 0, none⟩) 12 12) (u2 : x.tmps.getD 2 undef = .int .i64 (i : Nat)) (u3 : x.tmps.getD 3 undef = .string ⟨S.toArray⟩)
    (p43 : mnmR_val g i n S A1 A2 A3 A4 A5 A6 A7 A8 A9 B1 43 (x.tmps.getD 60 undef) w)
    (p42 : mnmR_val g i n S A1 A2 A3 A4 A5 A6 A7 A8 A9 B1 42 (x.tmps.getD 59 undef) w)
    : wpOpIn Fc nC Tryz.prog mnmR_ops Q 44 (fun a' w' => ∃ v, a' = x.put (some 61) v ∧ (v = .string ⟨A6.toArray⟩) ∧ Below w.heap.size w w') x w := by
  have ho : mnmR_ops[44]? = some mnmR_o44 := rfl
  simp only [Array.getD_eq_getD_getElem?] at u1 u2 u3
  have q43 : x.tmps.getD 60 undef = .string ⟨S.toArray⟩ := p43
  have q42 : x.tmps.getD 59 undef = .bool false := p42
  simp only [Array.getD_eq_getD_getElem?] at q43 q42
  have e42 : (mnmR_ops[42]?.bind fun x => x.dst) = some 59 := rfl
  have g42 := get_someT q42 (fun h => by cases h)
  have hl := (show ¬ 9223372036854775807 < 3 + S.length by omega)
  refine wpOpIn_stepT hF ho (fun K hK => ?_)
  clear ho
  rw [Oper.semAt_plain Fc _ _ (by intro c h; cases h)]
  simp only [mnmR_o44]
  go_simp
  exact hK _ _ ⟨_, act_putD x hdef _ _, by rw [← hA6]; exact str_join [115, 46, 32] S, Below.refl _ _⟩
set_option maxRecDepth 100000 in
set_option maxHeartbeats 2000000 in
theorem mnmR_s45 {Fc : Fence} (hF : Wide Fc) {nC : Nat} (g i : Nat) (n : Int) (S A1 A2 A3 A4 A5 A6 A7 A8 A9 B1 : List UInt8) (Q : Exit → Act → World → Prop) (df : List Deferred) (w0 : World)
    (hS : w0.cell? ⟨g, i, none⟩ = some (.int .i64 n)) (hi : i < 12) (hW : StdW w0) (lS : S.length ≤ 100) (hA1 : [115, 46] ++ S = A1) (lA1 : A1.length ≤ 200) (hA2 : [115, 46, 48] ++ S = A2) (lA2 : A2.length ≤ 200) (hA3 : [115, 46, 43] ++ S = A3) (lA3 : A3.length ≤ 200) (hA4 : [83, 46] ++ S = A4) (lA4 : A4.length ≤ 200) (hA5 : A1 ++ [32] = A5) (lA5 : A5.length ≤ 200) (hA6 : [115, 46, 32] ++ S = A6) (lA6 : A6.length ≤ 200) (hA7 : [115] ++ S = A7) (lA7 : A7.length ≤ 200) (hA8 : A1 ++ [48, 48, 48, 48, 48, 48, 48, 48, 48, 48, 48, 48, 48, 48, 48, 48, 48, 48, 48, 48, 48, 48] = A8) (lA8 : A8.length ≤ 200) (hA9 : A1 ++ [95, 48] = A9) (lA9 : A9.length ≤ 200) (hB1 : [115, 46, 115, 46] ++ S = B1) (lB1 : B1.length ≤ 200)
    (x : Act) (w : World) (hB : Below w0.heap.size w0 w) (hdef : x.defers = df) (u1 : x.tmps.getD 1 undef = .slice (some ⟨g, 0, none⟩) 12 12) (u2 : x.tmps.getD 2 undef = .int .i64 (i : Nat)) (u3 : x.tmps.getD 3 undef = .string ⟨S.toArray⟩)
    (p44 : mnmR_val g i n S A1 A2 A3 A4 A5 A6 A7 A8 A9 B1 44 (x.tmps.getD 61 undef) w)
    (p42 : mnmR_val g i n S A1 A2 A3 A4 A5 A6 A7 A8 A9 B1 42 (x.tmps.getD 59 undef) w)
    : wpOpIn Fc nC Tryz.prog mnmR_ops Q 45 (fun a' w' => ∃ v, a' = x.put (some 62) v ∧ (v = .bool true) ∧ Below w.heap.size w w') x w := by
  have ho : mnmR_ops[45]? = some mnmR_o45 := rfl
  simp only [Array.getD_eq_getD_getElem?] at u1 u2 u3
  have q44 : x.tmps.getD 61 undef = .string ⟨A6.toArray⟩ := p44
  have q42 : x.tmps.getD 59 undef = .bool false := p42
  simp only [Array.getD_eq_getD_getElem?] at q44 q42
  have e42 : (mnmR_ops[42]?.bind fun x => x.dst) = some 59 := rfl
  have g42 := get_someT q42 (fun h => by cases h)
  refine wpOpIn_stepT hF ho (fun K hK => ?_)
  clear ho
  rw [Oper.semAt_plain Fc _ _ (by intro c h; cases h)]
  simp only [mnmR_o45]
  go_simp
  refine ⟨hF.deep, (hF.call (name25_any A6 w (by omega) (hW.below hB))).mono ?_⟩
  rintro e w' ⟨rfl, hb⟩
  exact hK _ _ ⟨_, act_putD x hdef _ _, rfl, hb⟩
set_option maxRecDepth 100000 in
set_option maxHeartbeats 2000000 in
theorem mnmR_s46 {Fc : Fence} (hF : Wide Fc) {nC : Nat} (g i : Nat) (n : Int) (S A1 A2 A3 A4 A5 A6 A7 A8 A9 B1 : List UInt8) (Q : Exit → Act → World → Prop) (df : List Deferred) (w0 : World)
    (hS : w0.cell? ⟨g, i, none⟩ = some (.int .i64 n)) (hi : i < 12) (hW : StdW w0) (lS : S.length ≤ 100) (hA1 : [115, 46] ++ S = A1) (lA1 : A1.length ≤ 200) (hA2 : [115, 46, 48] ++ S = A2) (lA2 : A2.length ≤ 200) (hA3 : [115, 46, 43] ++ S = A3) (lA3 : A3.length ≤ 200) (hA4 : [83, 46] ++ S = A4) (lA4 : A4.length ≤ 200) (hA5 : A1 ++ [32] = A5) (lA5 : A5.length ≤ 200) (hA6 : [115, 46, 32] ++ S = A6) (lA6 : A6.length ≤ 200) (hA7 : [115] ++ S = A7) (lA7 : A7.length ≤ 200) (hA8 : A1 ++ [48, 48, 48, 48, 48, 48, 48, 48, 48, 48, 48, 48, 48, 48, 48, 48, 48, 48, 48, 48, 48, 48] = A8) (lA8 : A8.length ≤ 200) (hA9 : A1 ++ [95, 48] = A9) (lA9 : A9.length ≤ 200) (hB1 : [115, 46, 115, 46] ++ S = B1) (lB1 : B1.length ≤ 200)
    (x : Act) (w : World) (hB : Below w0.heap.size w0 w) (hdef : x.defers = df) (u1 : x.tmps.getD 1 undef = .slice (some ⟨g, 0, none⟩) 12 12) (u2 : x.tmps.getD 2 undef = .int .i64 (i : Nat)) (u3 : x.tmps.getD 3 undef = .string ⟨S.toArray⟩)
    (p45 : mnmR_val g i n S A1 A2 A3 A4 A5 A6 A7 A8 A9 B1 45 (x.tmps.getD 62 undef) w)
    (p42 : mnmR_val g i n S A1 A2 A3 A4 A5 A6 A7 A8 A9 B1 42 (x.tmps.getD 59 undef) w)
    : wpOpIn Fc nC Tryz.prog mnmR_ops Q 46 (fun a' w' => ∃ v, a' = x.put (some 63) v ∧ (v = .bool false) ∧ Below w.heap.size w w') x w := by
  have ho : mnmR_ops[46]? = some mnmR_o46 := rfl
  simp only [Array.getD_eq_getD_getElem?] at u1 u2 u3
  have q45 : x.tmps.getD 62 undef = .bool true := p45
  have q42 : x.tmps.getD 59 undef = .bool false := p42
  simp only [Array.getD_eq_getD_getElem?] at q45 q42
  have e42 : (mnmR_ops[42]?.bind fun x => x.dst) = some 59 := rfl
  have g42 := get_someT q42 (fun h => by cases h)
  refine wpOpIn_stepT hF ho (fun K hK => ?_)
  clear ho
  rw [Oper.semAt_plain Fc _ _ (by intro c h; cases h)]
  simp only [mnmR_o46]
  go_simp
  exact hK _ _ ⟨_, act_putD x hdef _ _, rfl, Below.refl _ _⟩
set_option maxRecDepth 100000 in
set_option maxHeartbeats 2000000 in
theorem mnmR_s47 {Fc : Fence} (hF : Wide Fc) {nC : Nat} (g i : Nat) (n : Int) (S A1 A2 A3 A4 A5 A6 A7 A8 A9 B1 : List UInt8) (Q : Exit → Act → World → Prop) (df : List Deferred) (w0 : World)
    (hS : w0.cell? ⟨g, i, none⟩ = some (.int .i64 n)) (hi : i < 12) (hW : StdW w0) (lS : S.length ≤ 100) (hA1 : [115, 46] ++ S = A1) (lA1 : A1.length ≤ 200) (hA2 : [115, 46, 48] ++ S = A2) (lA2 : A2.length ≤ 200) (hA3 : [115, 46, 43] ++ S = A3) (lA3 : A3.length ≤ 200) (hA4 : [83, 46] ++ S = A4) (lA4 : A4.length ≤ 200) (hA5 : A1 ++ [32] = A5) (lA5 : A5.length ≤ 200) (hA6 : [115, 46, 32] ++ S = A6) (lA6 : A6.length ≤ 200) (hA7 : [115] ++ S = A7) (lA7 : A7.length ≤ 200) (hA8 : A1 ++ [48, 48, 48, 48, 48, 48, 48, 48, 48, 48, 48, 48, 48, 48, 48, 48, 48, 48, 48, 48, 48, 48] = A8) (lA8 : A8.length ≤ 200) (hA9 : A1 ++ [95, 48] = A9) (lA9 : A9.length ≤ 200) (hB1 : [115, 46, 115, 46] ++ S = B1) (lB1 : B1.length ≤ 200)
    (x : Act) (w : World) (hB : Below w0.heap.size w0 w) (hdef : x.defers = df) (u1 : x.tmps.getD 1 undef = .slice (some ⟨g, 0, none⟩) 12 12) (u2 : x.tmps.getD 2 undef = .int .i64 (i : Nat)) (u3 : x.tmps.getD 3 undef = .string ⟨S.toArray⟩)
    (p42 : mnmR_val g i n S A1 A2 A3 A4 A5 A6 A7 A8 A9 B1 42 (x.tmps.getD 59 undef) w)
    (p46 : mnmR_val g i n S A1 A2 A3 A4 A5 A6 A7 A8 A9 B1 46 (x.tmps.getD 63 undef) w)
    : wpOpIn Fc nC Tryz.prog mnmR_ops Q 47 (fun a' w' => ∃ v, a' = x.put (some 64) v ∧ (v = .bool false) ∧ Below w.heap.size w w') x w := by
  have ho : mnmR_ops[47]? = some mnmR_o47 := rfl
  simp only [Array.getD_eq_getD_getElem?] at u1 u2 u3
  have q42 : x.tmps.getD 59 undef = .bool false := p42
  have q46 : x.tmps.getD 63 undef = .bool false := p46
  simp only [Array.getD_eq_getD_getElem?] at q42 q46
  refine wpOpIn_plain ho rfl (oper_inK hF.fn (fun K hK => ?_))
  clear ho
  rw [Oper.semAt_plain Fc _ _ (by intro c h; cases h)]
  simp only [mnmR_o47]
  go_simp
  exact hK _ _ ⟨_, act_putD x hdef _ _, rfl, Below.refl _ _⟩
set_option maxRecDepth 100000 in
set_option maxHeartbeats 2000000 in
theorem mnmR_s48 {Fc : Fence} (hF : Wide Fc) {nC : Nat} (g i : Nat) (n : Int) (S A1 A2 A3 A4 A5 A6 A7 A8 A9 B1 : List UInt8) (Q : Exit → Act → World → Prop) (df : List Deferred) (w0 : World)
    (hS : w0.cell? ⟨g, i, none⟩ = some (.int .i64 n)) (hi : i < 12) (hW : StdW w0) (lS : S.length ≤ 100) (hA1 : [115, 46] ++ S = A1) (lA1 : A1.length ≤ 200) (hA2 : [115, 46, 48] ++ S = A2) (lA2 : A2.length ≤ 200) (hA3 : [115, 46, 43] ++ S = A3) (lA3 : A3.length ≤ 200) (hA4 : [83, 46] ++ S = A4) (lA4 : A4.length ≤ 200) (hA5 : A1 ++ [32] = A5) (lA5 : A5.length ≤ 200) (hA6 : [115, 46, 32] ++ S = A6) (lA6 : A6.length ≤ 200) (hA7 : [115] ++ S = A7) (lA7 : A7.length ≤ 200) (hA8 : A1 ++ [48, 48, 48, 48, 48, 48, 48, 48, 48, 48, 48, 48, 48, 48, 48, 48, 48, 48, 48, 48, 48, 48] = A8) (lA8 : A8.length ≤ 200) (hA9 : A1 ++ [95, 48] = A9) (lA9 : A9.length ≤ 200) (hB1 : [115, 46, 115, 46] ++ S = B1) (lB1 : B1.length ≤ 200)
    (x : Act) (w : World) (hB : Below w0.heap.size w0 w) (hdef : x.defers = df) (u1 : x.tmps.getD 1 undef = .slice (some ⟨g, 0, none⟩) 12 12) (u2 : x.tmps.getD 2 undef = .int .i64 (i : Nat)) (u3 : x.tmps.getD 3 undef = .string ⟨S.toArray⟩)
    (p47 : mnmR_val g i n S A1 A2 A3 A4 A5 A6 A7 A8 A9 B1 47 (x.tmps.getD 64 undef) w)
    : wpOpIn Fc nC Tryz.prog mnmR_ops Q 48 (fun a' w' => ∃ v, a' = x.put (some 65) v ∧ (v = .bool false) ∧ Below w.heap.size w w') x w := by
  have ho : mnmR_ops[48]? = some mnmR_o48 := rfl
  simp only [Array.getD_eq_getD_getElem?] at u1 u2 u3
  have q47 : x.tmps.getD 64 undef = .bool false := p47
  simp only [Array.getD_eq_getD_getElem?] at q47
  refine wpOpIn_plain ho rfl (oper_inK hF.fn (fun K hK => ?_))
  clear ho
  rw [Oper.semAt_plain Fc _ _ (by intro c h; cases h)]
  simp only [mnmR_o48]
  go_simp
  exact hK _ _ ⟨_, act_putD x hdef _ _, rfl, Below.refl _ _⟩
set_option maxRecDepth 100000 in
set_option maxHeartbeats 2000000 in
theorem mnmR_s49 {Fc : Fence} (hF : Wide Fc) {nC : Nat} (g i : Nat) (n : Int) (S A1 A2 A3 A4 A5 A6 A7 A8 A9 B1 : List UInt8) (Q : Exit → Act → World → Prop) (df : List Deferred) (w0 : World)
    (hS : w0.cell? ⟨g, i, none⟩ = some (.int .i64 n)) (hi : i < 12) (hW : StdW w0) (lS : S.length ≤ 100) (hA1 : [115, 46] ++ S = A1) (lA1 : A1.length ≤ 200) (hA2 : [115, 46, 48] ++ S = A2) (lA2 : A2.length ≤ 200) (hA3 : [115, 46, 43] ++ S = A3) (lA3 : A3.length ≤ 200) (hA4 : [83, 46] ++ S = A4) (lA4 : A4.length ≤ 200) (hA5 : A1 ++ [32] = A5) (lA5 : A5.length ≤ 200) (hA6 : [115, 46, 32] ++ S = A6) (lA6 : A6.length ≤ 200) (hA7 : [115] ++ S = A7) (lA7 : A7.length ≤ 200) (hA8 : A1 ++ [48, 48, 48, 48, 48, 48, 48, 48, 48, 48, 48, 48, 48, 48, 48, 48, 48, 48, 48, 48, 48, 48] = A8) (lA8 : A8.length ≤ 200) (hA9 : A1 ++ [95, 48] = A9) (lA9 : A9.length ≤ 200) (hB1 : [115, 46, 115, 46] ++ S = B1) (lB1 : B1.length ≤ 200)
    (x : Act) (w : World) (hB : Below w0.heap.size w0 w) (hdef : x.defers = df) (u1 : x.tmps.getD 1 undef = .slice (some ⟨g, 0, none⟩) 12 12) (u2 : x.tmps.getD 2 undef = .int .i64 (i : Nat)) (u3 : x.tmps.getD 3 undef = .string ⟨S.toArray⟩)
    (p48 : mnmR_val g i n S A1 A2 A3 A4 A5 A6 A7 A8 A9 B1 48 (x.tmps.getD 65 undef) w)
    : wpOpIn Fc nC Tryz.prog mnmR_ops Q 49 (fun a' w' => ∃ v, a' = x.put (some 66) v ∧ (v = .string ⟨S.toArray⟩) ∧ Below w.heap.size w w') x w := by
  have ho : mnmR_ops[49]? = some mnmR_o49 := rfl
  simp only [Array.getD_eq_getD_getElem?] at u1 u2 u3
  have q48 : x.tmps.getD 65 undef = .bool false := p48
  simp only [Array.getD_eq_getD_getElem?] at q48
  have e48 : (mnmR_ops[48]?.bind fun x => x.dst) = some 65 := rfl
  have g48 := get_someT q48 (fun h => by cases h)
  refine wpOpIn_stepT hF ho (fun K hK => ?_)
  clear ho
  rw [Oper.semAt_plain Fc _ _ (by intro c h; cases h)]
  simp only [mnmR_o49]
  go_simp
  exact hK _ _ ⟨_, act_putD x hdef _ _, rfl, Below.refl _ _⟩
set_option maxRecDepth 100000 in
set_option maxHeartbeats 2000000 in
theorem mnmR_s50 {Fc : Fence} (hF : Wide Fc) {nC : Nat} (g i : Nat) (n : Int) (S A1 A2 A3 A4 A5 A6 A7 A8 A9 B1 : List UInt8) (Q : Exit → Act → World → Prop) (df : List Deferred) (w0 : World)
    (hS : w0.cell? ⟨g, i, none⟩ = some (.int .i64 n)) (hi : i < 12) (hW : StdW w0) (lS : S.length ≤ 100) (hA1 : [115, 46] ++ S = A1) (lA1 : A1.length ≤ 200) (hA2 : [115, 46, 48] ++ S = A2) (lA2 : A2.length ≤ 200) (hA3 : [115, 46, 43] ++ S = A3) (lA3 : A3.length ≤ 200) (hA4 : [83, 46] ++ S = A4) (lA4 : A4.length ≤ 200) (hA5 : A1 ++ [32] = A5) (lA5 : A5.length ≤ 200) (hA6 : [115, 46, 32] ++ S = A6) (lA6 : A6.length ≤ 200) (hA7 : [115] ++ S = A7) (lA7 : A7.length ≤ 200) (hA8 : A1 ++ [48, 48, 48, 48, 48, 48, 48, 48, 48, 48, 48, 48, 48, 48, 48, 48, 48, 48, 48, 48, 48, 48] = A8) (lA8 : A8.length ≤ 200) (hA9 : A1 ++ [95, 48] = A9) (lA9 : A9.length ≤ 200) (hB1 : [115, 46, 115, 46] ++ S = B1) (lB1 : B1.length ≤ 200)
    (x : Act) (w : World) (hB : Below w0.heap.size w0 w) (hdef : x.defers = df) (u1 : x.tmps.getD 1 undef = .slice (some ⟨g, 0, none⟩) 12 12) (u2 : x.tmps.getD 2 undef = .int .i64 (i : Nat)) (u3 : x.tmps.getD 3 undef = .string ⟨S.toArray⟩)
    (p49 : mnmR_val g i n S A1 A2 A3 A4 A5 A6 A7 A8 A9 B1 49 (x.tmps.getD 66 undef) w)
    (p48 : mnmR_val g i n S A1 A2 A3 A4 A5 A6 A7 A8 A9 B1 48 (x.tmps.getD 65 undef) w)
    : wpOpIn Fc nC Tryz.prog mnmR_ops Q 50 (fun a' w' => ∃ v, a' = x.put (some 67) v ∧ (v = .bool true) ∧ Below w.heap.size w w') x w := by
  have ho : mnmR_ops[50]? = some mnmR_o50 := rfl
  simp only [Array.getD_eq_getD_getElem?] at u1 u2 u3
  have q49 : x.tmps.getD 66 undef = .string ⟨S.toArray⟩ := p49
  have q48 : x.tmps.getD 65 undef = .bool false := p48
  simp only [Array.getD_eq_getD_getElem?] at q49 q48
  have e48 : (mnmR_ops[48]?.bind fun x => x.dst) = some 65 := rfl
  have g48 := get_someT q48 (fun h => by cases h)
  refine wpOpIn_stepT hF ho (fun K hK => ?_)
  clear ho
  rw [Oper.semAt_plain Fc _ _ (by intro c h; cases h)]
  simp only [mnmR_o50]
  go_simp
  refine ⟨hF.deep, (hF.call (name25_any S w (by omega) (hW.below hB))).mono ?_⟩
  rintro e w' ⟨rfl, hb⟩
  exact hK _ _ ⟨_, act_putD x hdef _ _, rfl, hb⟩
set_option maxRecDepth 100000 in
set_option maxHeartbeats 2000000 in
theorem mnmR_s51 {Fc : Fence} (hF : Wide Fc) {nC : Nat} (g i : Nat) (n : Int) (S A1 A2 A3 A4 A5 A6 A7 A8 A9 B1 : List UInt8) (Q : Exit → Act → World → Prop) (df : List Deferred) (w0 : World)
    (hS : w0.cell? ⟨g, i, none⟩ = some (.int .i64 n)) (hi : i < 12) (hW : StdW w0) (lS : S.length ≤ 100) (hA1 : [115, 46] ++ S = A1) (lA1 : A1.length ≤ 200) (hA2 : [115, 46, 48] ++ S = A2) (lA2 : A2.length ≤ 200) (hA3 : [115, 46, 43] ++ S = A3) (lA3 : A3.length ≤ 200) (hA4 : [83, 46] ++ S = A4) (lA4 : A4.length ≤ 200) (hA5 : A1 ++ [32] = A5) (lA5 : A5.length ≤ 200) (hA6 : [115, 46, 32] ++ S = A6) (lA6 : A6.length ≤ 200) (hA7 : [115] ++ S = A7) (lA7 : A7.length ≤ 200) (hA8 : A1 ++ [48, 48, 48, 48, 48, 48, 48, 48, 48, 48, 48, 48, 48, 48, 48, 48, 48, 48, 48, 48, 48, 48] = A8) (lA8 : A8.length ≤ 200) (hA9 : A1 ++ [95, 48] = A9) (lA9 : A9.length ≤ 200) (hB1 : [115, 46, 115, 46] ++ S = B1) (lB1 : B1.length ≤ 200)
    (x : Act) (w : World) (hB : Below w0.heap.size w0 w) (hdef : x.defers = df) (u1 : x.tmps.getD 1 undef = .slice (some ⟨g, 0, none⟩) 12 12) (u2 : x.tmps.getD 2 undef = .int .i64 (i : Nat)) (u3 : x.tmps.getD 3 undef = .string ⟨S.toArray⟩)
    (p50 : mnmR_val g i n S A1 A2 A3 A4 A5 A6 A7 A8 A9 B1 50 (x.tmps.getD 67 undef) w)
    (p48 : mnmR_val g i n S A1 A2 A3 A4 A5 A6 A7 A8 A9 B1 48 (x.tmps.getD 65 undef) w)
    : wpOpIn Fc nC Tryz.prog mnmR_ops Q 51 (fun a' w' => ∃ v, a' = x.put (some 68) v ∧ (v = .bool false) ∧ Below w.heap.size w w') x w := by
  have ho : mnmR_ops[51]? = some mnmR_o51 := rfl
  simp only [Array.getD_eq_getD_getElem?] at u1 u2 u3
  have q50 : x.tmps.getD 67 undef = .bool true := p50
  have q48 : x.tmps.getD 65 undef = .bool false := p48
  simp only [Array.getD_eq_getD_getElem?] at q50 q48
  have e48 : (mnmR_ops[48]?.bind fun x => x.dst) = some 65 := rfl
  have g48 := get_someT q48 (fun h => by cases h)
  refine wpOpIn_stepT hF ho (fun K hK => ?_)
  clear ho
  rw [Oper.semAt_plain Fc _ _ (by intro c h; cases h)]
  simp only [mnmR_o51]
  go_simp
  exact hK _ _ ⟨_, act_putD x hdef _ _, rfl, Below.refl _ _⟩
set_option maxRecDepth 100000 in
set_option maxHeartbeats 2000000 in
theorem mnmR_s52 {Fc : Fence} (hF : Wide Fc) {nC : Nat} (g i : Nat) (n : Int) (S A1 A2 A3 A4 A5 A6 A7 A8 A9 B1 : List UInt8) (Q : Exit → Act → World → Prop) (df : List Deferred) (w0 : World)
    (hS : w0.cell? ⟨g, i, none⟩ = some (.int .i64 n)) (hi : i < 12) (hW : StdW w0) (lS : S.length ≤ 100) (hA1 : [115, 46] ++ S = A1) (lA1 : A1.length ≤ 200) (hA2 : [115, 46, 48] ++ S = A2) (lA2 : A2.length ≤ 200) (hA3 : [115, 46, 43] ++ S = A3) (lA3 : A3.length ≤ 200) (hA4 : [83, 46] ++ S = A4) (lA4 : A4.length ≤ 200) (hA5 : A1 ++ [32] = A5) (lA5 : A5.length ≤ 200) (hA6 : [115, 46, 32] ++ S = A6) (lA6 : A6.length ≤ 200) (hA7 : [115] ++ S = A7) (lA7 : A7.length ≤ 200) (hA8 : A1 ++ [48, 48, 48, 48, 48, 48, 48, 48, 48, 48, 48, 48, 48, 48, 48, 48, 48, 48, 48, 48, 48, 48] = A8) (lA8 : A8.length ≤ 200) (hA9 : A1 ++ [95, 48] = A9) (lA9 : A9.length ≤ 200) (hB1 : [115, 46, 115, 46] ++ S = B1) (lB1 : B1.length ≤ 200)
    (x : Act) (w : World) (hB : Below w0.heap.size w0 w) (hdef : x.defers = df) (u1 : x.tmps.getD 1 undef = .slice (some ⟨g, 0, none⟩) 12 12) (u2 : x.tmps.getD 2 undef = .int .i64 (i : Nat)) (u3 : x.tmps.getD 3 undef = .string ⟨S.toArray⟩)
    (p48 : mnmR_val g i n S A1 A2 A3 A4 A5 A6 A7 A8 A9 B1 48 (x.tmps.getD 65 undef) w)
    (p51 : mnmR_val g i n S A1 A2 A3 A4 A5 A6 A7 A8 A9 B1 51 (x.tmps.getD 68 undef) w)
    : wpOpIn Fc nC Tryz.prog mnmR_ops Q 52 (fun a' w' => ∃ v, a' = x.put (some 69) v ∧ (v = .bool false) ∧ Below w.heap.size w w') x w := by
  have ho : mnmR_ops[52]? = some mnmR_o52 := rfl
  simp only [Array.getD_eq_getD_getElem?] at u1 u2 u3
  have q48 : x.tmps.getD 65 undef = .bool false := p48
  have q51 : x.tmps.getD 68 undef = .bool false := p51
  simp only [Array.getD_eq_getD_getElem?] at q48 q51
  refine wpOpIn_plain ho rfl (oper_inK hF.fn (fun K hK => ?_))
  clear ho
  rw [Oper.semAt_plain Fc _ _ (by intro c h; cases h)]
  simp only [mnmR_o52]
  go_simp
  exact hK _ _ ⟨_, act_putD x hdef _ _, rfl, Below.refl _ _⟩
set_option maxRecDepth 100000 in
set_option maxHeartbeats 2000000 in
theorem mnmR_s53 {Fc : Fence} (hF : Wide Fc) {nC : Nat} (g i : Nat) (n : Int) (S A1 A2 A3 A4 A5 A6 A7 A8 A9 B1 : List UInt8) (Q : Exit → Act → World → Prop) (df : List Deferred) (w0 : World)
    (hS : w0.cell? ⟨g, i, none⟩ = some (.int .i64 n)) (hi : i < 12) (hW : StdW w0) (lS : S.length ≤ 100) (hA1 : [115, 46] ++ S = A1) (lA1 : A1.length ≤ 200) (hA2 : [115, 46, 48] ++ S = A2) (lA2 : A2.length ≤ 200) (hA3 : [115, 46, 43] ++ S = A3) (lA3 : A3.length ≤ 200) (hA4 : [83, 46] ++ S = A4) (lA4 : A4.length ≤ 200) (hA5 : A1 ++ [32] = A5) (lA5 : A5.length ≤ 200) (hA6 : [115, 46, 32] ++ S = A6) (lA6 : A6.length ≤ 200) (hA7 : [115] ++ S = A7) (lA7 : A7.length ≤ 200) (hA8 : A1 ++ [48, 48, 48, 48, 48, 48, 48, 48, 48, 48, 48, 48, 48, 48, 48, 48, 48, 48, 48, 48, 48, 48] = A8) (lA8 : A8.length ≤ 200) (hA9 : A1 ++ [95, 48] = A9) (lA9 : A9.length ≤ 200) (hB1 : [115, 46, 115, 46] ++ S = B1) (lB1 : B1.length ≤ 200)
    (x : Act) (w : World) (hB : Below w0.heap.size w0 w) (hdef : x.defers = df) (u1 : x.tmps.getD 1 undef = .slice (some ⟨g, 0, none⟩) 12 12) (u2 : x.tmps.getD 2 undef = .int .i64 (i : Nat)) (u3 : x.tmps.getD 3 undef = .string ⟨S.toArray⟩)
    (p52 : mnmR_val g i n S A1 A2 A3 A4 A5 A6 A7 A8 A9 B1 52 (x.tmps.getD 69 undef) w)
    : wpOpIn Fc nC Tryz.prog mnmR_ops Q 53 (fun a' w' => ∃ v, a' = x.put (some 70) v ∧ (v = .bool false) ∧ Below w.heap.size w w') x w := by
  have ho : mnmR_ops[53]? = some mnmR_o53 := rfl
  simp only [Array.getD_eq_getD_getElem?] at u1 u2 u3
  have q52 : x.tmps.getD 69 undef = .bool false := p52
  simp only [Array.getD_eq_getD_getElem?] at q52
  refine wpOpIn_plain ho rfl (oper_inK hF.fn (fun K hK => ?_))
  clear ho
  rw [Oper.semAt_plain Fc _ _ (by intro c h; cases h)]
  simp only [mnmR_o53]
  go_simp
  exact hK _ _ ⟨_, act_putD x hdef _ _, rfl, Below.refl _ _⟩
set_option maxRecDepth 100000 in
set_option maxHeartbeats 2000000 in
theorem mnmR_s54 {Fc : Fence} (hF : Wide Fc) {nC : Nat} (g i : Nat) (n : Int) (S A1 A2 A3 A4 A5 A6 A7 A8 A9 B1 : List UInt8) (Q : Exit → Act → World → Prop) (df : List Deferred) (w0 : World)
    (hS : w0.cell? ⟨g, i, none⟩ = some (.int .i64 n)) (hi : i < 12) (hW : StdW w0) (lS : S.length ≤ 100) (hA1 : [115, 46] ++ S = A1) (lA1 : A1.length ≤ 200) (hA2 : [115, 46, 48] ++ S = A2) (lA2 : A2.length ≤ 200) (hA3 : [115, 46, 43] ++ S = A3) (lA3 : A3.length ≤ 200) (hA4 : [83, 46] ++ S = A4) (lA4 : A4.length ≤ 200) (hA5 : A1 ++ [32] = A5) (lA5 : A5.length ≤ 200) (hA6 : [115, 46, 32] ++ S = A6) (lA6 : A6.length ≤ 200) (hA7 : [115] ++ S = A7) (lA7 : A7.length ≤ 200) (hA8 : A1 ++ [48, 48, 48, 48, 48, 48, 48, 48, 48, 48, 48, 48, 48, 48, 48, 48, 48, 48, 48, 48, 48, 48] = A8) (lA8 : A8.length ≤ 200) (hA9 : A1 ++ [95, 48] = A9) (lA9 : A9.length ≤ 200) (hB1 : [115, 46, 115, 46] ++ S = B1) (lB1 : B1.length ≤ 200)
    (x : Act) (w : World) (hB : Below w0.heap.size w0 w) (hdef : x.defers = df) (u1 : x.tmps.getD 1 undef = .slice (some ⟨g, 0, none⟩) 12 12) (u2 : x.tmps.getD 2 undef = .int .i64 (i : Nat)) (u3 : x.tmps.getD 3 undef = .string ⟨S.toArray⟩)
    (p53 : mnmR_val g i n S A1 A2 A3 A4 A5 A6 A7 A8 A9 B1 53 (x.tmps.getD 70 undef) w)
    : wpOpIn Fc nC Tryz.prog mnmR_ops Q 54 (fun a' w' => ∃ v, a' = x.put (some 71) v ∧ (v = .string ⟨S.toArray⟩) ∧ Below w.heap.size w w') x w := by
  have ho : mnmR_ops[54]? = some mnmR_o54 := rfl
  simp only [Array.getD_eq_getD_getElem?] at u1 u2 u3
  have q53 : x.tmps.getD 70 undef = .bool false := p53
  simp only [Array.getD_eq_getD_getElem?] at q53
  have e53 : (mnmR_ops[53]?.bind fun x => x.dst) = some 70 := rfl
  have g53 := get_someT q53 (fun h => by cases h)
  refine wpOpIn_stepT hF ho (fun K hK => ?_)
  clear ho
  rw [Oper.semAt_plain Fc _ _ (by intro c h; cases h)]
  simp only [mnmR_o54]
  go_simp
  exact hK _ _ ⟨_, act_putD x hdef _ _, rfl, Below.refl _ _⟩
set_option maxRecDepth 100000 in
set_option maxHeartbeats 2000000 in
theorem mnmR_s55 {Fc : Fence} (hF : Wide Fc) {nC : Nat} (g i : Nat) (n : Int) (S A1 A2 A3 A4 A5 A6 A7 A8 A9 B1 : List UInt8) (Q : Exit → Act → World → Prop) (df : List Deferred) (w0 : World)
    (hS : w0.cell? ⟨g, i, none⟩ = some (.int .i64 n)) (hi : i < 12) (hW : StdW w0) (lS : S.length ≤ 100) (hA1 : [115, 46] ++ S = A1) (lA1 : A1.length ≤ 200) (hA2 : [115, 46, 48] ++ S = A2) (lA2 : A2.length ≤ 200) (hA3 : [115, 46, 43] ++ S = A3) (lA3 : A3.length ≤ 200) (hA4 : [83, 46] ++ S = A4) (lA4 : A4.length ≤ 200) (hA5 : A1 ++ [32] = A5) (lA5 : A5.length ≤ 200) (hA6 : [115, 46, 32] ++ S = A6) (lA6 : A6.length ≤ 200) (hA7 : [115] ++ S = A7) (lA7 : A7.length ≤ 200) (hA8 : A1 ++ [48, 48, 48, 48, 48, 48, 48, 48, 48, 48, 48, 48, 48, 48, 48, 48, 48, 48, 48, 48, 48, 48] = A8) (lA8 : A8.length ≤ 200) (hA9 : A1 ++ [95, 48] = A9) (lA9 : A9.length ≤ 200) (hB1 : [115, 46, 115, 46] ++ S = B1) (lB1 : B1.length ≤ 200)
    (x : Act) (w : World) (hB : Below w0.heap.size w0 w) (hdef : x.defers = df) (u1 : x.tmps.getD 1 undef = .slice (some ⟨g, 0, none⟩) 12 12) (u2 : x.tmps.getD 2 undef = .int .i64 (i : Nat)) (u3 : x.tmps.getD 3 undef = .string ⟨S.toArray⟩)
    (p54 : mnmR_val g i n S A1 A2 A3 A4 A5 A6 A7 A8 A9 B1 54 (x.tmps.getD 71 undef) w)
    (p53 : mnmR_val g i n S A1 A2 A3 A4 A5 A6 A7 A8 A9 B1 53 (x.tmps.getD 70 undef) w)
    : wpOpIn Fc nC Tryz.prog mnmR_ops Q 55 (fun a' w' => ∃ v, a' = x.put (some 72) v ∧ (v = .string ⟨A7.toArray⟩) ∧ Below w.heap.size w w') x w := by
  have ho : mnmR_ops[55]? = some mnmR_o55 := rfl
  simp only [Array.getD_eq_getD_getElem?] at u1 u2 u3
  have q54 : x.tmps.getD 71 undef = .string ⟨S.toArray⟩ := p54
  have q53 : x.tmps.getD 70 undef = .bool false := p53
  simp only [Array.getD_eq_getD_getElem?] at q54 q53
  have e53 : (mnmR_ops[53]?.bind fun x => x.dst) = some 70 := rfl
  have g53 := get_someT q53 (fun h => by cases h)
  have hl := (show ¬ 9223372036854775807 < 1 + S.length by omega)
  refine wpOpIn_stepT hF ho (fun K hK => ?_)
  clear ho
  rw [Oper.semAt_plain Fc _ _ (by intro c h; cases h)]
  simp only [mnmR_o55]
  go_simp
  exact hK _ _ ⟨_, act_putD x hdef _ _, by rw [← hA7]; exact str_join [115] S, Below.refl _ _⟩
set_option maxRecDepth 100000 in
set_option maxHeartbeats 2000000 in
theorem mnmR_s56 {Fc : Fence} (hF : Wide Fc) {nC : Nat} (g i : Nat) (n : Int) (S A1 A2 A3 A4 A5 A6 A7 A8 A9 B1 : List UInt8) (Q : Exit → Act → World → Prop) (df : List Deferred) (w0 : World)
    (hS : w0.cell? ⟨g, i, none⟩ = some (.int .i64 n)) (hi : i < 12) (hW : StdW w0) (lS : S.length ≤ 100) (hA1 : [115, 46] ++ S = A1) (lA1 : A1.length ≤ 200) (hA2 : [115, 46, 48] ++ S = A2) (lA2 : A2.length ≤ 200) (hA3 : [115, 46, 43] ++ S = A3) (lA3 : A3.length ≤ 200) (hA4 : [83, 46] ++ S = A4) (lA4 : A4.length ≤ 200) (hA5 : A1 ++ [32] = A5) (lA5 : A5.length ≤ 200) (hA6 : [115, 46, 32] ++ S = A6) (lA6 : A6.length ≤ 200) (hA7 : [115] ++ S = A7) (lA7 : A7.length ≤ 200) (hA8 : A1 ++ [48, 48, 48, 48, 48, 48, 48, 48, 48, 48, 48, 48, 48, 48, 48, 48, 48, 48, 48, 48, 48, 48] = A8) (lA8 : A8.length ≤ 200) (hA9 : A1 ++ [95, 48] = A9) (lA9 : A9.length ≤ 200) (hB1 : [115, 46, 115, 46] ++ S = B1) (lB1 : B1.length ≤ 200)
    (x : Act) (w : World) (hB : Below w0.heap.size w0 w) (hdef : x.defers = df) (u1 : x.tmps.getD 1 undef = .slice (some ⟨g, 0, none⟩) 12 12) (u2 : x.tmps.getD 2 undef = .int .i64 (i : Nat)) (u3 : x.tmps.getD 3 undef = .string ⟨S.toArray⟩)
    (p55 : mnmR_val g i n S A1 A2 A3 A4 A5 A6 A7 A8 A9 B1 55 (x.tmps.getD 72 undef) w)
    (p53 : mnmR_val g i n S A1 A2 A3 A4 A5 A6 A7 A8 A9 B1 53 (x.tmps.getD 70 undef) w)
    : wpOpIn Fc nC Tryz.prog mnmR_ops Q 56 (fun a' w' => ∃ v, a' = x.put (some 73) v ∧ (v = .bool true) ∧ Below w.heap.size w w') x w := by
  have ho : mnmR_ops[56]? = some mnmR_o56 := rfl
  simp only [Array.getD_eq_getD_getElem?] at u1 u2 u3
  have q55 : x.tmps.getD 72 undef = .string ⟨A7.toArray⟩ := p55
  have q53 : x.tmps.getD 70 undef = .bool false := p53
  simp only [Array.getD_eq_getD_getElem?] at q55 q53
  have e53 : (mnmR_ops[53]?.bind fun x => x.dst) = some 70 := rfl
  have g53 := get_someT q53 (fun h => by cases h)
  refine wpOpIn_stepT hF ho (fun K hK => ?_)
  clear ho
  rw [Oper.semAt_plain Fc _ _ (by intro c h; cases h)]
  simp only [mnmR_o56]
  go_simp
  refine ⟨hF.deep, (hF.call (name25_any A7 w (by omega) (hW.below hB))).mono ?_⟩
  rintro e w' ⟨rfl, hb⟩
  exact hK _ _ ⟨_, act_putD x hdef _ _, rfl, hb⟩
set_option maxRecDepth 100000 in
set_option maxHeartbeats 2000000 in
theorem mnmR_s57 {Fc : Fence} (hF : Wide Fc) {nC : Nat} (g i : Nat) (n : Int) (S A1 A2 A3 A4 A5 A6 A7 A8 A9 B1 : List UInt8) (Q : Exit → Act → World → Prop) (df : List Deferred) (w0 : World)
    (hS : w0.cell? ⟨g, i, none⟩ = some (.int .i64 n)) (hi : i < 12) (hW : StdW w0) (lS : S.length ≤ 100) (hA1 : [115, 46] ++ S = A1) (lA1 : A1.length ≤ 200) (hA2 : [115, 46, 48] ++ S = A2) (lA2 : A2.length ≤ 200) (hA3 : [115, 46, 43] ++ S = A3) (lA3 : A3.length ≤ 200) (hA4 : [83, 46] ++ S = A4) (lA4 : A4.length ≤ 200) (hA5 : A1 ++ [32] = A5) (lA5 : A5.length ≤ 200) (hA6 : [115, 46, 32] ++ S = A6) (lA6 : A6.length ≤ 200) (hA7 : [115] ++ S = A7) (lA7 : A7.length ≤ 200) (hA8 : A1 ++ [48, 48, 48, 48, 48, 48, 48, 48, 48, 48, 48, 48, 48, 48, 48, 48, 48, 48, 48, 48, 48, 48] = A8) (lA8 : A8.length ≤ 200) (hA9 : A1 ++ [95, 48] = A9) (lA9 : A9.length ≤ 200) (hB1 : [115, 46, 115, 46] ++ S = B1) (lB1 : B1.length ≤ 200)
    (x : Act) (w : World) (hB : Below w0.heap.size w0 w) (hdef : x.defers = df) (u1 : x.tmps.getD 1 undef = .slice (some ⟨g, 0, none⟩) 12 12) (u2 : x.tmps.getD 2 undef = .int .i64 (i : Nat)) (u3 : x.tmps.getD 3 undef = .string ⟨S.toArray⟩)
    (p56 : mnmR_val g i n S A1 A2 A3 A4 A5 A6 A7 A8 A9 B1 56 (x.tmps.getD 73 undef) w)
    (p53 : mnmR_val g i n S A1 A2 A3 A4 A5 A6 A7 A8 A9 B1 53 (x.tmps.getD 70 undef) w)
    : wpOpIn Fc nC Tryz.prog mnmR_ops Q 57 (fun a' w' => ∃ v, a' = x.put (some 74) v ∧ (v = .bool false) ∧ Below w.heap.size w w') x w := by
  have ho : mnmR_ops[57]? = some mnmR_o57 := rfl
  simp only [Array.getD_eq_getD_getElem?] at u1 u2 u3
  have q56 : x.tmps.getD 73 undef = .bool true := p56
  have q53 : x.tmps.getD 70 undef = .bool false := p53
  simp only [Array.getD_eq_getD_getElem?] at q56 q53
  have e53 : (mnmR_ops[53]?.bind fun x => x.dst) = some 70 := rfl
  have g53 := get_someT q53 (fun h => by cases h)
  refine wpOpIn_stepT hF ho (fun K hK => ?_)
  clear ho
  rw [Oper.semAt_plain Fc _ _ (by intro c h; cases h)]
  simp only [mnmR_o57]
  go_simp
  exact hK _ _ ⟨_, act_putD x hdef _ _, rfl, Below.refl _ _⟩
set_option maxRecDepth 100000 in
set_option maxHeartbeats 2000000 in
theorem mnmR_s58 {Fc : Fence} (hF : Wide Fc) {nC : Nat} (g i : Nat) (n : Int) (S A1 A2 A3 A4 A5 A6 A7 A8 A9 B1 : List UInt8) (Q : Exit → Act → World → Prop) (df : List Deferred) (w0 : World)
    (hS : w0.cell? ⟨g, i, none⟩ = some (.int .i64 n)) (hi : i < 12) (hW : StdW w0) (lS : S.length ≤ 100) (hA1 : [115, 46] ++ S = A1) (lA1 : A1.length ≤ 200) (hA2 : [115, 46, 48] ++ S = A2) (lA2 : A2.length ≤ 200) (hA3 : [115, 46, 43] ++ S = A3) (lA3 : A3.length ≤ 200) (hA4 : [83, 46] ++ S = A4) (lA4 : A4.length ≤ 200) (hA5 : A1 ++ [32] = A5) (lA5 : A5.length ≤ 200) (hA6 : [115, 46, 32] ++ S = A6) (lA6 : A6.length ≤ 200) (hA7 : [115] ++ S = A7) (lA7 : A7.length ≤ 200) (hA8 : A1 ++ [48, 48, 48, 48, 48, 48, 48, 48, 48, 48, 48, 48, 48, 48, 48, 48, 48, 48, 48, 48, 48, 48] = A8) (lA8 : A8.length ≤ 200) (hA9 : A1 ++ [95, 48] = A9) (lA9 : A9.length ≤ 200) (hB1 : [115, 46, 115, 46] ++ S = B1) (lB1 : B1.length ≤ 200)
    (x : Act) (w : World) (hB : Below w0.heap.size w0 w) (hdef : x.defers = df) (u1 : x.tmps.getD 1 undef = .slice (some ⟨g, 0, none⟩) 12 12) (u2 : x.tmps.getD 2 undef = .int .i64 (i : Nat)) (u3 : x.tmps.getD 3 undef = .string ⟨S.toArray⟩)
    (p53 : mnmR_val g i n S A1 A2 A3 A4 A5 A6 A7 A8 A9 B1 53 (x.tmps.getD 70 undef) w)
    (p57 : mnmR_val g i n S A1 A2 A3 A4 A5 A6 A7 A8 A9 B1 57 (x.tmps.getD 74 undef) w)
    : wpOpIn Fc nC Tryz.prog mnmR_ops Q 58 (fun a' w' => ∃ v, a' = x.put (some 75) v ∧ (v = .bool false) ∧ Below w.heap.size w w') x w := by
  have ho : mnmR_ops[58]? = some mnmR_o58 := rfl
  simp only [Array.getD_eq_getD_getElem?] at u1 u2 u3
  have q53 : x.tmps.getD 70 undef = .bool false := p53
  have q57 : x.tmps.getD 74 undef = .bool false := p57
  simp only [Array.getD_eq_getD_getElem?] at q53 q57
  refine wpOpIn_plain ho rfl (oper_inK hF.fn (fun K hK => ?_))
  clear ho
  rw [Oper.semAt_plain Fc _ _ (by intro c h; cases h)]
  simp only [mnmR_o58]
  go_simp
  exact hK _ _ ⟨_, act_putD x hdef _ _, rfl, Below.refl _ _⟩
set_option maxRecDepth 100000 in
set_option maxHeartbeats 2000000 in
theorem mnmR_s59 {Fc : Fence} (hF : Wide Fc) {nC : Nat} (g i : Nat) (n : Int) (S A1 A2 A3 A4 A5 A6 A7 A8 A9 B1 : List UInt8) (Q : Exit → Act → World → Prop) (df : List Deferred) (w0 : World)
    (hS : w0.cell? ⟨g, i, none⟩ = some (.int .i64 n)) (hi : i < 12) (hW : StdW w0) (lS : S.length ≤ 100) (hA1 : [115, 46] ++ S = A1) (lA1 : A1.length ≤ 200) (hA2 : [115, 46, 48] ++ S = A2) (lA2 : A2.length ≤ 200) (hA3 : [115, 46, 43] ++ S = A3) (lA3 : A3.length ≤ 200) (hA4 : [83, 46] ++ S = A4) (lA4 : A4.length ≤ 200) (hA5 : A1 ++ [32] = A5) (lA5 : A5.length ≤ 200) (hA6 : [115, 46, 32] ++ S = A6) (lA6 : A6.length ≤ 200) (hA7 : [115] ++ S = A7) (lA7 : A7.length ≤ 200) (hA8 : A1 ++ [48, 48, 48, 48, 48, 48, 48, 48, 48, 48, 48, 48, 48, 48, 48, 48, 48, 48, 48, 48, 48, 48] = A8) (lA8 : A8.length ≤ 200) (hA9 : A1 ++ [95, 48] = A9) (lA9 : A9.length ≤ 200) (hB1 : [115, 46, 115, 46] ++ S = B1) (lB1 : B1.length ≤ 200)
    (x : Act) (w : World) (hB : Below w0.heap.size w0 w) (hdef : x.defers = df) (u1 : x.tmps.getD 1 undef = .slice (some ⟨g, 0, none⟩) 12 12) (u2 : x.tmps.getD 2 undef = .int .i64 (i : Nat)) (u3 : x.tmps.getD 3 undef = .string ⟨S.toArray⟩)
    (p58 : mnmR_val g i n S A1 A2 A3 A4 A5 A6 A7 A8 A9 B1 58 (x.tmps.getD 75 undef) w)
    : wpOpIn Fc nC Tryz.prog mnmR_ops Q 59 (fun a' w' => ∃ v, a' = x.put (some 76) v ∧ (v = .bool false) ∧ Below w.heap.size w w') x w := by
  have ho : mnmR_ops[59]? = some mnmR_o59 := rfl
  simp only [Array.getD_eq_getD_getElem?] at u1 u2 u3
  have q58 : x.tmps.getD 75 undef = .bool false := p58
  simp only [Array.getD_eq_getD_getElem?] at q58
  refine wpOpIn_plain ho rfl (oper_inK hF.fn (fun K hK => ?_))
  clear ho
  rw [Oper.semAt_plain Fc _ _ (by intro c h; cases h)]
  simp only [mnmR_o59]
  go_simp
  exact hK _ _ ⟨_, act_putD x hdef _ _, rfl, Below.refl _ _⟩
set_option maxRecDepth 100000 in
set_option maxHeartbeats 2000000 in
theorem mnmR_s60 {Fc : Fence} (hF : Wide Fc) {nC : Nat} (g i : Nat) (n : Int) (S A1 A2 A3 A4 A5 A6 A7 A8 A9 B1 : List UInt8) (Q : Exit → Act → World → Prop) (df : List Deferred) (w0 : World)
    (hS : w0.cell? ⟨g, i, none⟩ = some (.int .i64 n)) (hi : i < 12) (hW : StdW w0) (lS : S.length ≤ 100) (hA1 : [115, 46] ++ S = A1) (lA1 : A1.length ≤ 200) (hA2 : [115, 46, 48] ++ S = A2) (lA2 : A2.length ≤ 200) (hA3 : [115, 46, 43] ++ S = A3) (lA3 : A3.length ≤ 200) (hA4 : [83, 46] ++ S = A4) (lA4 : A4.length ≤ 200) (hA5 : A1 ++ [32] = A5) (lA5 : A5.length ≤ 200) (hA6 : [115, 46, 32] ++ S = A6) (lA6 : A6.length ≤ 200) (hA7 : [115] ++ S = A7) (lA7 : A7.length ≤ 200) (hA8 : A1 ++ [48, 48, 48, 48, 48, 48, 48, 48, 48, 48, 48, 48, 48, 48, 48, 48, 48, 48, 48, 48, 48, 48] = A8) (lA8 : A8.length ≤ 200) (hA9 : A1 ++ [95, 48] = A9) (lA9 : A9.length ≤ 200) (hB1 : [115, 46, 115, 46] ++ S = B1) (lB1 : B1.length ≤ 200)
    (x : Act) (w : World) (hB : Below w0.heap.size w0 w) (hdef : x.defers = df) (u1 : x.tmps.getD 1 undef = .slice (some ⟨g, 0, none⟩) 12 12) (u2 : x.tmps.getD 2 undef = .int .i64 (i : Nat)) (u3 : x.tmps.getD 3 undef = .string ⟨S.toArray⟩)
    (p59 : mnmR_val g i n S A1 A2 A3 A4 A5 A6 A7 A8 A9 B1 59 (x.tmps.getD 76 undef) w)
    : wpOpIn Fc nC Tryz.prog mnmR_ops Q 60 (fun a' w' => ∃ v, a' = x.put (some 77) v ∧ (v = .string ⟨S.toArray⟩) ∧ Below w.heap.size w w') x w := by
  have ho : mnmR_ops[60]? = some mnmR_o60 := rfl
  simp only [Array.getD_eq_getD_getElem?] at u1 u2 u3
  have q59 : x.tmps.getD 76 undef = .bool false := p59
  simp only [Array.getD_eq_getD_getElem?] at q59
  have e59 : (mnmR_ops[59]?.bind fun x => x.dst) = some 76 := rfl
  have g59 := get_someT q59 (fun h => by cases h)
  refine wpOpIn_stepT hF ho (fun K hK => ?_)
  clear ho
  rw [Oper.semAt_plain Fc _ _ (by intro c h; cases h)]
  simp only [mnmR_o60]
  go_simp
  exact hK _ _ ⟨_, act_putD x hdef _ _, rfl, Below.refl _ _⟩
set_option maxRecDepth 100000 in
set_option maxHeartbeats 2000000 in
theorem mnmR_s61 {Fc : Fence} (hF : Wide Fc) {nC : Nat} (g i : Nat) (n : Int) (S A1 A2 A3 A4 A5 A6 A7 A8 A9 B1 : List UInt8) (Q : Exit → Act → World → Prop) (df : List Deferred) (w0 : World)
    (hS : w0.cell? ⟨g, i, none⟩ = some (.int .i64 n)) (hi : i < 12) (hW : StdW w0) (lS : S.length ≤ 100) (hA1 : [115, 46] ++ S = A1) (lA1 : A1.length ≤ 200) (hA2 : [115, 46, 48] ++ S = A2) (lA2 : A2.length ≤ 200) (hA3 : [115, 46, 43] ++ S = A3) (lA3 : A3.length ≤ 200) (hA4 : [83, 46] ++ S = A4) (lA4 : A4.length ≤ 200) (hA5 : A1 ++ [32] = A5) (lA5 : A5.length ≤ 200) (hA6 : [115, 46, 32] ++ S = A6) (lA6 : A6.length ≤ 200) (hA7 : [115] ++ S = A7) (lA7 : A7.length ≤ 200) (hA8 : A1 ++ [48, 48, 48, 48, 48, 48, 48, 48, 48, 48, 48, 48, 48, 48, 48, 48, 48, 48, 48, 48, 48, 48] = A8) (lA8 : A8.length ≤ 200) (hA9 : A1 ++ [95, 48] = A9) (lA9 : A9.length ≤ 200) (hB1 : [115, 46, 115, 46] ++ S = B1) (lB1 : B1.length ≤ 200)
    (x : Act) (w : World) (hB : Below w0.heap.size w0 w) (hdef : x.defers = df) (u1 : x.tmps.getD 1 undef = .slice (some ⟨g, 0, none⟩) 12 12) (u2 : x.tmps.getD 2 undef = .int .i64 (i : Nat)) (u3 : x.tmps.getD 3 undef = .string ⟨S.toArray⟩)
    (p60 : mnmR_val g i n S A1 A2 A3 A4 A5 A6 A7 A8 A9 B1 60 (x.tmps.getD 77 undef) w)
    (p59 : mnmR_val g i n S A1 A2 A3 A4 A5 A6 A7 A8 A9 B1 59 (x.tmps.getD 76 undef) w)
    : wpOpIn Fc nC Tryz.prog mnmR_ops Q 61 (fun a' w' => ∃ v, a' = x.put (some 78) v ∧ (v = .string ⟨A1.toArray⟩) ∧ Below w.heap.size w w') x w := by
  have ho : mnmR_ops[61]? = some mnmR_o61 := rfl
  simp only [Array.getD_eq_getD_getElem?] at u1 u2 u3
  have q60 : x.tmps.getD 77 undef = .string ⟨S.toArray⟩ := p60
  have q59 : x.tmps.getD 76 undef = .bool false := p59
  simp only [Array.getD_eq_getD_getElem?] at q60 q59
  have e59 : (mnmR_ops[59]?.bind fun x => x.dst) = some 76 := rfl
  have g59 := get_someT q59 (fun h => by cases h)
  have hl := (show ¬ 9223372036854775807 < 2 + S.length by omega)
  refine wpOpIn_stepT hF ho (fun K hK => ?_)
  clear ho
  rw [Oper.semAt_plain Fc _ _ (by intro c h; cases h)]
  simp only [mnmR_o61]
  go_simp
  exact hK _ _ ⟨_, act_putD x hdef _ _, by rw [← hA1]; exact str_join [115, 46] S, Below.refl _ _⟩
set_option maxRecDepth 100000 in
set_option maxHeartbeats 2000000 in
theorem mnmR_s62 {Fc : Fence} (hF : Wide Fc) {nC : Nat} (g i : Nat) (n : Int) (S A1 A2 A3 A4 A5 A6 A7 A8 A9 B1 : List UInt8) (Q : Exit → Act → World → Prop) (df : List Deferred) (w0 : World)
    (hS : w0.cell? ⟨g, i, none⟩ = some (.int .i64 n)) (hi : i < 12) (hW : StdW w0) (lS : S.length ≤ 100) (hA1 : [115, 46] ++ S = A1) (lA1 : A1.length ≤ 200) (hA2 : [115, 46, 48] ++ S = A2) (lA2 : A2.length ≤ 200) (hA3 : [115, 46, 43] ++ S = A3) (lA3 : A3.length ≤ 200) (hA4 : [83, 46] ++ S = A4) (lA4 : A4.length ≤ 200) (hA5 : A1 ++ [32] = A5) (lA5 : A5.length ≤ 200) (hA6 : [115, 46, 32] ++ S = A6) (lA6 : A6.length ≤ 200) (hA7 : [115] ++ S = A7) (lA7 : A7.length ≤ 200) (hA8 : A1 ++ [48, 48, 48, 48, 48, 48, 48, 48, 48, 48, 48, 48, 48, 48, 48, 48, 48, 48, 48, 48, 48, 48] = A8) (lA8 : A8.length ≤ 200) (hA9 : A1 ++ [95, 48] = A9) (lA9 : A9.length ≤ 200) (hB1 : [115, 46, 115, 46] ++ S = B1) (lB1 : B1.length ≤ 200)
    (x : Act) (w : World) (hB : Below w0.heap.size w0 w) (hdef : x.defers = df) (u1 : x.tmps.getD 1 undef = .slice (some ⟨g, 0, none⟩) 12 12) (u2 : x.tmps.getD 2 undef = .int .i64 (i : Nat)) (u3 : x.tmps.getD 3 undef = .string ⟨S.toArray⟩)
    (p61 : mnmR_val g i n S A1 A2 A3 A4 A5 A6 A7 A8 A9 B1 61 (x.tmps.getD 78 undef) w)
    (p59 : mnmR_val g i n S A1 A2 A3 A4 A5 A6 A7 A8 A9 B1 59 (x.tmps.getD 76 undef) w)
    : wpOpIn Fc nC Tryz.prog mnmR_ops Q 62 (fun a' w' => ∃ v, a' = x.put (some 79) v ∧ (v = .string ⟨A8.toArray⟩) ∧ Below w.heap.size w w') x w := by
  have ho : mnmR_ops[62]? = some mnmR_o62 := rfl
  simp only [Array.getD_eq_getD_getElem?] at u1 u2 u3
  have q61 : x.tmps.getD 78 undef = .string ⟨A1.toArray⟩ := p61
  have q59 : x.tmps.getD 76 undef = .bool false := p59
  simp only [Array.getD_eq_getD_getElem?] at q61 q59
  have e59 : (mnmR_ops[59]?.bind fun x => x.dst) = some 76 := rfl
  have g59 := get_someT q59 (fun h => by cases h)
  have hl := (show ¬ 9223372036854775807 < A1.length + 22 by omega)
  refine wpOpIn_stepT hF ho (fun K hK => ?_)
  clear ho
  rw [Oper.semAt_plain Fc _ _ (by intro c h; cases h)]
  simp only [mnmR_o62]
  go_simp
  exact hK _ _ ⟨_, act_putD x hdef _ _, by rw [← hA8]; exact str_join A1 [48, 48, 48, 48, 48, 48, 48, 48, 48, 48, 48, 48, 48, 48, 48, 48, 48, 48, 48, 48, 48, 48], Below.refl _ _⟩
set_option maxRecDepth 100000 in
set_option maxHeartbeats 2000000 in
theorem mnmR_s63 {Fc : Fence} (hF : Wide Fc) {nC : Nat} (g i : Nat) (n : Int) (S A1 A2 A3 A4 A5 A6 A7 A8 A9 B1 : List UInt8) (Q : Exit → Act → World → Prop) (df : List Deferred) (w0 : World)
    (hS : w0.cell? ⟨g, i, none⟩ = some (.int .i64 n)) (hi : i < 12) (hW : StdW w0) (lS : S.length ≤ 100) (hA1 : [115, 46] ++ S = A1) (lA1 : A1.length ≤ 200) (hA2 : [115, 46, 48] ++ S = A2) (lA2 : A2.length ≤ 200) (hA3 : [115, 46, 43] ++ S = A3) (lA3 : A3.length ≤ 200) (hA4 : [83, 46] ++ S = A4) (lA4 : A4.length ≤ 200) (hA5 : A1 ++ [32] = A5) (lA5 : A5.length ≤ 200) (hA6 : [115, 46, 32] ++ S = A6) (lA6 : A6.length ≤ 200) (hA7 : [115] ++ S = A7) (lA7 : A7.length ≤ 200) (hA8 : A1 ++ [48, 48, 48, 48, 48, 48, 48, 48, 48, 48, 48, 48, 48, 48, 48, 48, 48, 48, 48, 48, 48, 48] = A8) (lA8 : A8.length ≤ 200) (hA9 : A1 ++ [95, 48] = A9) (lA9 : A9.length ≤ 200) (hB1 : [115, 46, 115, 46] ++ S = B1) (lB1 : B1.length ≤ 200)
    (x : Act) (w : World) (hB : Below w0.heap.size w0 w) (hdef : x.defers = df) (u1 : x.tmps.getD 1 undef = .slice (some ⟨g, 0, none⟩) 12 12) (u2 : x.tmps.getD 2 undef = .int .i64 (i : Nat)) (u3 : x.tmps.getD 3 undef = .string ⟨S.toArray⟩)
    (p62 : mnmR_val g i n S A1 A2 A3 A4 A5 A6 A7 A8 A9 B1 62 (x.tmps.getD 79 undef) w)
    (p59 : mnmR_val g i n S A1 A2 A3 A4 A5 A6 A7 A8 A9 B1 59 (x.tmps.getD 76 undef) w)
    : wpOpIn Fc nC Tryz.prog mnmR_ops Q 63 (fun a' w' => ∃ v, a' = x.put (some 80) v ∧ (v = .bool true) ∧ Below w.heap.size w w') x w := by
  have ho : mnmR_ops[63]? = some mnmR_o63 := rfl
  simp only [Array.getD_eq_getD_getElem?] at u1 u2 u3
  have q62 : x.tmps.getD 79 undef = .string ⟨A8.toArray⟩ := p62
  have q59 : x.tmps.getD 76 undef = .bool false := p59
  simp only [Array.getD_eq_getD_getElem?] at q62 q59
  have e59 : (mnmR_ops[59]?.bind fun x => x.dst) = some 76 := rfl
  have g59 := get_someT q59 (fun h => by cases h)
  refine wpOpIn_stepT hF ho (fun K hK => ?_)
  clear ho
  rw [Oper.semAt_plain Fc _ _ (by intro c h; cases h)]
  simp only [mnmR_o63]
  go_simp
  refine ⟨hF.deep, (hF.call (name25_any A8 w (by omega) (hW.below hB))).mono ?_⟩
  rintro e w' ⟨rfl, hb⟩
  exact hK _ _ ⟨_, act_putD x hdef _ _, rfl, hb⟩
set_option maxRecDepth 100000 in
set_option maxHeartbeats 2000000 in
theorem mnmR_s64 {Fc : Fence} (hF : Wide Fc) {nC : Nat} (g i : Nat) (n : Int) (S A1 A2 A3 A4 A5 A6 A7 A8 A9 B1 : List UInt8) (Q : Exit → Act → World → Prop) (df : List Deferred) (w0 : World)
    (hS : w0.cell? ⟨g, i, none⟩ = some (.int .i64 n)) (hi : i < 12) (hW : StdW w0) (lS : S.length ≤ 100) (hA1 : [115, 46] ++ S = A1) (lA1 : A1.length ≤ 200) (hA2 : [115, 46, 48] ++ S = A2) (lA2 : A2.length ≤ 200) (hA3 : [115, 46, 43] ++ S = A3) (lA3 : A3.length ≤ 200) (hA4 : [83, 46] ++ S = A4) (lA4 : A4.length ≤ 200) (hA5 : A1 ++ [32] = A5) (lA5 : A5.length ≤ 200) (hA6 : [115, 46, 32] ++ S = A6) (lA6 : A6.length ≤ 200) (hA7 : [115] ++ S = A7) (lA7 : A7.length ≤ 200) (hA8 : A1 ++ [48, 48, 48, 48, 48, 48, 48, 48, 48, 48, 48, 48, 48, 48, 48, 48, 48, 48, 48, 48, 48, 48] = A8) (lA8 : A8.length ≤ 200) (hA9 : A1 ++ [95, 48] = A9) (lA9 : A9.length ≤ 200) (hB1 : [115, 46, 115, 46] ++ S = B1) (lB1 : B1.length ≤ 200)
    (x : Act) (w : World) (hB : Below w0.heap.size w0 w) (hdef : x.defers = df) (u1 : x.tmps.getD 1 undef = .slice (some ⟨g, 0, none⟩) 12 12) (u2 : x.tmps.getD 2 undef = .int .i64 (i : Nat)) (u3 : x.tmps.getD 3 undef = .string ⟨S.toArray⟩)
    (p63 : mnmR_val g i n S A1 A2 A3 A4 A5 A6 A7 A8 A9 B1 63 (x.tmps.getD 80 undef) w)
    (p59 : mnmR_val g i n S A1 A2 A3 A4 A5 A6 A7 A8 A9 B1 59 (x.tmps.getD 76 undef) w)
    : wpOpIn Fc nC Tryz.prog mnmR_ops Q 64 (fun a' w' => ∃ v, a' = x.put (some 81) v ∧ (v = .bool false) ∧ Below w.heap.size w w') x w := by
  have ho : mnmR_ops[64]? = some mnmR_o64 := rfl
  simp only [Array.getD_eq_getD_getElem?] at u1 u2 u3
  have q63 : x.tmps.getD 80 undef = .bool true := p63
  have q59 : x.tmps.getD 76 undef = .bool false := p59
  simp only [Array.getD_eq_getD_getElem?] at q63 q59
  have e59 : (mnmR_ops[59]?.bind fun x => x.dst) = some 76 := rfl
  have g59 := get_someT q59 (fun h => by cases h)
  refine wpOpIn_stepT hF ho (fun K hK => ?_)
  clear ho
  rw [Oper.semAt_plain Fc _ _ (by intro c h; cases h)]
  simp only [mnmR_o64]
  go_simp
  exact hK _ _ ⟨_, act_putD x hdef _ _, rfl, Below.refl _ _⟩
set_option maxRecDepth 100000 in
set_option maxHeartbeats 2000000 in
theorem mnmR_s65 {Fc : Fence} (hF : Wide Fc) {nC : Nat} (g i : Nat) (n : Int) (S A1 A2 A3 A4 A5 A6 A7 A8 A9 B1 : List UInt8) (Q : Exit → Act → World → Prop) (df : List Deferred) (w0 : World)
    (hS : w0.cell? ⟨g, i, none⟩ = some (.int .i64 n)) (hi : i < 12) (hW : StdW w0) (lS : S.length ≤ 100) (hA1 : [115, 46] ++ S = A1) (lA1 : A1.length ≤ 200) (hA2 : [115, 46, 48] ++ S = A2) (lA2 : A2.length ≤ 200) (hA3 : [115, 46, 43] ++ S = A3) (lA3 : A3.length ≤ 200) (hA4 : [83, 46] ++ S = A4) (lA4 : A4.length ≤ 200) (hA5 : A1 ++ [32] = A5) (lA5 : A5.length ≤ 200) (hA6 : [115, 46, 32] ++ S = A6) (lA6 : A6.length ≤ 200) (hA7 : [115] ++ S = A7) (lA7 : A7.length ≤ 200) (hA8 : A1 ++ [48, 48, 48, 48, 48, 48, 48, 48, 48, 48, 48, 48, 48, 48, 48, 48, 48, 48, 48, 48, 48, 48] = A8) (lA8 : A8.length ≤ 200) (hA9 : A1 ++ [95, 48] = A9) (lA9 : A9.length ≤ 200) (hB1 : [115, 46, 115, 46] ++ S = B1) (lB1 : B1.length ≤ 200)
    (x : Act) (w : World) (hB : Below w0.heap.size w0 w) (hdef : x.defers = df) (u1 : x.tmps.getD 1 undef = .slice (some ⟨g, 0, none⟩) 12 12) (u2 : x.tmps.getD 2 undef = .int .i64 (i : Nat)) (u3 : x.tmps.getD 3 undef = .string ⟨S.toArray⟩)
    (p59 : mnmR_val g i n S A1 A2 A3 A4 A5 A6 A7 A8 A9 B1 59 (x.tmps.getD 76 undef) w)
    (p64 : mnmR_val g i n S A1 A2 A3 A4 A5 A6 A7 A8 A9 B1 64 (x.tmps.getD 81 undef) w)
    : wpOpIn Fc nC Tryz.prog mnmR_ops Q 65 (fun a' w' => ∃ v, a' = x.put (some 82) v ∧ (v = .bool false) ∧ Below w.heap.size w w') x w := by
  have ho : mnmR_ops[65]? = some mnmR_o65 := rfl
  simp only [Array.getD_eq_getD_getElem?] at u1 u2 u3
  have q59 : x.tmps.getD 76 undef = .bool false := p59
  have q64 : x.tmps.getD 81 undef = .bool false := p64
  simp only [Array.getD_eq_getD_getElem?] at q59 q64
  refine wpOpIn_plain ho rfl (oper_inK hF.fn (fun K hK => ?_))
  clear ho
  rw [Oper.semAt_plain Fc _ _ (by intro c h; cases h)]
  simp only [mnmR_o65]
  go_simp
  exact hK _ _ ⟨_, act_putD x hdef _ _, rfl, Below.refl _ _⟩
set_option maxRecDepth 100000 in
set_option maxHeartbeats 2000000 in
theorem mnmR_s66 {Fc : Fence} (hF : Wide Fc) {nC : Nat} (g i : Nat) (n : Int) (S A1 A2 A3 A4 A5 A6 A7 A8 A9 B1 : List UInt8) (Q : Exit → Act → World → Prop) (df : List Deferred) (w0 : World)
    (hS : w0.cell? ⟨g, i, none⟩ = some (.int .i64 n)) (hi : i < 12) (hW : StdW w0) (lS : S.length ≤ 100) (hA1 : [115, 46] ++ S = A1) (lA1 : A1.length ≤ 200) (hA2 : [115, 46, 48] ++ S = A2) (lA2 : A2.length ≤ 200) (hA3 : [115, 46, 43] ++ S = A3) (lA3 : A3.length ≤ 200) (hA4 : [83, 46] ++ S = A4) (lA4 : A4.length ≤ 200) (hA5 : A1 ++ [32] = A5) (lA5 : A5.length ≤ 200) (hA6 : [115, 46, 32] ++ S = A6) (lA6 : A6.length ≤ 200) (hA7 : [115] ++ S = A7) (lA7 : A7.length ≤ 200) (hA8 : A1 ++ [48, 48, 48, 48, 48, 48, 48, 48, 48, 48, 48, 48, 48, 48, 48, 48, 48, 48, 48, 48, 48, 48] = A8) (lA8 : A8.length ≤ 200) (hA9 : A1 ++ [95, 48] = A9) (lA9 : A9.length ≤ 200) (hB1 : [115, 46, 115, 46] ++ S = B1) (lB1 : B1.length ≤ 200)
    (x : Act) (w : World) (hB : Below w0.heap.size w0 w) (hdef : x.defers = df) (u1 : x.tmps.getD 1 undef = .slice (some ⟨g, 0, none⟩) 12 12) (u2 : x.tmps.getD 2 undef = .int .i64 (i : Nat)) (u3 : x.tmps.getD 3 undef = .string ⟨S.toArray⟩)
    (p65 : mnmR_val g i n S A1 A2 A3 A4 A5 A6 A7 A8 A9 B1 65 (x.tmps.getD 82 undef) w)
    : wpOpIn Fc nC Tryz.prog mnmR_ops Q 66 (fun a' w' => ∃ v, a' = x.put (some 83) v ∧ (v = .bool false) ∧ Below w.heap.size w w') x w := by
  have ho : mnmR_ops[66]? = some mnmR_o66 := rfl
  simp only [Array.getD_eq_getD_getElem?] at u1 u2 u3
  have q65 : x.tmps.getD 82 undef = .bool false := p65
  simp only [Array.getD_eq_getD_getElem?] at q65
  refine wpOpIn_plain ho rfl (oper_inK hF.fn (fun K hK => ?_))
  clear ho
  rw [Oper.semAt_plain Fc _ _ (by intro c h; cases h)]
  simp only [mnmR_o66]
  go_simp
  exact hK _ _ ⟨_, act_putD x hdef _ _, rfl, Below.refl _ _⟩
set_option maxRecDepth 100000 in
set_option maxHeartbeats 2000000 in
theorem mnmR_s67 {Fc : Fence} (hF : Wide Fc) {nC : Nat} (g i : Nat) (n : Int) (S A1 A2 A3 A4 A5 A6 A7 A8 A9 B1 : List UInt8) (Q : Exit → Act → World → Prop) (df : List Deferred) (w0 : World)
    (hS : w0.cell? ⟨g, i, none⟩ = some (.int .i64 n)) (hi : i < 12) (hW : StdW w0) (lS : S.length ≤ 100) (hA1 : [115, 46] ++ S = A1) (lA1 : A1.length ≤ 200) (hA2 : [115, 46, 48] ++ S = A2) (lA2 : A2.length ≤ 200) (hA3 : [115, 46, 43] ++ S = A3) (lA3 : A3.length ≤ 200) (hA4 : [83, 46] ++ S = A4) (lA4 : A4.length ≤ 200) (hA5 : A1 ++ [32] = A5) (lA5 : A5.length ≤ 200) (hA6 : [115, 46, 32] ++ S = A6) (lA6 : A6.length ≤ 200) (hA7 : [115] ++ S = A7) (lA7 : A7.length ≤ 200) (hA8 : A1 ++ [48, 48, 48, 48, 48, 48, 48, 48, 48, 48, 48, 48, 48, 48, 48, 48, 48, 48, 48, 48, 48, 48] = A8) (lA8 : A8.length ≤ 200) (hA9 : A1 ++ [95, 48] = A9) (lA9 : A9.length ≤ 200) (hB1 : [115, 46, 115, 46] ++ S = B1) (lB1 : B1.length ≤ 200)
    (x : Act) (w : World) (hB : Below w0.heap.size w0 w) (hdef : x.defers = df) (u1 : x.tmps.getD 1 undef = .slice (some ⟨g, 0, none⟩) 12 12) (u2 : x.tmps.getD 2 undef = .int .i64 (i : Nat)) (u3 : x.tmps.getD 3 undef = .string ⟨S.toArray⟩)
    (p66 : mnmR_val g i n S A1 A2 A3 A4 A5 A6 A7 A8 A9 B1 66 (x.tmps.getD 83 undef) w)
    : wpOpIn Fc nC Tryz.prog mnmR_ops Q 67 (fun a' w' => ∃ v, a' = x.put (some 84) v ∧ (v = .string ⟨S.toArray⟩) ∧ Below w.heap.size w w') x w := by
  have ho : mnmR_ops[67]? = some mnmR_o67 := rfl
  simp only [Array.getD_eq_getD_getElem?] at u1 u2 u3
  have q66 : x.tmps.getD 83 undef = .bool false := p66
  simp only [Array.getD_eq_getD_getElem?] at q66
  have e66 : (mnmR_ops[66]?.bind fun x => x.dst) = some 83 := rfl
  have g66 := get_someT q66 (fun h => by cases h)
  refine wpOpIn_stepT hF ho (fun K hK => ?_)
  clear ho
  rw [Oper.semAt_plain Fc _ _ (by intro c h; cases h)]
  simp only [mnmR_o67]
  go_simp
  exact hK _ _ ⟨_, act_putD x hdef _ _, rfl, Below.refl _ _⟩
set_option maxRecDepth 100000 in
set_option maxHeartbeats 2000000 in
theorem mnmR_s68 {Fc : Fence} (hF : Wide Fc) {nC : Nat} (g i : Nat) (n : Int) (S A1 A2 A3 A4 A5 A6 A7 A8 A9 B1 : List UInt8) (Q : Exit → Act → World → Prop) (df : List Deferred) (w0 : World)
    (hS : w0.cell? ⟨g, i, none⟩ = some (.int .i64 n)) (hi : i < 12) (hW : StdW w0) (lS : S.length ≤ 100) (hA1 : [115, 46] ++ S = A1) (lA1 : A1.length ≤ 200) (hA2 : [115, 46, 48] ++ S = A2) (lA2 : A2.length ≤ 200) (hA3 : [115, 46, 43] ++ S = A3) (lA3 : A3.length ≤ 200) (hA4 : [83, 46] ++ S = A4) (lA4 : A4.length ≤ 200) (hA5 : A1 ++ [32] = A5) (lA5 : A5.length ≤ 200) (hA6 : [115, 46, 32] ++ S = A6) (lA6 : A6.length ≤ 200) (hA7 : [115] ++ S = A7) (lA7 : A7.length ≤ 200) (hA8 : A1 ++ [48, 48, 48, 48, 48, 48, 48, 48, 48, 48, 48, 48, 48, 48, 48, 48, 48, 48, 48, 48, 48, 48] = A8) (lA8 : A8.length ≤ 200) (hA9 : A1 ++ [95, 48] = A9) (lA9 : A9.length ≤ 200) (hB1 : [115, 46, 115, 46] ++ S = B1) (lB1 : B1.length ≤ 200)
    (x : Act) (w : World) (hB : Below w0.heap.size w0 w) (hdef : x.defers = df) (u1 : x.tmps.getD 1 undef = .slice (some ⟨g, 0, none⟩) 12 12) (u2 : x.tmps.getD 2 undef = .int .i64 (i : Nat)) (u3 : x.tmps.getD 3 undef = .string ⟨S.toArray⟩)
    (p67 : mnmR_val g i n S A1 A2 A3 A4 A5 A6 A7 A8 A9 B1 67 (x.tmps.getD 84 undef) w)
    (p66 : mnmR_val g i n S A1 A2 A3 A4 A5 A6 A7 A8 A9 B1 66 (x.tmps.getD 83 undef) w)
    : wpOpIn Fc nC Tryz.prog mnmR_ops Q 68 (fun a' w' => ∃ v, a' = x.put (some 85) v ∧ (v = .string ⟨A1.toArray⟩) ∧ Below w.heap.size w w') x w := by
  have ho : mnmR_ops[68]? = some mnmR_o68 := rfl
  simp only [Array.getD_eq_getD_getElem?] at u1 u2 u3
  have q67 : x.tmps.getD 84 undef = .string ⟨S.toArray⟩ := p67
  have q66 : x.tmps.getD 83 undef = .bool false := p66
  simp only [Array.getD_eq_getD_getElem?] at q67 q66
  have e66 : (mnmR_ops[66]?.bind fun x => x.dst) = some 83 := rfl
  have g66 := get_someT q66 (fun h => by cases h)
  have hl := (show ¬ 9223372036854775807 < 2 + S.length by omega)
  refine wpOpIn_stepT hF ho (fun K hK => ?_)
  clear ho
  rw [Oper.semAt_plain Fc _ _ (by intro c h; cases h)]
  simp only [mnmR_o68]
  go_simp
  exact hK _ _ ⟨_, act_putD x hdef _ _, by rw [← hA1]; exact str_join [115, 46] S, Below.refl _ _⟩
set_option maxRecDepth 100000 in
set_option maxHeartbeats 2000000 in
theorem mnmR_s69 {Fc : Fence} (hF : Wide Fc) {nC : Nat} (g i : Nat) (n : Int) (S A1 A2 A3 A4 A5 A6 A7 A8 A9 B1 : List UInt8) (Q : Exit → Act → World → Prop) (df : List Deferred) (w0 : World)
    (hS : w0.cell? ⟨g, i, none⟩ = some (.int .i64 n)) (hi : i < 12) (hW : StdW w0) (lS : S.length ≤ 100) (hA1 : [115, 46] ++ S = A1) (lA1 : A1.length ≤ 200) (hA2 : [115, 46, 48] ++ S = A2) (lA2 : A2.length ≤ 200) (hA3 : [115, 46, 43] ++ S = A3) (lA3 : A3.length ≤ 200) (hA4 : [83, 46] ++ S = A4) (lA4 : A4.length ≤ 200) (hA5 : A1 ++ [32] = A5) (lA5 : A5.length ≤ 200) (hA6 : [115, 46, 32] ++ S = A6) (lA6 : A6.length ≤ 200) (hA7 : [115] ++ S = A7) (lA7 : A7.length ≤ 200) (hA8 : A1 ++ [48, 48, 48, 48, 48, 48, 48, 48, 48, 48, 48, 48, 48, 48, 48, 48, 48, 48, 48, 48, 48, 48] = A8) (lA8 : A8.length ≤ 200) (hA9 : A1 ++ [95, 48] = A9) (lA9 : A9.length ≤ 200) (hB1 : [115, 46, 115, 46] ++ S = B1) (lB1 : B1.length ≤ 200)
    (x : Act) (w : World) (hB : Below w0.heap.size w0 w) (hdef : x.defers = df) (u1 : x.tmps.getD 1 undef = .slice (some ⟨g, 0, none⟩) 12 12) (u2 : x.tmps.getD 2 undef = .int .i64 (i : Nat)) (u3 : x.tmps.getD 3 undef = .string ⟨S.toArray⟩)
    (p68 : mnmR_val g i n S A1 A2 A3 A4 A5 A6 A7 A8 A9 B1 68 (x.tmps.getD 85 undef) w)
    (p66 : mnmR_val g i n S A1 A2 A3 A4 A5 A6 A7 A8 A9 B1 66 (x.tmps.getD 83 undef) w)
    : wpOpIn Fc nC Tryz.prog mnmR_ops Q 69 (fun a' w' => ∃ v, a' = x.put (some 86) v ∧ (v = .string ⟨A9.toArray⟩) ∧ Below w.heap.size w w') x w := by
  have ho : mnmR_ops[69]? = some mnmR_o69 := rfl
  simp only [Array.getD_eq_getD_getElem?] at u1 u2 u3
  have q68 : x.tmps.getD 85 undef = .string ⟨A1.toArray⟩ := p68
  have q66 : x.tmps.getD 83 undef = .bool false := p66
  simp only [Array.getD_eq_getD_getElem?] at q68 q66
  have e66 : (mnmR_ops[66]?.bind fun x => x.dst) = some 83 := rfl
  have g66 := get_someT q66 (fun h => by cases h)
  have hl := (show ¬ 9223372036854775807 < A1.length + 2 by omega)
  refine wpOpIn_stepT hF ho (fun K hK => ?_)
  clear ho
  rw [Oper.semAt_plain Fc _ _ (by intro c h; cases h)]
  simp only [mnmR_o69]
  go_simp
  exact hK _ _ ⟨_, act_putD x hdef _ _, by rw [← hA9]; exact str_join A1 [95, 48], Below.refl _ _⟩
set_option maxRecDepth 100000 in
set_option maxHeartbeats 2000000 in
theorem mnmR_s70 {Fc : Fence} (hF : Wide Fc) {nC : Nat} (g i : Nat) (n : Int) (S A1 A2 A3 A4 A5 A6 A7 A8 A9 B1 : List UInt8) (Q : Exit → Act → World → Prop) (df : List Deferred) (w0 : World)
    (hS : w0.cell? ⟨g, i, none⟩ = some (.int .i64 n)) (hi : i < 12) (hW : StdW w0) (lS : S.length ≤ 100) (hA1 : [115, 46] ++ S = A1) (lA1 : A1.length ≤ 200) (hA2 : [115, 46, 48] ++ S = A2) (lA2 : A2.length ≤ 200) (hA3 : [115, 46, 43] ++ S = A3) (lA3 : A3.length ≤ 200) (hA4 : [83, 46] ++ S = A4) (lA4 : A4.length ≤ 200) (hA5 : A1 ++ [32] = A5) (lA5 : A5.length ≤ 200) (hA6 : [115, 46, 32] ++ S = A6) (lA6 : A6.length ≤ 200) (hA7 : [115] ++ S = A7) (lA7 : A7.length ≤ 200) (hA8 : A1 ++ [48, 48, 48, 48, 48, 48, 48, 48, 48, 48, 48, 48, 48, 48, 48, 48, 48, 48, 48, 48, 48, 48] = A8) (lA8 : A8.length ≤ 200) (hA9 : A1 ++ [95, 48] = A9) (lA9 : A9.length ≤ 200) (hB1 : [115, 46, 115, 46] ++ S = B1) (lB1 : B1.length ≤ 200)
    (x : Act) (w : World) (hB : Below w0.heap.size w0 w) (hdef : x.defers = df) (u1 : x.tmps.getD 1 undef = .slice (some ⟨g, 0, none⟩) 12 12) (u2 : x.tmps.getD 2 undef = .int .i64 (i : Nat)) (u3 : x.tmps.getD 3 undef = .string ⟨S.toArray⟩)
    (p69 : mnmR_val g i n S A1 A2 A3 A4 A5 A6 A7 A8 A9 B1 69 (x.tmps.getD 86 undef) w)
    (p66 : mnmR_val g i n S A1 A2 A3 A4 A5 A6 A7 A8 A9 B1 66 (x.tmps.getD 83 undef) w)
    : wpOpIn Fc nC Tryz.prog mnmR_ops Q 70 (fun a' w' => ∃ v, a' = x.put (some 87) v ∧ (v = .bool true) ∧ Below w.heap.size w w') x w := by
  have ho : mnmR_ops[70]? = some mnmR_o70 := rfl
  simp only [Array.getD_eq_getD_getElem?] at u1 u2 u3
  have q69 : x.tmps.getD 86 undef = .string ⟨A9.toArray⟩ := p69
  have q66 : x.tmps.getD 83 undef = .bool false := p66
  simp only [Array.getD_eq_getD_getElem?] at q69 q66
  have e66 : (mnmR_ops[66]?.bind fun x => x.dst) = some 83 := rfl
  have g66 := get_someT q66 (fun h => by cases h)
  refine wpOpIn_stepT hF ho (fun K hK => ?_)
  clear ho
  rw [Oper.semAt_plain Fc _ _ (by intro c h; cases h)]
  simp only [mnmR_o70]
  go_simp
  refine ⟨hF.deep, (hF.call (name25_any A9 w (by omega) (hW.below hB))).mono ?_⟩
  rintro e w' ⟨rfl, hb⟩
  exact hK _ _ ⟨_, act_putD x hdef _ _, rfl, hb⟩
set_option maxRecDepth 100000 in
set_option maxHeartbeats 2000000 in
theorem mnmR_s71 {Fc : Fence} (hF : Wide Fc) {nC : Nat} (g i : Nat) (n : Int) (S A1 A2 A3 A4 A5 A6 A7 A8 A9 B1 : List UInt8) (Q : Exit → Act → World → Prop) (df : List Deferred) (w0 : World)
    (hS : w0.cell? ⟨g, i, none⟩ = some (.int .i64 n)) (hi : i < 12) (hW : StdW w0) (lS : S.length ≤ 100) (hA1 : [115, 46] ++ S = A1) (lA1 : A1.length ≤ 200) (hA2 : [115, 46, 48] ++ S = A2) (lA2 : A2.length ≤ 200) (hA3 : [115, 46, 43] ++ S = A3) (lA3 : A3.length ≤ 200) (hA4 : [83, 46] ++ S = A4) (lA4 : A4.length ≤ 200) (hA5 : A1 ++ [32] = A5) (lA5 : A5.length ≤ 200) (hA6 : [115, 46, 32] ++ S = A6) (lA6 : A6.length ≤ 200) (hA7 : [115] ++ S = A7) (lA7 : A7.length ≤ 200) (hA8 : A1 ++ [48, 48, 48, 48, 48, 48, 48, 48, 48, 48, 48, 48, 48, 48, 48, 48, 48, 48, 48, 48, 48, 48] = A8) (lA8 : A8.length ≤ 200) (hA9 : A1 ++ [95, 48] = A9) (lA9 : A9.length ≤ 200) (hB1 : [115, 46, 115, 46] ++ S = B1) (lB1 : B1.length ≤ 200)
    (x : Act) (w : World) (hB : Below w0.heap.size w0 w) (hdef : x.defers = df) (u1 : x.tmps.getD 1 undef = .slice (some ⟨g, 0, none⟩) 12 12) (u2 : x.tmps.getD 2 undef = .int .i64 (i : Nat)) (u3 : x.tmps.getD 3 undef = .string ⟨S.toArray⟩)
    (p70 : mnmR_val g i n S A1 A2 A3 A4 A5 A6 A7 A8 A9 B1 70 (x.tmps.getD 87 undef) w)
    (p66 : mnmR_val g i n S A1 A2 A3 A4 A5 A6 A7 A8 A9 B1 66 (x.tmps.getD 83 undef) w)
    : wpOpIn Fc nC Tryz.prog mnmR_ops Q 71 (fun a' w' => ∃ v, a' = x.put (some 88) v ∧ (v = .bool false) ∧ Below w.heap.size w w') x w := by
  have ho : mnmR_ops[71]? = some mnmR_o71 := rfl
  simp only [Array.getD_eq_getD_getElem?] at u1 u2 u3
  have q70 : x.tmps.getD 87 undef = .bool true := p70
  have q66 : x.tmps.getD 83 undef = .bool false := p66
  simp only [Array.getD_eq_getD_getElem?] at q70 q66
  have e66 : (mnmR_ops[66]?.bind fun x => x.dst) = some 83 := rfl
  have g66 := get_someT q66 (fun h => by cases h)
  refine wpOpIn_stepT hF ho (fun K hK => ?_)
  clear ho
  rw [Oper.semAt_plain Fc _ _ (by intro c h; cases h)]
  simp only [mnmR_o71]
  go_simp
  exact hK _ _ ⟨_, act_putD x hdef _ _, rfl, Below.refl _ _⟩
set_option maxRecDepth 100000 in
set_option maxHeartbeats 2000000 in
theorem mnmR_s72 {Fc : Fence} (hF : Wide Fc) {nC : Nat} (g i : Nat) (n : Int) (S A1 A2 A3 A4 A5 A6 A7 A8 A9 B1 : List UInt8) (Q : Exit → Act → World → Prop) (df : List Deferred) (w0 : World)
    (hS : w0.cell? ⟨g, i, none⟩ = some (.int .i64 n)) (hi : i < 12) (hW : StdW w0) (lS : S.length ≤ 100) (hA1 : [115, 46] ++ S = A1) (lA1 : A1.length ≤ 200) (hA2 : [115, 46, 48] ++ S = A2) (lA2 : A2.length ≤ 200) (hA3 : [115, 46, 43] ++ S = A3) (lA3 : A3.length ≤ 200) (hA4 : [83, 46] ++ S = A4) (lA4 : A4.length ≤ 200) (hA5 : A1 ++ [32] = A5) (lA5 : A5.length ≤ 200) (hA6 : [115, 46, 32] ++ S = A6) (lA6 : A6.length ≤ 200) (hA7 : [115] ++ S = A7) (lA7 : A7.length ≤ 200) (hA8 : A1 ++ [48, 48, 48, 48, 48, 48, 48, 48, 48, 48, 48, 48, 48, 48, 48, 48, 48, 48, 48, 48, 48, 48] = A8) (lA8 : A8.length ≤ 200) (hA9 : A1 ++ [95, 48] = A9) (lA9 : A9.length ≤ 200) (hB1 : [115, 46, 115, 46] ++ S = B1) (lB1 : B1.length ≤ 200)
    (x : Act) (w : World) (hB : Below w0.heap.size w0 w) (hdef : x.defers = df) (u1 : x.tmps.getD 1 undef = .slice (some ⟨g, 0, none⟩) 12 12) (u2 : x.tmps.getD 2 undef = .int .i64 (i : Nat)) (u3 : x.tmps.getD 3 undef = .string ⟨S.toArray⟩)
    (p66 : mnmR_val g i n S A1 A2 A3 A4 A5 A6 A7 A8 A9 B1 66 (x.tmps.getD 83 undef) w)
    (p71 : mnmR_val g i n S A1 A2 A3 A4 A5 A6 A7 A8 A9 B1 71 (x.tmps.getD 88 undef) w)
    : wpOpIn Fc nC Tryz.prog mnmR_ops Q 72 (fun a' w' => ∃ v, a' = x.put (some 89) v ∧ (v = .bool false) ∧ Below w.heap.size w w') x w := by
  have ho : mnmR_ops[72]? = some mnmR_o72 := rfl
  simp only [Array.getD_eq_getD_getElem?] at u1 u2 u3
  have q66 : x.tmps.getD 83 undef = .bool false := p66
  have q71 : x.tmps.getD 88 undef = .bool false := p71
  simp only [Array.getD_eq_getD_getElem?] at q66 q71
  refine wpOpIn_plain ho rfl (oper_inK hF.fn (fun K hK => ?_))
  clear ho
  rw [Oper.semAt_plain Fc _ _ (by intro c h; cases h)]
  simp only [mnmR_o72]
  go_simp
  exact hK _ _ ⟨_, act_putD x hdef _ _, rfl, Below.refl _ _⟩
set_option maxRecDepth 100000 in
set_option maxHeartbeats 2000000 in
theorem mnmR_s73 {Fc : Fence} (hF : Wide Fc) {nC : Nat} (g i : Nat) (n : Int) (S A1 A2 A3 A4 A5 A6 A7 A8 A9 B1 : List UInt8) (Q : Exit → Act → World → Prop) (df : List Deferred) (w0 : World)
    (hS : w0.cell? ⟨g, i, none⟩ = some (.int .i64 n)) (hi : i < 12) (hW : StdW w0) (lS : S.length ≤ 100) (hA1 : [115, 46] ++ S = A1) (lA1 : A1.length ≤ 200) (hA2 : [115, 46, 48] ++ S = A2) (lA2 : A2.length ≤ 200) (hA3 : [115, 46, 43] ++ S = A3) (lA3 : A3.length ≤ 200) (hA4 : [83, 46] ++ S = A4) (lA4 : A4.length ≤ 200) (hA5 : A1 ++ [32] = A5) (lA5 : A5.length ≤ 200) (hA6 : [115, 46, 32] ++ S = A6) (lA6 : A6.length ≤ 200) (hA7 : [115] ++ S = A7) (lA7 : A7.length ≤ 200) (hA8 : A1 ++ [48, 48, 48, 48, 48, 48, 48, 48, 48, 48, 48, 48, 48, 48, 48, 48, 48, 48, 48, 48, 48, 48] = A8) (lA8 : A8.length ≤ 200) (hA9 : A1 ++ [95, 48] = A9) (lA9 : A9.length ≤ 200) (hB1 : [115, 46, 115, 46] ++ S = B1) (lB1 : B1.length ≤ 200)
    (x : Act) (w : World) (hB : Below w0.heap.size w0 w) (hdef : x.defers = df) (u1 : x.tmps.getD 1 undef = .slice (some ⟨g, 0, none⟩) 12 12) (u2 : x.tmps.getD 2 undef = .int .i64 (i : Nat)) (u3 : x.tmps.getD 3 undef = .string ⟨S.toArray⟩)
    (p72 : mnmR_val g i n S A1 A2 A3 A4 A5 A6 A7 A8 A9 B1 72 (x.tmps.getD 89 undef) w)
    : wpOpIn Fc nC Tryz.prog mnmR_ops Q 73 (fun a' w' => ∃ v, a' = x.put (some 90) v ∧ (v = .bool false) ∧ Below w.heap.size w w') x w := by
  have ho : mnmR_ops[73]? = some mnmR_o73 := rfl
  simp only [Array.getD_eq_getD_getElem?] at u1 u2 u3
  have q72 : x.tmps.getD 89 undef = .bool false := p72
  simp only [Array.getD_eq_getD_getElem?] at q72
  refine wpOpIn_plain ho rfl (oper_inK hF.fn (fun K hK => ?_))
  clear ho
  rw [Oper.semAt_plain Fc _ _ (by intro c h; cases h)]
  simp only [mnmR_o73]
  go_simp
  exact hK _ _ ⟨_, act_putD x hdef _ _, rfl, Below.refl _ _⟩
set_option maxRecDepth 100000 in
set_option maxHeartbeats 2000000 in
theorem mnmR_s74 {Fc : Fence} (hF : Wide Fc) {nC : Nat} (g i : Nat) (n : Int) (S A1 A2 A3 A4 A5 A6 A7 A8 A9 B1 : List UInt8) (Q : Exit → Act → World → Prop) (df : List Deferred) (w0 : World)
    (hS : w0.cell? ⟨g, i, none⟩ = some (.int .i64 n)) (hi : i < 12) (hW : StdW w0) (lS : S.length ≤ 100) (hA1 : [115, 46] ++ S = A1) (lA1 : A1.length ≤ 200) (hA2 : [115, 46, 48] ++ S = A2) (lA2 : A2.length ≤ 200) (hA3 : [115, 46, 43] ++ S = A3) (lA3 : A3.length ≤ 200) (hA4 : [83, 46] ++ S = A4) (lA4 : A4.length ≤ 200) (hA5 : A1 ++ [32] = A5) (lA5 : A5.length ≤ 200) (hA6 : [115, 46, 32] ++ S = A6) (lA6 : A6.length ≤ 200) (hA7 : [115] ++ S = A7) (lA7 : A7.length ≤ 200) (hA8 : A1 ++ [48, 48, 48, 48, 48, 48, 48, 48, 48, 48, 48, 48, 48, 48, 48, 48, 48, 48, 48, 48, 48, 48] = A8) (lA8 : A8.length ≤ 200) (hA9 : A1 ++ [95, 48] = A9) (lA9 : A9.length ≤ 200) (hB1 : [115, 46, 115, 46] ++ S = B1) (lB1 : B1.length ≤ 200)
    (x : Act) (w : World) (hB : Below w0.heap.size w0 w) (hdef : x.defers = df) (u1 : x.tmps.getD 1 undef = .slice (some ⟨g, 0, none⟩) 12 12) (u2 : x.tmps.getD 2 undef = .int .i64 (i : Nat)) (u3 : x.tmps.getD 3 undef = .string ⟨S.toArray⟩)
    (p73 : mnmR_val g i n S A1 A2 A3 A4 A5 A6 A7 A8 A9 B1 73 (x.tmps.getD 90 undef) w)
    : wpOpIn Fc nC Tryz.prog mnmR_ops Q 74 (fun a' w' => ∃ v, a' = x.put (some 91) v ∧ (v = .string ⟨S.toArray⟩) ∧ Below w.heap.size w w') x w := by
  have ho : mnmR_ops[74]? = some mnmR_o74 := rfl
  simp only [Array.getD_eq_getD_getElem?] at u1 u2 u3
  have q73 : x.tmps.getD 90 undef = .bool false := p73
  simp only [Array.getD_eq_getD_getElem?] at q73
  have e73 : (mnmR_ops[73]?.bind fun x => x.dst) = some 90 := rfl
  have g73 := get_someT q73 (fun h => by cases h)
  refine wpOpIn_stepT hF ho (fun K hK => ?_)
  clear ho
  rw [Oper.semAt_plain Fc _ _ (by intro c h; cases h)]
  simp only [mnmR_o74]
  go_simp
  exact hK _ _ ⟨_, act_putD x hdef _ _, rfl, Below.refl _ _⟩
set_option maxRecDepth 100000 in
set_option maxHeartbeats 2000000 in
theorem mnmR_s75 {Fc : Fence} (hF : Wide Fc) {nC : Nat} (g i : Nat) (n : Int) (S A1 A2 A3 A4 A5 A6 A7 A8 A9 B1 : List UInt8) (Q : Exit → Act → World → Prop) (df : List Deferred) (w0 : World)
    (hS : w0.cell? ⟨g, i, none⟩ = some (.int .i64 n)) (hi : i < 12) (hW : StdW w0) (lS : S.length ≤ 100) (hA1 : [115, 46] ++ S = A1) (lA1 : A1.length ≤ 200) (hA2 : [115, 46, 48] ++ S = A2) (lA2 : A2.length ≤ 200) (hA3 : [115, 46, 43] ++ S = A3) (lA3 : A3.length ≤ 200) (hA4 : [83, 46] ++ S = A4) (lA4 : A4.length ≤ 200) (hA5 : A1 ++ [32] = A5) (lA5 : A5.length ≤ 200) (hA6 : [115, 46, 32] ++ S = A6) (lA6 : A6.length ≤ 200) (hA7 : [115] ++ S = A7) (lA7 : A7.length ≤ 200) (hA8 : A1 ++ [48, 48, 48, 48, 48, 48, 48, 48, 48, 48, 48, 48, 48, 48, 48, 48, 48, 48, 48, 48, 48, 48] = A8) (lA8 : A8.length ≤ 200) (hA9 : A1 ++ [95, 48] = A9) (lA9 : A9.length ≤ 200) (hB1 : [115, 46, 115, 46] ++ S = B1) (lB1 : B1.length ≤ 200)
    (x : Act) (w : World) (hB : Below w0.heap.size w0 w) (hdef : x.defers = df) (u1 : x.tmps.getD 1 undef = .slice (some ⟨g, 0, none⟩) 12 12) (u2 : x.tmps.getD 2 undef = .int .i64 (i : Nat)) (u3 : x.tmps.getD 3 undef = .string ⟨S.toArray⟩)
    (p74 : mnmR_val g i n S A1 A2 A3 A4 A5 A6 A7 A8 A9 B1 74 (x.tmps.getD 91 undef) w)
    (p73 : mnmR_val g i n S A1 A2 A3 A4 A5 A6 A7 A8 A9 B1 73 (x.tmps.getD 90 undef) w)
    : wpOpIn Fc nC Tryz.prog mnmR_ops Q 75 (fun a' w' => ∃ v, a' = x.put (some 92) v ∧ (v = .string ⟨B1.toArray⟩) ∧ Below w.heap.size w w') x w := by
  have ho : mnmR_ops[75]? = some mnmR_o75 := rfl
  simp only [Array.getD_eq_getD_getElem?] at u1 u2 u3
  have q74 : x.tmps.getD 91 undef = .string ⟨S.toArray⟩ := p74
  have q73 : x.tmps.getD 90 undef = .bool false := p73
  simp only [Array.getD_eq_getD_getElem?] at q74 q73
  have e73 : (mnmR_ops[73]?.bind fun x => x.dst) = some 90 := rfl
  have g73 := get_someT q73 (fun h => by cases h)
  have hl := (show ¬ 9223372036854775807 < 4 + S.length by omega)
  refine wpOpIn_stepT hF ho (fun K hK => ?_)
  clear ho
  rw [Oper.semAt_plain Fc _ _ (by intro c h; cases h)]
  simp only [mnmR_o75]
  go_simp
  exact hK _ _ ⟨_, act_putD x hdef _ _, by rw [← hB1]; exact str_join [115, 46, 115, 46] S, Below.refl _ _⟩
set_option maxRecDepth 100000 in
set_option maxHeartbeats 2000000 in
theorem mnmR_s76 {Fc : Fence} (hF : Wide Fc) {nC : Nat} (g i : Nat) (n : Int) (S A1 A2 A3 A4 A5 A6 A7 A8 A9 B1 : List UInt8) (Q : Exit → Act → World → Prop) (df : List Deferred) (w0 : World)
    (hS : w0.cell? ⟨g, i, none⟩ = some (.int .i64 n)) (hi : i < 12) (hW : StdW w0) (lS : S.length ≤ 100) (hA1 : [115, 46] ++ S = A1) (lA1 : A1.length ≤ 200) (hA2 : [115, 46, 48] ++ S = A2) (lA2 : A2.length ≤ 200) (hA3 : [115, 46, 43] ++ S = A3) (lA3 : A3.length ≤ 200) (hA4 : [83, 46] ++ S = A4) (lA4 : A4.length ≤ 200) (hA5 : A1 ++ [32] = A5) (lA5 : A5.length ≤ 200) (hA6 : [115, 46, 32] ++ S = A6) (lA6 : A6.length ≤ 200) (hA7 : [115] ++ S = A7) (lA7 : A7.length ≤ 200) (hA8 : A1 ++ [48, 48, 48, 48, 48, 48, 48, 48, 48, 48, 48, 48, 48, 48, 48, 48, 48, 48, 48, 48, 48, 48] = A8) (lA8 : A8.length ≤ 200) (hA9 : A1 ++ [95, 48] = A9) (lA9 : A9.length ≤ 200) (hB1 : [115, 46, 115, 46] ++ S = B1) (lB1 : B1.length ≤ 200)
    (x : Act) (w : World) (hB : Below w0.heap.size w0 w) (hdef : x.defers = df) (u1 : x.tmps.getD 1 undef = .slice (some ⟨g, 0, none⟩) 12 12) (u2 : x.tmps.getD 2 undef = .int .i64 (i : Nat)) (u3 : x.tmps.getD 3 undef = .string ⟨S.toArray⟩)
    (p75 : mnmR_val g i n S A1 A2 A3 A4 A5 A6 A7 A8 A9 B1 75 (x.tmps.getD 92 undef) w)
    (p73 : mnmR_val g i n S A1 A2 A3 A4 A5 A6 A7 A8 A9 B1 73 (x.tmps.getD 90 undef) w)
    : wpOpIn Fc nC Tryz.prog mnmR_ops Q 76 (fun a' w' => ∃ v, a' = x.put (some 93) v ∧ (v = .bool true) ∧ Below w.heap.size w w') x w := by
  have ho : mnmR_ops[76]? = some mnmR_o76 := rfl
  simp only [Array.getD_eq_getD_getElem?] at u1 u2 u3
  have q75 : x.tmps.getD 92 undef = .string ⟨B1.toArray⟩ := p75
  have q73 : x.tmps.getD 90 undef = .bool false := p73
  simp only [Array.getD_eq_getD_getElem?] at q75 q73
  have e73 : (mnmR_ops[73]?.bind fun x => x.dst) = some 90 := rfl
  have g73 := get_someT q73 (fun h => by cases h)
  refine wpOpIn_stepT hF ho (fun K hK => ?_)
  clear ho
  rw [Oper.semAt_plain Fc _ _ (by intro c h; cases h)]
  simp only [mnmR_o76]
  go_simp
  refine ⟨hF.deep, (hF.call (name25_any B1 w (by omega) (hW.below hB))).mono ?_⟩
  rintro e w' ⟨rfl, hb⟩
  exact hK _ _ ⟨_, act_putD x hdef _ _, rfl, hb⟩
set_option maxRecDepth 100000 in
set_option maxHeartbeats 2000000 in
theorem mnmR_s77 {Fc : Fence} (hF : Wide Fc) {nC : Nat} (g i : Nat) (n : Int) (S A1 A2 A3 A4 A5 A6 A7 A8 A9 B1 : List UInt8) (Q : Exit → Act → World → Prop) (df : List Deferred) (w0 : World)
    (hS : w0.cell? ⟨g, i, none⟩ = some (.int .i64 n)) (hi : i < 12) (hW : StdW w0) (lS : S.length ≤ 100) (hA1 : [115, 46] ++ S = A1) (lA1 : A1.length ≤ 200) (hA2 : [115, 46, 48] ++ S = A2) (lA2 : A2.length ≤ 200) (hA3 : [115, 46, 43] ++ S = A3) (lA3 : A3.length ≤ 200) (hA4 : [83, 46] ++ S = A4) (lA4 : A4.length ≤ 200) (hA5 : A1 ++ [32] = A5) (lA5 : A5.length ≤ 200) (hA6 : [115, 46, 32] ++ S = A6) (lA6 : A6.length ≤ 200) (hA7 : [115] ++ S = A7) (lA7 : A7.length ≤ 200) (hA8 : A1 ++ [48, 48, 48, 48, 48, 48, 48, 48, 48, 48, 48, 48, 48, 48, 48, 48, 48, 48, 48, 48, 48, 48] = A8) (lA8 : A8.length ≤ 200) (hA9 : A1 ++ [95, 48] = A9) (lA9 : A9.length ≤ 200) (hB1 : [115, 46, 115, 46] ++ S = B1) (lB1 : B1.length ≤ 200)
    (x : Act) (w : World) (hB : Below w0.heap.size w0 w) (hdef : x.defers = df) (u1 : x.tmps.getD 1 undef = .slice (some ⟨g, 0, none⟩) 12 12) (u2 : x.tmps.getD 2 undef = .int .i64 (i : Nat)) (u3 : x.tmps.getD 3 undef = .string ⟨S.toArray⟩)
    (p76 : mnmR_val g i n S A1 A2 A3 A4 A5 A6 A7 A8 A9 B1 76 (x.tmps.getD 93 undef) w)
    (p73 : mnmR_val g i n S A1 A2 A3 A4 A5 A6 A7 A8 A9 B1 73 (x.tmps.getD 90 undef) w)
    : wpOpIn Fc nC Tryz.prog mnmR_ops Q 77 (fun a' w' => ∃ v, a' = x.put (some 94) v ∧ (v = .bool false) ∧ Below w.heap.size w w') x w := by
  have ho : mnmR_ops[77]? = some mnmR_o77 := rfl
  simp only [Array.getD_eq_getD_getElem?] at u1 u2 u3
  have q76 : x.tmps.getD 93 undef = .bool true := p76
  have q73 : x.tmps.getD 90 undef = .bool false := p73
  simp only [Array.getD_eq_getD_getElem?] at q76 q73
  have e73 : (mnmR_ops[73]?.bind fun x => x.dst) = some 90 := rfl
  have g73 := get_someT q73 (fun h => by cases h)
  refine wpOpIn_stepT hF ho (fun K hK => ?_)
  clear ho
  rw [Oper.semAt_plain Fc _ _ (by intro c h; cases h)]
  simp only [mnmR_o77]
  go_simp
  exact hK _ _ ⟨_, act_putD x hdef _ _, rfl, Below.refl _ _⟩
set_option maxRecDepth 100000 in
set_option maxHeartbeats 2000000 in
theorem mnmR_s78 {Fc : Fence} (hF : Wide Fc) {nC : Nat} (g i : Nat) (n : Int) (S A1 A2 A3 A4 A5 A6 A7 A8 A9 B1 : List UInt8) (Q : Exit → Act → World → Prop) (df : List Deferred) (w0 : World)
    (hS : w0.cell? ⟨g, i, none⟩ = some (.int .i64 n)) (hi : i < 12) (hW : StdW w0) (lS : S.length ≤ 100) (hA1 : [115, 46] ++ S = A1) (lA1 : A1.length ≤ 200) (hA2 : [115, 46, 48] ++ S = A2) (lA2 : A2.length ≤ 200) (hA3 : [115, 46, 43] ++ S = A3) (lA3 : A3.length ≤ 200) (hA4 : [83, 46] ++ S = A4) (lA4 : A4.length ≤ 200) (hA5 : A1 ++ [32] = A5) (lA5 : A5.length ≤ 200) (hA6 : [115, 46, 32] ++ S = A6) (lA6 : A6.length ≤ 200) (hA7 : [115] ++ S = A7) (lA7 : A7.length ≤ 200) (hA8 : A1 ++ [48, 48, 48, 48, 48, 48, 48, 48, 48, 48, 48, 48, 48, 48, 48, 48, 48, 48, 48, 48, 48, 48] = A8) (lA8 : A8.length ≤ 200) (hA9 : A1 ++ [95, 48] = A9) (lA9 : A9.length ≤ 200) (hB1 : [115, 46, 115, 46] ++ S = B1) (lB1 : B1.length ≤ 200)
    (x : Act) (w : World) (hB : Below w0.heap.size w0 w) (hdef : x.defers = df) (u1 : x.tmps.getD 1 undef = .slice (some ⟨g, 0, none⟩) 12 12) (u2 : x.tmps.getD 2 undef = .int .i64 (i : Nat)) (u3 : x.tmps.getD 3 undef = .string ⟨S.toArray⟩)
    (p73 : mnmR_val g i n S A1 A2 A3 A4 A5 A6 A7 A8 A9 B1 73 (x.tmps.getD 90 undef) w)
    (p77 : mnmR_val g i n S A1 A2 A3 A4 A5 A6 A7 A8 A9 B1 77 (x.tmps.getD 94 undef) w)
    : wpOpIn Fc nC Tryz.prog mnmR_ops Q 78 (fun a' w' => ∃ v, a' = x.put (some 95) v ∧ (v = .bool false) ∧ Below w.heap.size w w') x w := by
  have ho : mnmR_ops[78]? = some mnmR_o78 := rfl
  simp only [Array.getD_eq_getD_getElem?] at u1 u2 u3
  have q73 : x.tmps.getD 90 undef = .bool false := p73
  have q77 : x.tmps.getD 94 undef = .bool false := p77
  simp only [Array.getD_eq_getD_getElem?] at q73 q77
  refine wpOpIn_plain ho rfl (oper_inK hF.fn (fun K hK => ?_))
  clear ho
  rw [Oper.semAt_plain Fc _ _ (by intro c h; cases h)]
  simp only [mnmR_o78]
  go_simp
  exact hK _ _ ⟨_, act_putD x hdef _ _, rfl, Below.refl _ _⟩

set_option maxRecDepth 100000 in
set_option maxHeartbeats 4000000 in
theorem mnmR {Fc : Fence} (hF : Wide Fc) {nC : Nat} (g i : Nat) (n : Int) (S A1 A2 A3 A4 A5 A6 A7 A8 A9 B1 : List UInt8) (Q : Exit → Act → World → Prop) (t0 : Array Value) (df : List Deferred) (w0 : World) (ht : t0.size = 137)
    (hs1 : t0.getD 1 undef = .slice (some ⟨g, 0, none⟩) 12 12) (hs2 : t0.getD 2 undef = .int .i64 (i : Nat)) (hs3 : t0.getD 3 undef = .string ⟨S.toArray⟩)
    (hS : w0.cell? ⟨g, i, none⟩ = some (.int .i64 n)) (hi : i < 12) (hW : StdW w0) (lS : S.length ≤ 100) (hA1 : [115, 46] ++ S = A1) (lA1 : A1.length ≤ 200) (hA2 : [115, 46, 48] ++ S = A2) (lA2 : A2.length ≤ 200) (hA3 : [115, 46, 43] ++ S = A3) (lA3 : A3.length ≤ 200) (hA4 : [83, 46] ++ S = A4) (lA4 : A4.length ≤ 200) (hA5 : A1 ++ [32] = A5) (lA5 : A5.length ≤ 200) (hA6 : [115, 46, 32] ++ S = A6) (lA6 : A6.length ≤ 200) (hA7 : [115] ++ S = A7) (lA7 : A7.length ≤ 200) (hA8 : A1 ++ [48, 48, 48, 48, 48, 48, 48, 48, 48, 48, 48, 48, 48, 48, 48, 48, 48, 48, 48, 48, 48, 48] = A8) (lA8 : A8.length ≤ 200) (hA9 : A1 ++ [95, 48] = A9) (lA9 : A9.length ≤ 200) (hB1 : [115, 46, 115, 46] ++ S = B1) (lB1 : B1.length ≤ 200)
    (hQ : ∀ (vs : Nat → Value) (w : World), Below w0.heap.size w0 w → (vs 95 = .bool false) → Q .normal { tmps := [17, 18, 19, 20, 21, 22, 23, 24, 25, 26, 27, 28, 29, 30, 31, 32, 33, 34, 35, 36, 37, 38, 39, 40, 41, 42, 43, 44, 45, 46, 47, 48, 49, 50, 51, 52, 53, 54, 55, 56, 57, 58, 59, 60, 61, 62, 63, 64, 65, 66, 67, 68, 69, 70, 71, 72, 73, 74, 75, 76, 77, 78, 79, 80, 81, 82, 83, 84, 85, 86, 87, 88, 89, 90, 91, 92, 93, 94, 95].foldl (fun y d => y.setIfInBounds d (vs d)) t0, defers := df } w) :
    (Code.region 6 mnmR_ops true).wpIn Fc nC Tryz.prog Q { tmps := t0, defers := df } w0 := by
  refine wpIn_region_tail 79 (by decide) (by kernel_rfl) (fun a b => Below a.heap.size a b) (mnmR_val g i n S A1 A2 A3 A4 A5 A6 A7 A8 A9 B1) t0 df w0 (by rw [ht]; kernel_rfl) (by kernel_rfl) (by kernel_rfl) (by kernel_rfl) ((Below.refl _ _).drew) (fun _ _ _ h k => h.trans (k.mono h.size)) (mnmR_below g i n S A1 A2 A3 A4 A5 A6 A7 A8 A9 B1) ?_ ?_
  · intro j o ho hj x w hB hdef hsz hs hdeps
    have hs' : ∀ s, ¬ mnmR_mem s → x.tmps.getD s undef = t0.getD s undef := fun s hn => hs s (fun j hj e => hn (by rw [e]; exact mnmR_slots j hj))
    have u1 := (hs' 1 (by decide)).trans hs1
    have u2 := (hs' 2 (by decide)).trans hs2
    have u3 := (hs' 3 (by decide)).trans hs3
    match j, ho, hj with
    | 0, ho, _ =>
      have e : o = mnmR_o0 := (Option.some.inj ho).symm
      subst e
      exact mnmR_s0 hF g i n S A1 A2 A3 A4 A5 A6 A7 A8 A9 B1 Q df w0 hS hi hW lS hA1 lA1 hA2 lA2 hA3 lA3 hA4 lA4 hA5 lA5 hA6 lA6 hA7 lA7 hA8 lA8 hA9 lA9 hB1 lB1 x w hB hdef u1 u2 u3 
    | 1, ho, _ =>
      have e : o = mnmR_o1 := (Option.some.inj ho).symm
      subst e
      exact mnmR_s1 hF g i n S A1 A2 A3 A4 A5 A6 A7 A8 A9 B1 Q df w0 hS hi hW lS hA1 lA1 hA2 lA2 hA3 lA3 hA4 lA4 hA5 lA5 hA6 lA6 hA7 lA7 hA8 lA8 hA9 lA9 hB1 lB1 x w hB hdef u1 u2 u3 
    | 2, ho, _ =>
      have e : o = mnmR_o2 := (Option.some.inj ho).symm
      subst e
      exact mnmR_s2 hF g i n S A1 A2 A3 A4 A5 A6 A7 A8 A9 B1 Q df w0 hS hi hW lS hA1 lA1 hA2 lA2 hA3 lA3 hA4 lA4 hA5 lA5 hA6 lA6 hA7 lA7 hA8 lA8 hA9 lA9 hB1 lB1 x w hB hdef u1 u2 u3 (hdeps { on := 0, ground := Ground.data } (by simp) rfl) (hdeps { on := 1, ground := Ground.data } (by simp) rfl)
    | 3, ho, _ =>
      have e : o = mnmR_o3 := (Option.some.inj ho).symm
      subst e
      exact mnmR_s3 hF g i n S A1 A2 A3 A4 A5 A6 A7 A8 A9 B1 Q df w0 hS hi hW lS hA1 lA1 hA2 lA2 hA3 lA3 hA4 lA4 hA5 lA5 hA6 lA6 hA7 lA7 hA8 lA8 hA9 lA9 hB1 lB1 x w hB hdef u1 u2 u3 (hdeps { on := 2, ground := Ground.data } (by simp) rfl)
    | 4, ho, _ =>
      have e : o = mnmR_o4 := (Option.some.inj ho).symm
      subst e
      exact mnmR_s4 hF g i n S A1 A2 A3 A4 A5 A6 A7 A8 A9 B1 Q df w0 hS hi hW lS hA1 lA1 hA2 lA2 hA3 lA3 hA4 lA4 hA5 lA5 hA6 lA6 hA7 lA7 hA8 lA8 hA9 lA9 hB1 lB1 x w hB hdef u1 u2 u3 (hdeps { on := 3, ground := Ground.data } (by simp) rfl)
    | 5, ho, _ =>
      have e : o = mnmR_o5 := (Option.some.inj ho).symm
      subst e
      exact mnmR_s5 hF g i n S A1 A2 A3 A4 A5 A6 A7 A8 A9 B1 Q df w0 hS hi hW lS hA1 lA1 hA2 lA2 hA3 lA3 hA4 lA4 hA5 lA5 hA6 lA6 hA7 lA7 hA8 lA8 hA9 lA9 hB1 lB1 x w hB hdef u1 u2 u3 
    | 6, ho, _ =>
      have e : o = mnmR_o6 := (Option.some.inj ho).symm
      subst e
      exact mnmR_s6 hF g i n S A1 A2 A3 A4 A5 A6 A7 A8 A9 B1 Q df w0 hS hi hW lS hA1 lA1 hA2 lA2 hA3 lA3 hA4 lA4 hA5 lA5 hA6 lA6 hA7 lA7 hA8 lA8 hA9 lA9 hB1 lB1 x w hB hdef u1 u2 u3 
    | 7, ho, _ =>
      have e : o = mnmR_o7 := (Option.some.inj ho).symm
      subst e
      exact mnmR_s7 hF g i n S A1 A2 A3 A4 A5 A6 A7 A8 A9 B1 Q df w0 hS hi hW lS hA1 lA1 hA2 lA2 hA3 lA3 hA4 lA4 hA5 lA5 hA6 lA6 hA7 lA7 hA8 lA8 hA9 lA9 hB1 lB1 x w hB hdef u1 u2 u3 (hdeps { on := 5, ground := Ground.data } (by simp) rfl) (hdeps { on := 6, ground := Ground.data } (by simp) rfl)
    | 8, ho, _ =>
      have e : o = mnmR_o8 := (Option.some.inj ho).symm
      subst e
      exact mnmR_s8 hF g i n S A1 A2 A3 A4 A5 A6 A7 A8 A9 B1 Q df w0 hS hi hW lS hA1 lA1 hA2 lA2 hA3 lA3 hA4 lA4 hA5 lA5 hA6 lA6 hA7 lA7 hA8 lA8 hA9 lA9 hB1 lB1 x w hB hdef u1 u2 u3 (hdeps { on := 7, ground := Ground.data } (by simp) rfl)
    | 9, ho, _ =>
      have e : o = mnmR_o9 := (Option.some.inj ho).symm
      subst e
      exact mnmR_s9 hF g i n S A1 A2 A3 A4 A5 A6 A7 A8 A9 B1 Q df w0 hS hi hW lS hA1 lA1 hA2 lA2 hA3 lA3 hA4 lA4 hA5 lA5 hA6 lA6 hA7 lA7 hA8 lA8 hA9 lA9 hB1 lB1 x w hB hdef u1 u2 u3 (hdeps { on := 8, ground := Ground.data } (by simp) rfl)
    | 10, ho, _ =>
      have e : o = mnmR_o10 := (Option.some.inj ho).symm
      subst e
      exact mnmR_s10 hF g i n S A1 A2 A3 A4 A5 A6 A7 A8 A9 B1 Q df w0 hS hi hW lS hA1 lA1 hA2 lA2 hA3 lA3 hA4 lA4 hA5 lA5 hA6 lA6 hA7 lA7 hA8 lA8 hA9 lA9 hB1 lB1 x w hB hdef u1 u2 u3 (hdeps { on := 4, ground := Ground.data } (by simp) rfl) (hdeps { on := 9, ground := Ground.data } (by simp) rfl)
    | 11, ho, _ =>
      have e : o = mnmR_o11 := (Option.some.inj ho).symm
      subst e
      exact mnmR_s11 hF g i n S A1 A2 A3 A4 A5 A6 A7 A8 A9 B1 Q df w0 hS hi hW lS hA1 lA1 hA2 lA2 hA3 lA3 hA4 lA4 hA5 lA5 hA6 lA6 hA7 lA7 hA8 lA8 hA9 lA9 hB1 lB1 x w hB hdef u1 u2 u3 (hdeps { on := 10, ground := Ground.data } (by simp) rfl)
    | 12, ho, _ =>
      have e : o = mnmR_o12 := (Option.some.inj ho).symm
      subst e
      exact mnmR_s12 hF g i n S A1 A2 A3 A4 A5 A6 A7 A8 A9 B1 Q df w0 hS hi hW lS hA1 lA1 hA2 lA2 hA3 lA3 hA4 lA4 hA5 lA5 hA6 lA6 hA7 lA7 hA8 lA8 hA9 lA9 hB1 lB1 x w hB hdef u1 u2 u3 (hdeps { on := 11, ground := Ground.guard } (by simp) rfl)
    | 13, ho, _ =>
      have e : o = mnmR_o13 := (Option.some.inj ho).symm
      subst e
      exact mnmR_s13 hF g i n S A1 A2 A3 A4 A5 A6 A7 A8 A9 B1 Q df w0 hS hi hW lS hA1 lA1 hA2 lA2 hA3 lA3 hA4 lA4 hA5 lA5 hA6 lA6 hA7 lA7 hA8 lA8 hA9 lA9 hB1 lB1 x w hB hdef u1 u2 u3 (hdeps { on := 12, ground := Ground.data } (by simp) rfl) (hdeps { on := 11, ground := Ground.guard } (by simp) rfl)
    | 14, ho, _ =>
      have e : o = mnmR_o14 := (Option.some.inj ho).symm
      subst e
      exact mnmR_s14 hF g i n S A1 A2 A3 A4 A5 A6 A7 A8 A9 B1 Q df w0 hS hi hW lS hA1 lA1 hA2 lA2 hA3 lA3 hA4 lA4 hA5 lA5 hA6 lA6 hA7 lA7 hA8 lA8 hA9 lA9 hB1 lB1 x w hB hdef u1 u2 u3 (hdeps { on := 13, ground := Ground.data } (by simp) rfl) (hdeps { on := 11, ground := Ground.guard } (by simp) rfl)
    | 15, ho, _ =>
      have e : o = mnmR_o15 := (Option.some.inj ho).symm
      subst e
      exact mnmR_s15 hF g i n S A1 A2 A3 A4 A5 A6 A7 A8 A9 B1 Q df w0 hS hi hW lS hA1 lA1 hA2 lA2 hA3 lA3 hA4 lA4 hA5 lA5 hA6 lA6 hA7 lA7 hA8 lA8 hA9 lA9 hB1 lB1 x w hB hdef u1 u2 u3 (hdeps { on := 14, ground := Ground.data } (by simp) rfl) (hdeps { on := 11, ground := Ground.guard } (by simp) rfl)
    | 16, ho, _ =>
      have e : o = mnmR_o16 := (Option.some.inj ho).symm
      subst e
      exact mnmR_s16 hF g i n S A1 A2 A3 A4 A5 A6 A7 A8 A9 B1 Q df w0 hS hi hW lS hA1 lA1 hA2 lA2 hA3 lA3 hA4 lA4 hA5 lA5 hA6 lA6 hA7 lA7 hA8 lA8 hA9 lA9 hB1 lB1 x w hB hdef u1 u2 u3 (hdeps { on := 11, ground := Ground.data } (by simp) rfl) (hdeps { on := 15, ground := Ground.data } (by simp) rfl)
    | 17, ho, _ =>
      have e : o = mnmR_o17 := (Option.some.inj ho).symm
      subst e
      exact mnmR_s17 hF g i n S A1 A2 A3 A4 A5 A6 A7 A8 A9 B1 Q df w0 hS hi hW lS hA1 lA1 hA2 lA2 hA3 lA3 hA4 lA4 hA5 lA5 hA6 lA6 hA7 lA7 hA8 lA8 hA9 lA9 hB1 lB1 x w hB hdef u1 u2 u3 (hdeps { on := 16, ground := Ground.data } (by simp) rfl)
    | 18, ho, _ =>
      have e : o = mnmR_o18 := (Option.some.inj ho).symm
      subst e
      exact mnmR_s18 hF g i n S A1 A2 A3 A4 A5 A6 A7 A8 A9 B1 Q df w0 hS hi hW lS hA1 lA1 hA2 lA2 hA3 lA3 hA4 lA4 hA5 lA5 hA6 lA6 hA7 lA7 hA8 lA8 hA9 lA9 hB1 lB1 x w hB hdef u1 u2 u3 (hdeps { on := 17, ground := Ground.guard } (by simp) rfl)
    | 19, ho, _ =>
      have e : o = mnmR_o19 := (Option.some.inj ho).symm
      subst e
      exact mnmR_s19 hF g i n S A1 A2 A3 A4 A5 A6 A7 A8 A9 B1 Q df w0 hS hi hW lS hA1 lA1 hA2 lA2 hA3 lA3 hA4 lA4 hA5 lA5 hA6 lA6 hA7 lA7 hA8 lA8 hA9 lA9 hB1 lB1 x w hB hdef u1 u2 u3 (hdeps { on := 18, ground := Ground.data } (by simp) rfl) (hdeps { on := 17, ground := Ground.guard } (by simp) rfl)
    | 20, ho, _ =>
      have e : o = mnmR_o20 := (Option.some.inj ho).symm
      subst e
      exact mnmR_s20 hF g i n S A1 A2 A3 A4 A5 A6 A7 A8 A9 B1 Q df w0 hS hi hW lS hA1 lA1 hA2 lA2 hA3 lA3 hA4 lA4 hA5 lA5 hA6 lA6 hA7 lA7 hA8 lA8 hA9 lA9 hB1 lB1 x w hB hdef u1 u2 u3 (hdeps { on := 19, ground := Ground.data } (by simp) rfl) (hdeps { on := 17, ground := Ground.guard } (by simp) rfl)
    | 21, ho, _ =>
      have e : o = mnmR_o21 := (Option.some.inj ho).symm
      subst e
      exact mnmR_s21 hF g i n S A1 A2 A3 A4 A5 A6 A7 A8 A9 B1 Q df w0 hS hi hW lS hA1 lA1 hA2 lA2 hA3 lA3 hA4 lA4 hA5 lA5 hA6 lA6 hA7 lA7 hA8 lA8 hA9 lA9 hB1 lB1 x w hB hdef u1 u2 u3 (hdeps { on := 20, ground := Ground.data } (by simp) rfl) (hdeps { on := 17, ground := Ground.guard } (by simp) rfl)
    | 22, ho, _ =>
      have e : o = mnmR_o22 := (Option.some.inj ho).symm
      subst e
      exact mnmR_s22 hF g i n S A1 A2 A3 A4 A5 A6 A7 A8 A9 B1 Q df w0 hS hi hW lS hA1 lA1 hA2 lA2 hA3 lA3 hA4 lA4 hA5 lA5 hA6 lA6 hA7 lA7 hA8 lA8 hA9 lA9 hB1 lB1 x w hB hdef u1 u2 u3 (hdeps { on := 17, ground := Ground.data } (by simp) rfl) (hdeps { on := 21, ground := Ground.data } (by simp) rfl)
    | 23, ho, _ =>
      have e : o = mnmR_o23 := (Option.some.inj ho).symm
      subst e
      exact mnmR_s23 hF g i n S A1 A2 A3 A4 A5 A6 A7 A8 A9 B1 Q df w0 hS hi hW lS hA1 lA1 hA2 lA2 hA3 lA3 hA4 lA4 hA5 lA5 hA6 lA6 hA7 lA7 hA8 lA8 hA9 lA9 hB1 lB1 x w hB hdef u1 u2 u3 (hdeps { on := 22, ground := Ground.data } (by simp) rfl)
    | 24, ho, _ =>
      have e : o = mnmR_o24 := (Option.some.inj ho).symm
      subst e
      exact mnmR_s24 hF g i n S A1 A2 A3 A4 A5 A6 A7 A8 A9 B1 Q df w0 hS hi hW lS hA1 lA1 hA2 lA2 hA3 lA3 hA4 lA4 hA5 lA5 hA6 lA6 hA7 lA7 hA8 lA8 hA9 lA9 hB1 lB1 x w hB hdef u1 u2 u3 (hdeps { on := 23, ground := Ground.guard } (by simp) rfl)
    | 25, ho, _ =>
      have e : o = mnmR_o25 := (Option.some.inj ho).symm
      subst e
      exact mnmR_s25 hF g i n S A1 A2 A3 A4 A5 A6 A7 A8 A9 B1 Q df w0 hS hi hW lS hA1 lA1 hA2 lA2 hA3 lA3 hA4 lA4 hA5 lA5 hA6 lA6 hA7 lA7 hA8 lA8 hA9 lA9 hB1 lB1 x w hB hdef u1 u2 u3 (hdeps { on := 24, ground := Ground.data } (by simp) rfl) (hdeps { on := 23, ground := Ground.guard } (by simp) rfl)
    | 26, ho, _ =>
      have e : o = mnmR_o26 := (Option.some.inj ho).symm
      subst e
      exact mnmR_s26 hF g i n S A1 A2 A3 A4 A5 A6 A7 A8 A9 B1 Q df w0 hS hi hW lS hA1 lA1 hA2 lA2 hA3 lA3 hA4 lA4 hA5 lA5 hA6 lA6 hA7 lA7 hA8 lA8 hA9 lA9 hB1 lB1 x w hB hdef u1 u2 u3 (hdeps { on := 25, ground := Ground.data } (by simp) rfl) (hdeps { on := 23, ground := Ground.guard } (by simp) rfl)
    | 27, ho, _ =>
      have e : o = mnmR_o27 := (Option.some.inj ho).symm
      subst e
      exact mnmR_s27 hF g i n S A1 A2 A3 A4 A5 A6 A7 A8 A9 B1 Q df w0 hS hi hW lS hA1 lA1 hA2 lA2 hA3 lA3 hA4 lA4 hA5 lA5 hA6 lA6 hA7 lA7 hA8 lA8 hA9 lA9 hB1 lB1 x w hB hdef u1 u2 u3 (hdeps { on := 26, ground := Ground.data } (by simp) rfl) (hdeps { on := 23, ground := Ground.guard } (by simp) rfl)
    | 28, ho, _ =>
      have e : o = mnmR_o28 := (Option.some.inj ho).symm
      subst e
      exact mnmR_s28 hF g i n S A1 A2 A3 A4 A5 A6 A7 A8 A9 B1 Q df w0 hS hi hW lS hA1 lA1 hA2 lA2 hA3 lA3 hA4 lA4 hA5 lA5 hA6 lA6 hA7 lA7 hA8 lA8 hA9 lA9 hB1 lB1 x w hB hdef u1 u2 u3 (hdeps { on := 23, ground := Ground.data } (by simp) rfl) (hdeps { on := 27, ground := Ground.data } (by simp) rfl)
    | 29, ho, _ =>
      have e : o = mnmR_o29 := (Option.some.inj ho).symm
      subst e
      exact mnmR_s29 hF g i n S A1 A2 A3 A4 A5 A6 A7 A8 A9 B1 Q df w0 hS hi hW lS hA1 lA1 hA2 lA2 hA3 lA3 hA4 lA4 hA5 lA5 hA6 lA6 hA7 lA7 hA8 lA8 hA9 lA9 hB1 lB1 x w hB hdef u1 u2 u3 (hdeps { on := 28, ground := Ground.data } (by simp) rfl)
    | 30, ho, _ =>
      have e : o = mnmR_o30 := (Option.some.inj ho).symm
      subst e
      exact mnmR_s30 hF g i n S A1 A2 A3 A4 A5 A6 A7 A8 A9 B1 Q df w0 hS hi hW lS hA1 lA1 hA2 lA2 hA3 lA3 hA4 lA4 hA5 lA5 hA6 lA6 hA7 lA7 hA8 lA8 hA9 lA9 hB1 lB1 x w hB hdef u1 u2 u3 (hdeps { on := 29, ground := Ground.guard } (by simp) rfl)
    | 31, ho, _ =>
      have e : o = mnmR_o31 := (Option.some.inj ho).symm
      subst e
      exact mnmR_s31 hF g i n S A1 A2 A3 A4 A5 A6 A7 A8 A9 B1 Q df w0 hS hi hW lS hA1 lA1 hA2 lA2 hA3 lA3 hA4 lA4 hA5 lA5 hA6 lA6 hA7 lA7 hA8 lA8 hA9 lA9 hB1 lB1 x w hB hdef u1 u2 u3 (hdeps { on := 30, ground := Ground.data } (by simp) rfl) (hdeps { on := 29, ground := Ground.guard } (by simp) rfl)
    | 32, ho, _ =>
      have e : o = mnmR_o32 := (Option.some.inj ho).symm
      subst e
      exact mnmR_s32 hF g i n S A1 A2 A3 A4 A5 A6 A7 A8 A9 B1 Q df w0 hS hi hW lS hA1 lA1 hA2 lA2 hA3 lA3 hA4 lA4 hA5 lA5 hA6 lA6 hA7 lA7 hA8 lA8 hA9 lA9 hB1 lB1 x w hB hdef u1 u2 u3 (hdeps { on := 31, ground := Ground.data } (by simp) rfl) (hdeps { on := 29, ground := Ground.guard } (by simp) rfl)
    | 33, ho, _ =>
      have e : o = mnmR_o33 := (Option.some.inj ho).symm
      subst e
      exact mnmR_s33 hF g i n S A1 A2 A3 A4 A5 A6 A7 A8 A9 B1 Q df w0 hS hi hW lS hA1 lA1 hA2 lA2 hA3 lA3 hA4 lA4 hA5 lA5 hA6 lA6 hA7 lA7 hA8 lA8 hA9 lA9 hB1 lB1 x w hB hdef u1 u2 u3 (hdeps { on := 32, ground := Ground.data } (by simp) rfl) (hdeps { on := 29, ground := Ground.guard } (by simp) rfl)
    | 34, ho, _ =>
      have e : o = mnmR_o34 := (Option.some.inj ho).symm
      subst e
      exact mnmR_s34 hF g i n S A1 A2 A3 A4 A5 A6 A7 A8 A9 B1 Q df w0 hS hi hW lS hA1 lA1 hA2 lA2 hA3 lA3 hA4 lA4 hA5 lA5 hA6 lA6 hA7 lA7 hA8 lA8 hA9 lA9 hB1 lB1 x w hB hdef u1 u2 u3 (hdeps { on := 29, ground := Ground.data } (by simp) rfl) (hdeps { on := 33, ground := Ground.data } (by simp) rfl)
    | 35, ho, _ =>
      have e : o = mnmR_o35 := (Option.some.inj ho).symm
      subst e
      exact mnmR_s35 hF g i n S A1 A2 A3 A4 A5 A6 A7 A8 A9 B1 Q df w0 hS hi hW lS hA1 lA1 hA2 lA2 hA3 lA3 hA4 lA4 hA5 lA5 hA6 lA6 hA7 lA7 hA8 lA8 hA9 lA9 hB1 lB1 x w hB hdef u1 u2 u3 (hdeps { on := 34, ground := Ground.data } (by simp) rfl)
    | 36, ho, _ =>
      have e : o = mnmR_o36 := (Option.some.inj ho).symm
      subst e
      exact mnmR_s36 hF g i n S A1 A2 A3 A4 A5 A6 A7 A8 A9 B1 Q df w0 hS hi hW lS hA1 lA1 hA2 lA2 hA3 lA3 hA4 lA4 hA5 lA5 hA6 lA6 hA7 lA7 hA8 lA8 hA9 lA9 hB1 lB1 x w hB hdef u1 u2 u3 (hdeps { on := 35, ground := Ground.guard } (by simp) rfl)
    | 37, ho, _ =>
      have e : o = mnmR_o37 := (Option.some.inj ho).symm
      subst e
      exact mnmR_s37 hF g i n S A1 A2 A3 A4 A5 A6 A7 A8 A9 B1 Q df w0 hS hi hW lS hA1 lA1 hA2 lA2 hA3 lA3 hA4 lA4 hA5 lA5 hA6 lA6 hA7 lA7 hA8 lA8 hA9 lA9 hB1 lB1 x w hB hdef u1 u2 u3 (hdeps { on := 36, ground := Ground.data } (by simp) rfl) (hdeps { on := 35, ground := Ground.guard } (by simp) rfl)
    | 38, ho, _ =>
      have e : o = mnmR_o38 := (Option.some.inj ho).symm
      subst e
      exact mnmR_s38 hF g i n S A1 A2 A3 A4 A5 A6 A7 A8 A9 B1 Q df w0 hS hi hW lS hA1 lA1 hA2 lA2 hA3 lA3 hA4 lA4 hA5 lA5 hA6 lA6 hA7 lA7 hA8 lA8 hA9 lA9 hB1 lB1 x w hB hdef u1 u2 u3 (hdeps { on := 37, ground := Ground.data } (by simp) rfl) (hdeps { on := 35, ground := Ground.guard } (by simp) rfl)
    | 39, ho, _ =>
      have e : o = mnmR_o39 := (Option.some.inj ho).symm
      subst e
      exact mnmR_s39 hF g i n S A1 A2 A3 A4 A5 A6 A7 A8 A9 B1 Q df w0 hS hi hW lS hA1 lA1 hA2 lA2 hA3 lA3 hA4 lA4 hA5 lA5 hA6 lA6 hA7 lA7 hA8 lA8 hA9 lA9 hB1 lB1 x w hB hdef u1 u2 u3 (hdeps { on := 38, ground := Ground.data } (by simp) rfl) (hdeps { on := 35, ground := Ground.guard } (by simp) rfl)
    | 40, ho, _ =>
      have e : o = mnmR_o40 := (Option.some.inj ho).symm
      subst e
      exact mnmR_s40 hF g i n S A1 A2 A3 A4 A5 A6 A7 A8 A9 B1 Q df w0 hS hi hW lS hA1 lA1 hA2 lA2 hA3 lA3 hA4 lA4 hA5 lA5 hA6 lA6 hA7 lA7 hA8 lA8 hA9 lA9 hB1 lB1 x w hB hdef u1 u2 u3 (hdeps { on := 39, ground := Ground.data } (by simp) rfl) (hdeps { on := 35, ground := Ground.guard } (by simp) rfl)
    | 41, ho, _ =>
      have e : o = mnmR_o41 := (Option.some.inj ho).symm
      subst e
      exact mnmR_s41 hF g i n S A1 A2 A3 A4 A5 A6 A7 A8 A9 B1 Q df w0 hS hi hW lS hA1 lA1 hA2 lA2 hA3 lA3 hA4 lA4 hA5 lA5 hA6 lA6 hA7 lA7 hA8 lA8 hA9 lA9 hB1 lB1 x w hB hdef u1 u2 u3 (hdeps { on := 35, ground := Ground.data } (by simp) rfl) (hdeps { on := 40, ground := Ground.data } (by simp) rfl)
    | 42, ho, _ =>
      have e : o = mnmR_o42 := (Option.some.inj ho).symm
      subst e
      exact mnmR_s42 hF g i n S A1 A2 A3 A4 A5 A6 A7 A8 A9 B1 Q df w0 hS hi hW lS hA1 lA1 hA2 lA2 hA3 lA3 hA4 lA4 hA5 lA5 hA6 lA6 hA7 lA7 hA8 lA8 hA9 lA9 hB1 lB1 x w hB hdef u1 u2 u3 (hdeps { on := 41, ground := Ground.data } (by simp) rfl)
    | 43, ho, _ =>
      have e : o = mnmR_o43 := (Option.some.inj ho).symm
      subst e
      exact mnmR_s43 hF g i n S A1 A2 A3 A4 A5 A6 A7 A8 A9 B1 Q df w0 hS hi hW lS hA1 lA1 hA2 lA2 hA3 lA3 hA4 lA4 hA5 lA5 hA6 lA6 hA7 lA7 hA8 lA8 hA9 lA9 hB1 lB1 x w hB hdef u1 u2 u3 (hdeps { on := 42, ground := Ground.guard } (by simp) rfl)
    | 44, ho, _ =>
      have e : o = mnmR_o44 := (Option.some.inj ho).symm
      subst e
      exact mnmR_s44 hF g i n S A1 A2 A3 A4 A5 A6 A7 A8 A9 B1 Q df w0 hS hi hW lS hA1 lA1 hA2 lA2 hA3 lA3 hA4 lA4 hA5 lA5 hA6 lA6 hA7 lA7 hA8 lA8 hA9 lA9 hB1 lB1 x w hB hdef u1 u2 u3 (hdeps { on := 43, ground := Ground.data } (by simp) rfl) (hdeps { on := 42, ground := Ground.guard } (by simp) rfl)
    | 45, ho, _ =>
      have e : o = mnmR_o45 := (Option.some.inj ho).symm
      subst e
      exact mnmR_s45 hF g i n S A1 A2 A3 A4 A5 A6 A7 A8 A9 B1 Q df w0 hS hi hW lS hA1 lA1 hA2 lA2 hA3 lA3 hA4 lA4 hA5 lA5 hA6 lA6 hA7 lA7 hA8 lA8 hA9 lA9 hB1 lB1 x w hB hdef u1 u2 u3 (hdeps { on := 44, ground := Ground.data } (by simp) rfl) (hdeps { on := 42, ground := Ground.guard } (by simp) rfl)
    | 46, ho, _ =>
      have e : o = mnmR_o46 := (Option.some.inj ho).symm
      subst e
      exact mnmR_s46 hF g i n S A1 A2 A3 A4 A5 A6 A7 A8 A9 B1 Q df w0 hS hi hW lS hA1 lA1 hA2 lA2 hA3 lA3 hA4 lA4 hA5 lA5 hA6 lA6 hA7 lA7 hA8 lA8 hA9 lA9 hB1 lB1 x w hB hdef u1 u2 u3 (hdeps { on := 45, ground := Ground.data } (by simp) rfl) (hdeps { on := 42, ground := Ground.guard } (by simp) rfl)
    | 47, ho, _ =>
      have e : o = mnmR_o47 := (Option.some.inj ho).symm
      subst e
      exact mnmR_s47 hF g i n S A1 A2 A3 A4 A5 A6 A7 A8 A9 B1 Q df w0 hS hi hW lS hA1 lA1 hA2 lA2 hA3 lA3 hA4 lA4 hA5 lA5 hA6 lA6 hA7 lA7 hA8 lA8 hA9 lA9 hB1 lB1 x w hB hdef u1 u2 u3 (hdeps { on := 42, ground := Ground.data } (by simp) rfl) (hdeps { on := 46, ground := Ground.data } (by simp) rfl)
    | 48, ho, _ =>
      have e : o = mnmR_o48 := (Option.some.inj ho).symm
      subst e
      exact mnmR_s48 hF g i n S A1 A2 A3 A4 A5 A6 A7 A8 A9 B1 Q df w0 hS hi hW lS hA1 lA1 hA2 lA2 hA3 lA3 hA4 lA4 hA5 lA5 hA6 lA6 hA7 lA7 hA8 lA8 hA9 lA9 hB1 lB1 x w hB hdef u1 u2 u3 (hdeps { on := 47, ground := Ground.data } (by simp) rfl)
    | 49, ho, _ =>
      have e : o = mnmR_o49 := (Option.some.inj ho).symm
      subst e
      exact mnmR_s49 hF g i n S A1 A2 A3 A4 A5 A6 A7 A8 A9 B1 Q df w0 hS hi hW lS hA1 lA1 hA2 lA2 hA3 lA3 hA4 lA4 hA5 lA5 hA6 lA6 hA7 lA7 hA8 lA8 hA9 lA9 hB1 lB1 x w hB hdef u1 u2 u3 (hdeps { on := 48, ground := Ground.guard } (by simp) rfl)
    | 50, ho, _ =>
      have e : o = mnmR_o50 := (Option.some.inj ho).symm
      subst e
      exact mnmR_s50 hF g i n S A1 A2 A3 A4 A5 A6 A7 A8 A9 B1 Q df w0 hS hi hW lS hA1 lA1 hA2 lA2 hA3 lA3 hA4 lA4 hA5 lA5 hA6 lA6 hA7 lA7 hA8 lA8 hA9 lA9 hB1 lB1 x w hB hdef u1 u2 u3 (hdeps { on := 49, ground := Ground.data } (by simp) rfl) (hdeps { on := 48, ground := Ground.guard } (by simp) rfl)
    | 51, ho, _ =>
      have e : o = mnmR_o51 := (Option.some.inj ho).symm
      subst e
      exact mnmR_s51 hF g i n S A1 A2 A3 A4 A5 A6 A7 A8 A9 B1 Q df w0 hS hi hW lS hA1 lA1 hA2 lA2 hA3 lA3 hA4 lA4 hA5 lA5 hA6 lA6 hA7 lA7 hA8 lA8 hA9 lA9 hB1 lB1 x w hB hdef u1 u2 u3 (hdeps { on := 50, ground := Ground.data } (by simp) rfl) (hdeps { on := 48, ground := Ground.guard } (by simp) rfl)
    | 52, ho, _ =>
      have e : o = mnmR_o52 := (Option.some.inj ho).symm
      subst e
      exact mnmR_s52 hF g i n S A1 A2 A3 A4 A5 A6 A7 A8 A9 B1 Q df w0 hS hi hW lS hA1 lA1 hA2 lA2 hA3 lA3 hA4 lA4 hA5 lA5 hA6 lA6 hA7 lA7 hA8 lA8 hA9 lA9 hB1 lB1 x w hB hdef u1 u2 u3 (hdeps { on := 48, ground := Ground.data } (by simp) rfl) (hdeps { on := 51, ground := Ground.data } (by simp) rfl)
    | 53, ho, _ =>
      have e : o = mnmR_o53 := (Option.some.inj ho).symm
      subst e
      exact mnmR_s53 hF g i n S A1 A2 A3 A4 A5 A6 A7 A8 A9 B1 Q df w0 hS hi hW lS hA1 lA1 hA2 lA2 hA3 lA3 hA4 lA4 hA5 lA5 hA6 lA6 hA7 lA7 hA8 lA8 hA9 lA9 hB1 lB1 x w hB hdef u1 u2 u3 (hdeps { on := 52, ground := Ground.data } (by simp) rfl)
    | 54, ho, _ =>
      have e : o = mnmR_o54 := (Option.some.inj ho).symm
      subst e
      exact mnmR_s54 hF g i n S A1 A2 A3 A4 A5 A6 A7 A8 A9 B1 Q df w0 hS hi hW lS hA1 lA1 hA2 lA2 hA3 lA3 hA4 lA4 hA5 lA5 hA6 lA6 hA7 lA7 hA8 lA8 hA9 lA9 hB1 lB1 x w hB hdef u1 u2 u3 (hdeps { on := 53, ground := Ground.guard } (by simp) rfl)
    | 55, ho, _ =>
      have e : o = mnmR_o55 := (Option.some.inj ho).symm
      subst e
      exact mnmR_s55 hF g i n S A1 A2 A3 A4 A5 A6 A7 A8 A9 B1 Q df w0 hS hi hW lS hA1 lA1 hA2 lA2 hA3 lA3 hA4 lA4 hA5 lA5 hA6 lA6 hA7 lA7 hA8 lA8 hA9 lA9 hB1 lB1 x w hB hdef u1 u2 u3 (hdeps { on := 54, ground := Ground.data } (by simp) rfl) (hdeps { on := 53, ground := Ground.guard } (by simp) rfl)
    | 56, ho, _ =>
      have e : o = mnmR_o56 := (Option.some.inj ho).symm
      subst e
      exact mnmR_s56 hF g i n S A1 A2 A3 A4 A5 A6 A7 A8 A9 B1 Q df w0 hS hi hW lS hA1 lA1 hA2 lA2 hA3 lA3 hA4 lA4 hA5 lA5 hA6 lA6 hA7 lA7 hA8 lA8 hA9 lA9 hB1 lB1 x w hB hdef u1 u2 u3 (hdeps { on := 55, ground := Ground.data } (by simp) rfl) (hdeps { on := 53, ground := Ground.guard } (by simp) rfl)
    | 57, ho, _ =>
      have e : o = mnmR_o57 := (Option.some.inj ho).symm
      subst e
      exact mnmR_s57 hF g i n S A1 A2 A3 A4 A5 A6 A7 A8 A9 B1 Q df w0 hS hi hW lS hA1 lA1 hA2 lA2 hA3 lA3 hA4 lA4 hA5 lA5 hA6 lA6 hA7 lA7 hA8 lA8 hA9 lA9 hB1 lB1 x w hB hdef u1 u2 u3 (hdeps { on := 56, ground := Ground.data } (by simp) rfl) (hdeps { on := 53, ground := Ground.guard } (by simp) rfl)
    | 58, ho, _ =>
      have e : o = mnmR_o58 := (Option.some.inj ho).symm
      subst e
      exact mnmR_s58 hF g i n S A1 A2 A3 A4 A5 A6 A7 A8 A9 B1 Q df w0 hS hi hW lS hA1 lA1 hA2 lA2 hA3 lA3 hA4 lA4 hA5 lA5 hA6 lA6 hA7 lA7 hA8 lA8 hA9 lA9 hB1 lB1 x w hB hdef u1 u2 u3 (hdeps { on := 53, ground := Ground.data } (by simp) rfl) (hdeps { on := 57, ground := Ground.data } (by simp) rfl)
    | 59, ho, _ =>
      have e : o = mnmR_o59 := (Option.some.inj ho).symm
      subst e
      exact mnmR_s59 hF g i n S A1 A2 A3 A4 A5 A6 A7 A8 A9 B1 Q df w0 hS hi hW lS hA1 lA1 hA2 lA2 hA3 lA3 hA4 lA4 hA5 lA5 hA6 lA6 hA7 lA7 hA8 lA8 hA9 lA9 hB1 lB1 x w hB hdef u1 u2 u3 (hdeps { on := 58, ground := Ground.data } (by simp) rfl)
    | 60, ho, _ =>
      have e : o = mnmR_o60 := (Option.some.inj ho).symm
      subst e
      exact mnmR_s60 hF g i n S A1 A2 A3 A4 A5 A6 A7 A8 A9 B1 Q df w0 hS hi hW lS hA1 lA1 hA2 lA2 hA3 lA3 hA4 lA4 hA5 lA5 hA6 lA6 hA7 lA7 hA8 lA8 hA9 lA9 hB1 lB1 x w hB hdef u1 u2 u3 (hdeps { on := 59, ground := Ground.guard } (by simp) rfl)
    | 61, ho, _ =>
      have e : o = mnmR_o61 := (Option.some.inj ho).symm
      subst e
      exact mnmR_s61 hF g i n S A1 A2 A3 A4 A5 A6 A7 A8 A9 B1 Q df w0 hS hi hW lS hA1 lA1 hA2 lA2 hA3 lA3 hA4 lA4 hA5 lA5 hA6 lA6 hA7 lA7 hA8 lA8 hA9 lA9 hB1 lB1 x w hB hdef u1 u2 u3 (hdeps { on := 60, ground := Ground.data } (by simp) rfl) (hdeps { on := 59, ground := Ground.guard } (by simp) rfl)
    | 62, ho, _ =>
      have e : o = mnmR_o62 := (Option.some.inj ho).symm
      subst e
      exact mnmR_s62 hF g i n S A1 A2 A3 A4 A5 A6 A7 A8 A9 B1 Q df w0 hS hi hW lS hA1 lA1 hA2 lA2 hA3 lA3 hA4 lA4 hA5 lA5 hA6 lA6 hA7 lA7 hA8 lA8 hA9 lA9 hB1 lB1 x w hB hdef u1 u2 u3 (hdeps { on := 61, ground := Ground.data } (by simp) rfl) (hdeps { on := 59, ground := Ground.guard } (by simp) rfl)
    | 63, ho, _ =>
      have e : o = mnmR_o63 := (Option.some.inj ho).symm
      subst e
      exact mnmR_s63 hF g i n S A1 A2 A3 A4 A5 A6 A7 A8 A9 B1 Q df w0 hS hi hW lS hA1 lA1 hA2 lA2 hA3 lA3 hA4 lA4 hA5 lA5 hA6 lA6 hA7 lA7 hA8 lA8 hA9 lA9 hB1 lB1 x w hB hdef u1 u2 u3 (hdeps { on := 62, ground := Ground.data } (by simp) rfl) (hdeps { on := 59, ground := Ground.guard } (by simp) rfl)
    | 64, ho, _ =>
      have e : o = mnmR_o64 := (Option.some.inj ho).symm
      subst e
      exact mnmR_s64 hF g i n S A1 A2 A3 A4 A5 A6 A7 A8 A9 B1 Q df w0 hS hi hW lS hA1 lA1 hA2 lA2 hA3 lA3 hA4 lA4 hA5 lA5 hA6 lA6 hA7 lA7 hA8 lA8 hA9 lA9 hB1 lB1 x w hB hdef u1 u2 u3 (hdeps { on := 63, ground := Ground.data } (by simp) rfl) (hdeps { on := 59, ground := Ground.guard } (by simp) rfl)
    | 65, ho, _ =>
      have e : o = mnmR_o65 := (Option.some.inj ho).symm
      subst e
      exact mnmR_s65 hF g i n S A1 A2 A3 A4 A5 A6 A7 A8 A9 B1 Q df w0 hS hi hW lS hA1 lA1 hA2 lA2 hA3 lA3 hA4 lA4 hA5 lA5 hA6 lA6 hA7 lA7 hA8 lA8 hA9 lA9 hB1 lB1 x w hB hdef u1 u2 u3 (hdeps { on := 59, ground := Ground.data } (by simp) rfl) (hdeps { on := 64, ground := Ground.data } (by simp) rfl)
    | 66, ho, _ =>
      have e : o = mnmR_o66 := (Option.some.inj ho).symm
      subst e
      exact mnmR_s66 hF g i n S A1 A2 A3 A4 A5 A6 A7 A8 A9 B1 Q df w0 hS hi hW lS hA1 lA1 hA2 lA2 hA3 lA3 hA4 lA4 hA5 lA5 hA6 lA6 hA7 lA7 hA8 lA8 hA9 lA9 hB1 lB1 x w hB hdef u1 u2 u3 (hdeps { on := 65, ground := Ground.data } (by simp) rfl)
    | 67, ho, _ =>
      have e : o = mnmR_o67 := (Option.some.inj ho).symm
      subst e
      exact mnmR_s67 hF g i n S A1 A2 A3 A4 A5 A6 A7 A8 A9 B1 Q df w0 hS hi hW lS hA1 lA1 hA2 lA2 hA3 lA3 hA4 lA4 hA5 lA5 hA6 lA6 hA7 lA7 hA8 lA8 hA9 lA9 hB1 lB1 x w hB hdef u1 u2 u3 (hdeps { on := 66, ground := Ground.guard } (by simp) rfl)
    | 68, ho, _ =>
      have e : o = mnmR_o68 := (Option.some.inj ho).symm
      subst e
      exact mnmR_s68 hF g i n S A1 A2 A3 A4 A5 A6 A7 A8 A9 B1 Q df w0 hS hi hW lS hA1 lA1 hA2 lA2 hA3 lA3 hA4 lA4 hA5 lA5 hA6 lA6 hA7 lA7 hA8 lA8 hA9 lA9 hB1 lB1 x w hB hdef u1 u2 u3 (hdeps { on := 67, ground := Ground.data } (by simp) rfl) (hdeps { on := 66, ground := Ground.guard } (by simp) rfl)
    | 69, ho, _ =>
      have e : o = mnmR_o69 := (Option.some.inj ho).symm
      subst e
      exact mnmR_s69 hF g i n S A1 A2 A3 A4 A5 A6 A7 A8 A9 B1 Q df w0 hS hi hW lS hA1 lA1 hA2 lA2 hA3 lA3 hA4 lA4 hA5 lA5 hA6 lA6 hA7 lA7 hA8 lA8 hA9 lA9 hB1 lB1 x w hB hdef u1 u2 u3 (hdeps { on := 68, ground := Ground.data } (by simp) rfl) (hdeps { on := 66, ground := Ground.guard } (by simp) rfl)
    | 70, ho, _ =>
      have e : o = mnmR_o70 := (Option.some.inj ho).symm
      subst e
      exact mnmR_s70 hF g i n S A1 A2 A3 A4 A5 A6 A7 A8 A9 B1 Q df w0 hS hi hW lS hA1 lA1 hA2 lA2 hA3 lA3 hA4 lA4 hA5 lA5 hA6 lA6 hA7 lA7 hA8 lA8 hA9 lA9 hB1 lB1 x w hB hdef u1 u2 u3 (hdeps { on := 69, ground := Ground.data } (by simp) rfl) (hdeps { on := 66, ground := Ground.guard } (by simp) rfl)
    | 71, ho, _ =>
      have e : o = mnmR_o71 := (Option.some.inj ho).symm
      subst e
      exact mnmR_s71 hF g i n S A1 A2 A3 A4 A5 A6 A7 A8 A9 B1 Q df w0 hS hi hW lS hA1 lA1 hA2 lA2 hA3 lA3 hA4 lA4 hA5 lA5 hA6 lA6 hA7 lA7 hA8 lA8 hA9 lA9 hB1 lB1 x w hB hdef u1 u2 u3 (hdeps { on := 70, ground := Ground.data } (by simp) rfl) (hdeps { on := 66, ground := Ground.guard } (by simp) rfl)
    | 72, ho, _ =>
      have e : o = mnmR_o72 := (Option.some.inj ho).symm
      subst e
      exact mnmR_s72 hF g i n S A1 A2 A3 A4 A5 A6 A7 A8 A9 B1 Q df w0 hS hi hW lS hA1 lA1 hA2 lA2 hA3 lA3 hA4 lA4 hA5 lA5 hA6 lA6 hA7 lA7 hA8 lA8 hA9 lA9 hB1 lB1 x w hB hdef u1 u2 u3 (hdeps { on := 66, ground := Ground.data } (by simp) rfl) (hdeps { on := 71, ground := Ground.data } (by simp) rfl)
    | 73, ho, _ =>
      have e : o = mnmR_o73 := (Option.some.inj ho).symm
      subst e
      exact mnmR_s73 hF g i n S A1 A2 A3 A4 A5 A6 A7 A8 A9 B1 Q df w0 hS hi hW lS hA1 lA1 hA2 lA2 hA3 lA3 hA4 lA4 hA5 lA5 hA6 lA6 hA7 lA7 hA8 lA8 hA9 lA9 hB1 lB1 x w hB hdef u1 u2 u3 (hdeps { on := 72, ground := Ground.data } (by simp) rfl)
    | 74, ho, _ =>
      have e : o = mnmR_o74 := (Option.some.inj ho).symm
      subst e
      exact mnmR_s74 hF g i n S A1 A2 A3 A4 A5 A6 A7 A8 A9 B1 Q df w0 hS hi hW lS hA1 lA1 hA2 lA2 hA3 lA3 hA4 lA4 hA5 lA5 hA6 lA6 hA7 lA7 hA8 lA8 hA9 lA9 hB1 lB1 x w hB hdef u1 u2 u3 (hdeps { on := 73, ground := Ground.guard } (by simp) rfl)
    | 75, ho, _ =>
      have e : o = mnmR_o75 := (Option.some.inj ho).symm
      subst e
      exact mnmR_s75 hF g i n S A1 A2 A3 A4 A5 A6 A7 A8 A9 B1 Q df w0 hS hi hW lS hA1 lA1 hA2 lA2 hA3 lA3 hA4 lA4 hA5 lA5 hA6 lA6 hA7 lA7 hA8 lA8 hA9 lA9 hB1 lB1 x w hB hdef u1 u2 u3 (hdeps { on := 74, ground := Ground.data } (by simp) rfl) (hdeps { on := 73, ground := Ground.guard } (by simp) rfl)
    | 76, ho, _ =>
      have e : o = mnmR_o76 := (Option.some.inj ho).symm
      subst e
      exact mnmR_s76 hF g i n S A1 A2 A3 A4 A5 A6 A7 A8 A9 B1 Q df w0 hS hi hW lS hA1 lA1 hA2 lA2 hA3 lA3 hA4 lA4 hA5 lA5 hA6 lA6 hA7 lA7 hA8 lA8 hA9 lA9 hB1 lB1 x w hB hdef u1 u2 u3 (hdeps { on := 75, ground := Ground.data } (by simp) rfl) (hdeps { on := 73, ground := Ground.guard } (by simp) rfl)
    | 77, ho, _ =>
      have e : o = mnmR_o77 := (Option.some.inj ho).symm
      subst e
      exact mnmR_s77 hF g i n S A1 A2 A3 A4 A5 A6 A7 A8 A9 B1 Q df w0 hS hi hW lS hA1 lA1 hA2 lA2 hA3 lA3 hA4 lA4 hA5 lA5 hA6 lA6 hA7 lA7 hA8 lA8 hA9 lA9 hB1 lB1 x w hB hdef u1 u2 u3 (hdeps { on := 76, ground := Ground.data } (by simp) rfl) (hdeps { on := 73, ground := Ground.guard } (by simp) rfl)
    | 78, ho, _ =>
      have e : o = mnmR_o78 := (Option.some.inj ho).symm
      subst e
      exact mnmR_s78 hF g i n S A1 A2 A3 A4 A5 A6 A7 A8 A9 B1 Q df w0 hS hi hW lS hA1 lA1 hA2 lA2 hA3 lA3 hA4 lA4 hA5 lA5 hA6 lA6 hA7 lA7 hA8 lA8 hA9 lA9 hB1 lB1 x w hB hdef u1 u2 u3 (hdeps { on := 73, ground := Ground.data } (by simp) rfl) (hdeps { on := 77, ground := Ground.data } (by simp) rfl)
    | k + 79, _, hj => omega
  · intro x w hB hdef hsz hs hv
    have hx := frame_sets x.tmps t0 hsz [17, 18, 19, 20, 21, 22, 23, 24, 25, 26, 27, 28, 29, 30, 31, 32, 33, 34, 35, 36, 37, 38, 39, 40, 41, 42, 43, 44, 45, 46, 47, 48, 49, 50, 51, 52, 53, 54, 55, 56, 57, 58, 59, 60, 61, 62, 63, 64, 65, 66, 67, 68, 69, 70, 71, 72, 73, 74, 75, 76, 77, 78, 79, 80, 81, 82, 83, 84, 85, 86, 87, 88, 89, 90, 91, 92, 93, 94, 95] (fun s hn => hs s (fun j hj e => hn (by rw [e]; exact mnmR_slots j hj)))
    have hq := hQ (fun d => x.tmps.getD d undef) w hB (hv 78 (by decide))
    obtain ⟨T, Df⟩ := x
    dsimp only at hx hdef hq
    subst hdef
    rw [← hx] at hq
    exact hq
end Go.Proofs.YtppdbinppibjhaaGreatDoor

/-
  mudlarklaw25.ManiNames.
-/
namespace Go.Proofs.YtppdbinppibjhaaGreatDoor
open Go.RowKit Go.Shelf
set_option linter.unusedVariables false
set_option linter.unusedSimpArgs false

def numsN : List Int := [-9223372036854775808, -1, 0, 1, 9, 10, 99, 1048576, 1099511627775, 1099511627776, 1099511627777, 9223372036854775807]
theorem numsN_wf : ∀ n ∈ numsN, -9223372036854775808 ≤ n ∧ n ≤ 9223372036854775807 := by decide
theorem itoaW_any (n : Int) (w : World) (h0 : -9223372036854775808 ≤ n) (h1 : n ≤ 9223372036854775807) (h : StdW w) :
    Calls Tryz.prog 25 #[.int .i64 n] w fun e w' => e = .returned (sV (Lib.itoa n)) ∧ Below w.heap.size w w' := by
  refine (Tryz.strconv_Itoa n (by omega) (by omega) w h.tab).mono ?_
  rintro e w' ⟨rfl, k, os, rfl⟩
  exact ⟨rfl, Lib.below_grow _ w (Nat.le_refl _) k os⟩
/-- A byte as a text. -/
theorem one_txt (j : Nat) (hj : j < 256) (W : World) : ∃ l : List UInt8, l.length = 1 ∧ ∀ W : World, (convert 28 9 (.slice (some ⟨W.heap.size, 0, none⟩) 1 1)).run Tryz.prog (W.alloc (.cells #[.int .u8 (j : Nat)] 5)) = .ok (.string ⟨l.toArray⟩) (W.alloc (.cells #[.int .u8 (j : Nat)] 5)) := by
  refine ⟨(strOfNums ((tx (fun _ => j) 1).map fun x : Nat => (x : Int))).data.toList, by simp [strOfNums, tx], fun W => ?_⟩
  have hb : Byt (W.alloc (.cells #[.int .u8 (j : Nat)] 5)) (some ⟨W.heap.size, 0, none⟩) 1 (fun _ => j) := ⟨fun _ => hj, .inr ⟨W.heap.size, 0, rfl, fun i hi => by
    obtain rfl : i = 0 := by omega
    exact (cell_new_l W _ _).1⟩⟩
  exact conv_byt (c := 1) hb

set_option maxRecDepth 100000 in
set_option maxHeartbeats 4000000 in
theorem names25_any (w : World) (hw : StdW w) :
    Calls Tryz.prog 5 #[] w fun e w' => e = .returned (.bool true) ∧ Below w.heap.size w w' := by
  obtain ⟨W1, hW1⟩ : ∃ W1, w.alloc (.cells #[.int .i64 (-9223372036854775808), .int .i64 (-1), .int .i64 0, .int .i64 1, .int .i64 9, .int .i64 10, .int .i64 99, .int .i64 1048576, .int .i64 1099511627775, .int .i64 1099511627776, .int .i64 1099511627777, .int .i64 9223372036854775807] 3) = W1 := ⟨_, rfl⟩
  have hb1 : Below w.heap.size w W1 := by rw [← hW1]; exact below_alloc _ _
  have hg : ∀ i n, numsN[i]? = some n → W1.cell? ⟨w.heap.size, i, none⟩ = some (.int .i64 n) := fun i n h => by
    have h1 := cell_of_row W1 w.heap.size i _ _ _ (by rw [← hW1]; exact heap_alloc_new _ _)
    rw [h1]
    have e : (#[Value.int .i64 (-9223372036854775808), .int .i64 (-1), .int .i64 0, .int .i64 1, .int .i64 9, .int .i64 10, .int .i64 99, .int .i64 1048576, .int .i64 1099511627775, .int .i64 1099511627776, .int .i64 1099511627777, .int .i64 9223372036854775807] : Array Value)[i]? = (numsN.map (fun n => Value.int .i64 n))[i]? := by rw [List.getElem?_toArray]; rfl
    rw [e, List.getElem?_map, h]
    rfl
  have HW := hide (And.intro hW1 (And.intro hb1 (And.intro hg (hw.below hb1))))
  clear hW1 hb1 hg hw
  go_enter Tryz.func5, Tryz.ntmps5
  go_wp2_with fail
  rw [HW.out.1]
  go_wp2_with fail
  go_loopg [2] 12 (fun q s2 wr => ∃ i : Nat, i + q = 12 ∧ s2 = .int .i64 (i : Nat) ∧ Below W1.heap.size W1 wr)
  case atStart => exact ⟨0, by omega, rfl, Below.refl _ _⟩
  case round =>
    obtain ⟨i, hiq, rfl, hB⟩ := hrel
    have HB := hide hB
    clear hB
    cases gk with
    | zero =>
      obtain rfl : i = 12 := by omega
      go_wp2_with fail
      go_loopg [4] 256 (fun q s4 wr => ∃ j : Nat, j + q = 256 ∧ s4 = .int .i64 (j : Nat) ∧ Below W1.heap.size W1 wr)
      case atStart => exact ⟨0, by omega, rfl, HB.out⟩
      case round =>
        obtain ⟨j, hjq, rfl, hB⟩ := hrel
        have HB := hide hB
        clear hB
        cases gk with
        | zero =>
          obtain rfl : j = 256 := by omega
          have n0 := name25_any [] wr (by decide) (HW.out.2.2.2.below HB.out)
          have n1 := fun W (h : Below wr.heap.size wr W) => name25_any [109] W (by decide) ((HW.out.2.2.2.below HB.out).below h)
          have n2 := fun W (h : Below wr.heap.size wr W) => name25_any [109, 46, 110, 101, 119] W (by decide) ((HW.out.2.2.2.below HB.out).below h)
          have n3 := fun W (h : Below wr.heap.size wr W) => name25_any [115, 46] W (by decide) ((HW.out.2.2.2.below HB.out).below h)
          unfold sV at n0 n1 n2 n3
          go_wp2_with fail
          refine n0.mono ?_
          rintro e w2 ⟨rfl, hb2⟩
          have h1 := n1 w2 hb2
          have H2 := hide hb2
          clear n0 n1 hb2
          go_wp2_with fail
          refine h1.mono ?_
          rintro e w3 ⟨rfl, hb3⟩
          have H3 := hide (below_thru H2.out hb3)
          have h2 := n2 w3 H3.out
          clear h1 hb3 n2
          go_wp2_with fail
          refine h2.mono ?_
          rintro e w4 ⟨rfl, hb4⟩
          have H4 := hide (below_thru H3.out hb4)
          have h3 := n3 w4 H4.out
          clear h2 hb4 n3
          go_wp2_with fail
          refine h3.mono ?_
          rintro e w5 ⟨rfl, hb5⟩
          have H5 := hide (below_thru H4.out hb5)
          have h4 := awake25_any w5
          clear h3 hb5
          go_wp2_with fail
          refine h4.mono ?_
          rintro e w6 ⟨rfl, hb6⟩
          have H6 := hide (below_thru H5.out hb6)
          clear h4 hb6
          go_wp2_with fail
          go_ret
          exact ⟨rfl, HW.out.2.1.trans ((HB.out.trans (H6.out.mono HB.out.size)).mono HW.out.2.1.size)⟩
        | succ q =>
          have hj : ((j : Nat) : Int) < 256 := by omega
          have hj0 : ¬ ((j : Nat) : Int) < 0 := by omega
          have hwr : IntKind.u8.wrap ((j : Nat) : Int) = (j : Nat) := by rw [IntKind.wrap_u8]; omega
          have hmd : ((j : Nat) : Int) % 256 = (j : Nat) := by omega
          obtain ⟨l, hl1, hcv⟩ := one_txt j (by omega) wr
          have hl : l.length ≤ 140737488351232 := by omega
          have HL := hide (And.intro hl1 hl)
          have n0 := name25_any l (wr.alloc (.cells #[.int .u8 (j : Nat)] 5)) hl ((HW.out.2.2.2.below HB.out).below (below_alloc _ _))
          have nA : ∀ W, StdW W → Calls Tryz.prog 28 #[.string (⟨[115, 46].toArray⟩ ++ ⟨l.toArray⟩)] W fun e w' => e = .returned (.bool true) ∧ Below W.heap.size W w' := fun W h => by
            rw [str_join]; exact name25_any _ W (by simp; omega) h
          have nB : ∀ W, StdW W → Calls Tryz.prog 28 #[.string (⟨[115, 46, 49].toArray⟩ ++ ⟨l.toArray⟩)] W fun e w' => e = .returned (.bool true) ∧ Below W.heap.size W w' := fun W h => by
            rw [str_join]; exact name25_any _ W (by simp; omega) h
          have hs1 : ¬ 9223372036854775807 < 2 + l.length := by omega
          have hs2 : ¬ 9223372036854775807 < 3 + l.length := by omega
          have HN := hide (And.intro nA nB)
          unfold sV at n0
          clear hl1 hl nA nB
          go_wp2_with fail
          refine n0.mono ?_
          rintro e w2 ⟨rfl, hb2⟩
          have hB2 : Below wr.heap.size wr w2 := (below_alloc _ _).trans (hb2.mono (by simp))
          have n1 := HN.out.1 (w2.alloc (.cells #[.int .u8 (j : Nat)] 5)) (((HW.out.2.2.2.below HB.out).below hB2).below (below_alloc _ _))
          have H2 := hide hB2
          clear n0 hb2 hB2
          go_wp2_with fail
          refine n1.mono ?_
          rintro e w3 ⟨rfl, hb3⟩
          have hB3 : Below w2.heap.size w2 w3 := (below_alloc _ _).trans (hb3.mono (by simp))
          have n2 := HN.out.2 (w3.alloc (.cells #[.int .u8 (j : Nat)] 5)) ((((HW.out.2.2.2.below HB.out).below H2.out).below hB3).below (below_alloc _ _))
          have H3 := hide (below_thru H2.out hB3)
          clear n1 hb3 hB3
          go_wp2_with fail
          refine n2.mono ?_
          rintro e w4 ⟨rfl, hb4⟩
          have hB4 : Below w3.heap.size w3 w4 := (below_alloc _ _).trans (hb4.mono (by simp))
          have H4 := hide (below_thru HB.out (below_thru H3.out hB4))
          clear n2 hb4 hB4 hcv
          go_wp2_with fail
          go_roundg q
          case measure => omega
          case rel => exact ⟨j + 1, by omega, by go_num, H4.out⟩
    | succ q =>
      obtain ⟨n, hn⟩ : ∃ n, numsN[i]? = some n := ⟨_, List.getElem?_eq_getElem (show i < 12 by omega)⟩
      have hnw := numsN_wf n (List.mem_of_getElem? hn)
      have hc := cell_thru (HW.out.2.2.1 i n hn) HB.out
      have hit := itoaW_any n wr hnw.1 hnw.2 (HW.out.2.2.2.below HB.out)
      have hlS := Lib.itoa_length_le n hnw.1 hnw.2
      obtain ⟨S, hS⟩ : ∃ S, Lib.itoa n = S := ⟨_, rfl⟩
      rw [hS] at hit hlS
      have HS := hide (And.intro hlS hnw)
      have hi12 : ((i : Nat) : Int) < 12 := by omega
      unfold sV at hit
      clear hlS hnw hS hn
      go_wp2_with fail
      refine hit.mono ?_
      rintro e w2 ⟨rfl, hb2⟩
      have hc2 := cell_thru hc hb2
      have H2 := hide (And.intro (below_thru HB.out hb2) hc2)
      clear hit hb2 hc hc2
      go_wp2_with fail
      refine (wpIn_wide (n := 0)).1 (mnmR wide_plain w.heap.size i n S _ _ _ _ _ _ _ _ _ _ _ _ _ _ rfl rfl rfl rfl H2.out.2 (by omega) (HW.out.2.2.2.below H2.out.1) (by have := HS.out.1; omega) rfl (by have := HS.out.1; simp; omega) rfl (by have := HS.out.1; simp; omega) rfl (by have := HS.out.1; simp; omega) rfl (by have := HS.out.1; simp; omega) rfl (by have := HS.out.1; simp; omega) rfl (by have := HS.out.1; simp; omega) rfl (by have := HS.out.1; simp; omega) rfl (by have := HS.out.1; simp; omega) rfl (by have := HS.out.1; simp; omega) rfl (by have := HS.out.1; simp; omega) ?_)
      intro vs w3 hb3 h95
      simp only [List.foldl_cons, List.foldl_nil, List.setIfInBounds_toArray, List.set_cons_succ, List.set_cons_zero]
      rw [h95]
      have H3 := hide (below_thru H2.out.1 hb3)
      clear hb3
      go_wp2_with fail
      go_roundg q
      case measure => omega
      case rel => exact ⟨i + 1, by omega, by go_num, H3.out⟩
end Go.Proofs.YtppdbinppibjhaaGreatDoor
