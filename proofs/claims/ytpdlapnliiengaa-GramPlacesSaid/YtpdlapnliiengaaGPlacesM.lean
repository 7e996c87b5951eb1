/-
  Which places have been seen; a row of Bools without false.
-/
import Derived.Test.YtpdlapnliiengaaGStandsW
namespace Go.Proofs.Ytpdlapnliiengaa
open Go.RowKit Go.Shelf

/-- The cells of Bools. -/
def bcl (X : Nat → Bool) (m : Nat) : List Value := (List.range m).map fun p => .bool (X p)
theorem bcl_get (X : Nat → Bool) (m i : Nat) (h : i < m) : (bcl X m)[i]? = some (.bool (X i)) := by simp [bcl, h]
theorem bcl_set (X Y : Nat → Bool) (m i : Nat) (hi : Y i = true) (ho : ∀ j, j ≠ i → Y j = X j) : (bcl X m).set i (.bool true) = bcl Y m := by
  apply List.ext_getElem?
  intro j
  rw [List.getElem?_set]
  by_cases e : i = j
  · subst e
    by_cases hj : i < m
    · rw [if_pos rfl, if_pos (by simp [bcl, hj]), bcl_get _ _ _ hj, hi]
    · rw [if_pos rfl, if_neg (by simp [bcl]; omega), List.getElem?_eq_none (by simp [bcl]; omega)]
  · rw [if_neg e]
    by_cases hj : j < m
    · rw [bcl_get _ _ _ hj, bcl_get _ _ _ hj, ho j (Ne.symm e)]
    · rw [List.getElem?_eq_none (by simp [bcl]; omega), List.getElem?_eq_none (by simp [bcl]; omega)]
theorem info_bool : (Try.prog.info? 4).map (fun i => (i.zero, i.size, i.bytes)) = some (some (.bool false), 1, 1) := by kernel_rfl

set_option maxHeartbeats 400000 in
theorem indexBool_any (a : Option Addr) (n c : Nat) (w : World) (hn : n ≤ 4611686018427387904) (hc : n = 0 ∨ ∃ b off, a = some ⟨b, off, none⟩ ∧ ∀ i, i < n → w.cell? ⟨b, off + i, none⟩ = some (.bool true)) :
    Calls Try.prog 20 #[.slice a n c, .bool false] w fun e w' => e = .returned (.int .i64 (-1)) ∧ w' = w := by
  go_enter Try.func20, Try.ntmps20
  go_wp2_with fail
  go_loopg [5, 8] n (fun q s5 s8 wr => ∃ k : Nat, k + q = n ∧ s8 = .int .i64 (k : Nat) ∧ wr = w)
  case atStart => exact ⟨0, by omega, rfl, rfl⟩
  case round =>
    obtain ⟨k, hkq, rfl, rfl⟩ := hrel
    cases gk with
    | zero =>
      obtain rfl : k = n := by omega
      have hkz : ¬ ((k : Int) < (k : Int)) := by omega
      clear hc
      go_wp2_with fail
      go_ret
      exact ⟨rfl, rfl⟩
    | succ q =>
      have hkz : (k : Int) < (n : Int) := by omega
      have hk0 : (0 : Int) ≤ (k : Int) := by omega
      obtain ⟨b, off, rfl, hc2⟩ := hc.resolve_left (by omega)
      have c1 := hc2 k (by omega)
      clear hc hc2
      go_wp2_with fail
      go_roundg q
      case measure => omega
      case rel => exact ⟨k + 1, by omega, by go_num, rfl⟩
set_option maxHeartbeats 400000 in
theorem containsBool_any (a : Option Addr) (n c : Nat) (w : World) (hn : n ≤ 4611686018427387904) (hc : n = 0 ∨ ∃ b off, a = some ⟨b, off, none⟩ ∧ ∀ i, i < n → w.cell? ⟨b, off + i, none⟩ = some (.bool true)) :
    Calls Try.prog 12 #[.slice a n c, .bool false] w fun e w' => e = .returned (.bool false) ∧ w' = w := by
  have h := indexBool_any a n c w hn hc
  clear hc
  go_enter Try.func12, Try.ntmps12
  go_wp2_with fail
  refine h.mono ?_
  rintro e w1 ⟨rfl, rfl⟩
  go_wp2_with fail
  go_ret
  exact ⟨rfl, rfl⟩

/-- Grams as texts stand as their numbers do. -/
theorem gts_less {a b : Nat} (ha : Okg a) (hb : Okg b) : Op.bytesLess (gts a).toList (gts b).toList = decide (a < b) := by
  rw [Lib.toList_data, Lib.toList_data, gts_data, gts_data]
  unfold Okg at ha hb
  have ea : a = a / 65536 * 65536 + a / 256 % 256 * 256 + a % 256 := by have := Nat.div_div_eq_div_mul a 256 256; omega
  have eb : b = b / 65536 * 65536 + b / 256 % 256 * 256 + b % 256 := by have := Nat.div_div_eq_div_mul b 256 256; omega
  have a0 : a / 65536 < 256 := by omega
  have b0 : b / 65536 < 256 := by omega
  have a1 : a / 256 % 256 < 256 := Nat.mod_lt _ (by decide)
  have b1 : b / 256 % 256 < 256 := Nat.mod_lt _ (by decide)
  have a2 : a % 256 < 256 := Nat.mod_lt _ (by decide)
  have b2 : b % 256 < 256 := Nat.mod_lt _ (by decide)
  generalize a / 65536 = x0 at *
  generalize a / 256 % 256 = x1 at *
  generalize a % 256 = x2 at *
  generalize b / 65536 = y0 at *
  generalize b / 256 % 256 = y1 at *
  generalize b % 256 = y2 at *
  have eqq : ∀ x y : Nat, x < 256 → y < 256 → ((UInt8.ofNat x == UInt8.ofNat y) = decide (x = y)) := fun x y hx hy => by
    rw [Bool.eq_iff_iff, beq_iff_eq, decide_eq_true_eq]
    constructor
    · intro h
      have f := congrArg UInt8.toNat h
      rw [UInt8.toNat_ofNat', UInt8.toNat_ofNat'] at f
      omega
    · rintro rfl; rfl
  simp only [Op.bytesLess, u8_lt a0 b0, u8_lt a1 b1, u8_lt a2 b2, eqq _ _ a0 b0, eqq _ _ a1 b1, eqq _ _ a2 b2, Bool.and_false, Bool.or_false]
  rw [Bool.eq_iff_iff]
  simp only [Bool.or_eq_true, Bool.and_eq_true, decide_eq_true_eq]
  omega
/-- Places of a gram. -/
theorem plL_mem (z : Nat → Nat) (m g p : Nat) : p ∈ plL z (List.range m) g ↔ p < m ∧ gN z p = g := by
  simp [plL]
theorem plL_asc (z : Nat → Nat) (m g : Nat) : (plL z (List.range m) g).Pairwise (· < ·) := List.pairwise_lt_range.filter _
theorem plL_pos {z : Nat → Nat} (hz : ∀ i, z i < 256) {m g : Nat} (h : g ∈ gset z m) : 0 < (plL z (List.range m) g).length := by
  obtain ⟨i, hi, e⟩ := (gset_mem hz m g).1 h
  exact List.length_pos_of_mem ((plL_mem z m g i).2 ⟨hi, e⟩)
theorem asc_get {l : List Nat} (h : l.Pairwise (· < ·)) {i j : Nat} (hij : i < j) (hj : j < l.length) : l.getD i 0 < l.getD j 0 := by
  rw [List.getD_eq_getElem?_getD, List.getD_eq_getElem?_getD, List.getElem?_eq_getElem hj, List.getElem?_eq_getElem (show i < l.length by omega)]
  exact List.pairwise_iff_getElem.1 h i j (by omega) hj hij
theorem getD_mem {l : List Nat} {i : Nat} (h : i < l.length) : l.getD i 0 ∈ l := by
  rw [List.getD_eq_getElem?_getD, List.getElem?_eq_getElem h]
  exact List.getElem_mem h
theorem mem_take_lt {l : List Nat} {k x : Nat} (h : x ∈ l.take k) : ∃ j, j < k ∧ j < l.length ∧ l.getD j 0 = x := by
  obtain ⟨j, hj⟩ := List.mem_iff_getElem?.1 h
  have hl := (List.getElem?_eq_some_iff.1 hj).1
  rw [List.length_take] at hl
  rw [List.getElem?_take_of_lt (by omega)] at hj
  exact ⟨j, by omega, by omega, by rw [List.getD_eq_getElem?_getD, hj]; rfl⟩
theorem take_mem {l : List Nat} {k j : Nat} (h : j < k) (hl : j < l.length) : l.getD j 0 ∈ l.take k := by
  rw [List.mem_iff_getElem?]
  exact ⟨j, by rw [List.getElem?_take_of_lt h, List.getD_eq_getElem?_getD, List.getElem?_eq_getElem hl]; rfl⟩
theorem take_getD {l : List Nat} {k : Nat} (h : k < l.length) : l.take (k + 1) = l.take k ++ [l.getD k 0] := by
  rw [List.take_add_one, List.getD_eq_getElem?_getD, List.getElem?_eq_getElem h]; rfl
/-- Seen, when the first i grams are through, and the first k places of the next one. -/
def seenB (z : Nat → Nat) (m i k : Nat) (p : Nat) : Bool :=
  decide (gN z p ∈ (gset z m).take i ∨ (i < (gset z m).length ∧ p ∈ (plL z (List.range m) ((gset z m).getD i 0)).take k))
section
variable {z : Nat → Nat} {m i k : Nat}
theorem seen_zero (p : Nat) : seenB z m 0 0 p = false := by simp [seenB]
/-- The next place has not been seen. -/
theorem seen_not (hz : ∀ i, z i < 256) (hi : i < (gset z m).length) (hk : k < (plL z (List.range m) ((gset z m).getD i 0)).length) : seenB z m i k ((plL z (List.range m) ((gset z m).getD i 0)).getD k 0) = false := by
  unfold seenB
  rw [decide_eq_false_iff_not]
  rintro (h | ⟨_, h⟩)
  · obtain ⟨j, hj, hjl, e⟩ := mem_take_lt h
    rw [((plL_mem z m _ _).1 (getD_mem hk)).2] at e
    have := asc_get (gset_asc hz m) hj hi
    omega
  · obtain ⟨j, hj, hjl, e⟩ := mem_take_lt h
    have := asc_get (plL_asc z m ((gset z m).getD i 0)) hj hk
    omega
theorem seen_step (hi : i < (gset z m).length) (hk : k < (plL z (List.range m) ((gset z m).getD i 0)).length) :
    (bcl (seenB z m i k) m).set ((plL z (List.range m) ((gset z m).getD i 0)).getD k 0) (.bool true) = bcl (seenB z m i (k + 1)) m := by
  have ht := take_getD hk
  refine bcl_set _ _ m _ ?_ ?_
  · unfold seenB
    rw [decide_eq_true_eq, ht]
    exact .inr ⟨hi, by simp⟩
  · intro j hj
    unfold seenB
    rw [ht, decide_eq_decide]
    generalize plL z (List.range m) ((gset z m).getD i 0) = P at *
    simp only [List.mem_append, List.mem_singleton, hj, or_false]
theorem seen_next (hi : i < (gset z m).length) : bcl (seenB z m i (plL z (List.range m) ((gset z m).getD i 0)).length) m = bcl (seenB z m (i + 1) 0) m := by
  have ht := take_getD hi
  unfold bcl
  refine List.map_congr_left fun p hp => ?_
  have hpm := List.mem_range.1 hp
  unfold seenB
  rw [ht, List.take_length, Value.bool.injEq, decide_eq_decide]
  constructor
  · rintro (h | ⟨_, h⟩)
    · exact .inl (List.mem_append_left _ h)
    · rw [((plL_mem z m _ _).1 h).2]
      exact .inl (List.mem_append_right _ (by simp))
  · rintro (h | ⟨_, h⟩)
    · rcases List.mem_append.1 h with h | h
      · exact .inl h
      · exact .inr ⟨hi, (plL_mem z m _ _).2 ⟨hpm, by simpa using h⟩⟩
    · simp at h
theorem seen_all (hz : ∀ i, z i < 256) (hi : i = (gset z m).length) {p : Nat} (hp : p < m) : seenB z m i 0 p = true := by
  unfold seenB
  rw [decide_eq_true_eq, hi, List.take_length]
  exact .inl ((gset_mem hz m _).2 ⟨p, hp, rfl⟩)
end
end Go.Proofs.Ytpdlapnliiengaa
