/-
  Blocks of bytes whose bytes nobody asks after: they stay such whatever is appended onto them.
-/
import Derived.Test.YtpnphijfdcimlaaAppend
namespace Go.Proofs.Ytpnphijfdcimlaa
open Go.RowKit

def U8 (w : World) (g C : Nat) : Prop := ∃ cur : Array Value, w.heap[g]? = some (.cells cur 5 (0, 0)) ∧ cur.size = C ∧ ∀ v ∈ cur.toList, ∃ z : Nat, z < 256 ∧ v = .int .u8 (z : Nat)
/-- From one world to a later one: below B nothing has turned, blocks of bytes are such. -/
def R8 (B : Nat) (w w' : World) : Prop := Below B w w' ∧ ∀ g C, U8 w g C → U8 w' g C
theorem R8.trans {B : Nat} {a b c : World} (h : R8 B a b) (k : R8 B b c) : R8 B a c := ⟨h.1.trans k.1, fun g C u => k.2 g C (h.2 g C u)⟩
theorem R8.refl (B : Nat) (w : World) : R8 B w w := ⟨Below.refl _ _, fun _ _ h => h⟩
theorem R8.drew (B : Nat) (w : World) : R8 B w w.drew := ⟨(Below.refl _ _).drew, fun _ _ h => h⟩
theorem U8.lt {w : World} {g C : Nat} (h : U8 w g C) : g < w.heap.size := by
  obtain ⟨cur, h1, _⟩ := h; exact block_lt h1
theorem U8.below {w w' : World} {g C : Nat} (h : U8 w g C) (hb : Below w.heap.size w w') : U8 w' g C := by
  have hl := h.lt
  obtain ⟨cur, h1, h2, h3⟩ := h
  exact ⟨cur, (hb.block g hl).trans h1, h2, h3⟩
theorem R8.alloc {B : Nat} {w : World} (hB : B ≤ w.heap.size) (o : Obj) : R8 B w (w.alloc o) := ⟨(Below.refl _ _).alloc hB o, fun _ _ h => h.below (below_alloc w o)⟩
theorem u8_lit (w : World) (C : Array Value) (n : Nat) (g : Nat) (hg : g = w.heap.size) (hn : C.size = n) (h : ∀ v ∈ C.toList, ∃ z : Nat, z < 256 ∧ v = .int .u8 (z : Nat)) : U8 (w.alloc (.cells C 5)) g n := by
  subst hg
  exact ⟨C, heap_alloc_new _ _, hn, h⟩
theorem bytes_of : ∀ (l : List Value), (∀ v ∈ l, ∃ z : Nat, z < 256 ∧ v = .int .u8 (z : Nat)) → ∃ L : List Nat, lc L = l ∧ ∀ b ∈ L, b < 256
  | [], _ => ⟨[], rfl, fun b hb => by cases hb⟩
  | v :: l, h => by
    obtain ⟨z, hz, hv⟩ := h v (List.mem_cons_self ..)
    obtain ⟨L, hL, hb⟩ := bytes_of l (fun v hv => h v (List.mem_cons_of_mem _ hv))
    refine ⟨z :: L, by rw [hv, ← hL]; rfl, fun b hb' => ?_⟩
    rcases List.mem_cons.1 hb' with rfl | h'
    · exact hz
    · exact hb b h'
theorem U8.own {w : World} {g C : Nat} (h : U8 w g C) (n : Nat) (hn : n ≤ C) (hC : C ≤ 9223372036854775807) : ∃ L, (∀ b ∈ L, b < 256) ∧ L.length = n ∧ w.ownsRow 0 5 1 (.slice (some ⟨g, 0, none⟩) n C) n (lc L) := by
  obtain ⟨cur, h1, h2, h3⟩ := h
  obtain ⟨L, hL, hb⟩ := bytes_of (cur.toList.take n) (fun v hv => h3 v (List.mem_of_mem_take hv))
  have hlen : L.length = n := by
    have h5 := congrArg List.length hL
    have h6 : cur.toList.length = cur.size := Array.length_toList
    rw [lc_length, List.length_take, h6] at h5
    omega
  exact ⟨L, hb, hlen, by rw [lc_length]; omega, .inr ⟨g, C, cur, rfl, Nat.zero_le _, h1, hn, by unfold maxLen; omega, by omega, by rw [Nat.mul_one]; exact hL.symm⟩⟩

theorem U8.cell {w : World} {g C i : Nat} (h : U8 w g C) (hi : i < C) : ∃ z : Nat, z < 256 ∧ w.cell? ⟨g, i, none⟩ = some (.int .u8 (z : Nat)) := by
  obtain ⟨cur, h1, h2, h3⟩ := h
  obtain ⟨z, hz, e⟩ := h3 (cur[i]'(by omega)) (by simp)
  exact ⟨z, hz, by rw [cell_of_row _ _ _ _ _ _ h1, Array.getElem?_eq_getElem (by omega), e]⟩
theorem zero_mem (k : Nat) : ∀ v ∈ (Builtin.zeroCells (Value.int .u8 0).cells k).toList, ∃ z : Nat, z < 256 ∧ v = .int .u8 (z : Nat) := by
  intro v hv
  refine ⟨0, by omega, ?_⟩
  simp only [Builtin.zeroCells, Array.toList_map, List.mem_map] at hv
  obtain ⟨i, _, rfl⟩ := hv
  show (Value.int .u8 0).cells[i % 1]! = _
  rw [Nat.mod_one]
  rfl
theorem lc_mem (L : List Nat) (h : ∀ b ∈ L, b < 256) : ∀ v ∈ lc L, ∃ z : Nat, z < 256 ∧ v = .int .u8 (z : Nat) := by
  intro v hv
  obtain ⟨b, hb, rfl⟩ := List.mem_map.1 hv
  exact ⟨b, h b hb, rfl⟩

theorem run_append_u8 (w : World) (g n C : Nat) (hU : U8 w g C) (hn : n ≤ C) (hC : C ≤ 9223372036854775807) (ad : Addr) (m c : Nat) (L : List Nat) (hL : L.length = m) (hlt : ∀ b ∈ L, b < 256) (hnews : ∀ j u, (lc L)[j]? = some u → w.cell? (ad.add j) = some u) (hsm : n + m ≤ 20000) :
    ∃ g' C' w', (Builtin.append_ #[25, 25] 25 #[.slice (some ⟨g, 0, none⟩) n C, .slice (some ad) m c]).run Try.prog w = .ok (.slice (some ⟨g', 0, none⟩) (n + m) C') w' ∧ U8 w' g' C' ∧ n + m ≤ C' ∧ C' ≤ 9223372036854775807 ∧ (g' = g ∨ g' = w.heap.size) ∧ ∀ B, B ≤ g → B ≤ w.heap.size → R8 B w w' := by
  obtain ⟨i, hi, hq0, hq1, hq2⟩ := info_parts info_u8
  have ht := Try.underlying25
  obtain ⟨X, hX, hXl, hown⟩ := hU.own n hn hC
  have hgl := hU.lt
  have hll : (lc L).length = m := by rw [lc_length]; exact hL
  by_cases hroom : n + m ≤ C
  · obtain ⟨cur, h1, h2, h3⟩ := hU
    have hr := run_append_room (P := Try.prog) w 25 25 5 i ht hi g n C cur h1 ad m c (lc L) (by rw [hq1]; omega) hnews (lc_one L) hroom (by rw [hq1]; omega)
    have hmem : ∀ v ∈ (cur.toList.take (n * i.size) ++ lc L ++ cur.toList.drop (n * i.size + (lc L).length)).toArray.toList, ∃ z : Nat, z < 256 ∧ v = .int .u8 (z : Nat) := by
      intro v hv
      simp only [List.mem_append] at hv
      rcases hv with (hv | hv) | hv
      · exact h3 v (List.mem_of_mem_take hv)
      · exact lc_mem L hlt v hv
      · exact h3 v (List.mem_of_mem_drop hv)
    have hsz : (cur.toList.take (n * i.size) ++ lc L ++ cur.toList.drop (n * i.size + (lc L).length)).toArray.size = C := by
      simp only [List.size_toArray, List.length_append, List.length_take, List.length_drop, Array.length_toList, hq1, hll]
      omega
    have hnew := setRow_heap w g cur (cur.toList.take (n * i.size) ++ lc L ++ cur.toList.drop (n * i.size + (lc L).length)).toArray 5 (0, 0) h1
    refine ⟨g, C, _, hr, ⟨_, hnew, hsz, hmem⟩, hroom, hC, .inl rfl, fun B hB hB2 => ⟨⟨rfl, rfl, rfl, by simp, fun k hk => setRow_other w g k _ (by omega)⟩, fun h D hu => ?_⟩⟩
    by_cases e : h = g
    · subst e
      obtain ⟨cur', e1, e2, _⟩ := hu
      rw [h1] at e1
      cases e1
      exact ⟨_, hnew, by omega, hmem⟩
    · obtain ⟨cur', e1, e2, e3⟩ := hu
      exact ⟨cur', (setRow_other w g h _ e).trans e1, e2, e3⟩
  · have holds : ∀ j u, (lc X)[j]? = some u → w.cell? ((⟨g, 0, none⟩ : Addr).add j) = some u := hown.cells (g := g) rfl
    have hr := run_append_grow (P := Try.prog) w 25 25 5 i (.int .u8 0) ht hi hq0 ⟨g, 0, none⟩ n C (lc X) (by rw [lc_length, hq1]; omega) holds ad m c (lc L) (by rw [hq1]; omega) hnews (by omega) (by omega) (growslice_fits (by omega) (by rw [hq2]; omega))
    have hge := grownCap_ge w (n + m) C 5
    have hcm : grownCap w (n + m) C 5 ≤ maxLen := grownCap_le_maxLen w (n + m) C 5 (by unfold maxLen; omega)
    unfold maxLen at hcm
    refine ⟨w.heap.size, _, _, hr, ⟨_, heap_alloc_new w.drew _, ?_, ?_⟩, hge, hcm, .inr rfl, fun B _ hB2 => ?_⟩
    · simp only [Array.size_append, List.size_toArray, size_zeroCells, lc_length, hL, hXl]
      show n + m + (_ - (n + m)) * 1 = _
      omega
    · intro v hv
      simp only [Array.toList_append, List.mem_append] at hv
      rcases hv with (hv | hv) | hv
      · exact lc_mem X hX v hv
      · exact lc_mem L hlt v hv
      · exact zero_mem _ v hv
    · exact (R8.drew B w).trans (R8.alloc (w := w.drew) hB2 _)

theorem step_append_u8 (w : World) {ops : Array Oper} {o : Oper} {a : Act} {K : Act → World → Prop} {Q : Exit → Act → World → Prop} {E : Prop} (hgd : o.guard = none) (s x : Operand)
    (ho : o.op = .call { callee := .builtin .append, args := #[s, x], argTypes := #[25, 25] }) (hty : o.type = 25)
    (g n C : Nat) (hs : a.eval s = .slice (some ⟨g, 0, none⟩) n C) (hU : U8 w g C) (hn : n ≤ C) (hC : C ≤ 9223372036854775807) (ad : Addr) (m c : Nat) (hx : a.eval x = .slice (some ad) m c) (L : List Nat) (hL : L.length = m) (hlt : ∀ b ∈ L, b < 256) (hnews : ∀ j u, (lc L)[j]? = some u → w.cell? (ad.add j) = some u) (hsm : n + m ≤ 20000)
    (h : ∀ g' C' w', U8 w' g' C' → n + m ≤ C' → C' ≤ 9223372036854775807 → (g' = g ∨ g' = w.heap.size) → (∀ B, B ≤ g → B ≤ w.heap.size → R8 B w w') → K (a.put o.dst (.slice (some ⟨g', 0, none⟩) (n + m) C')) w') :
    if Region.wanted o (yielded ops a.tmps) = true then Oper.wp Try.prog o a w K Q else E := by
  have hw : Region.wanted o (yielded ops a.tmps) = true := by simp [Region.wanted, hgd]
  rw [if_pos hw]
  obtain ⟨g', C', w', hr, h2, h3, h4, h5, h6⟩ := run_append_u8 w g n C hU hn hC ad m c L hL hlt hnews hsm
  unfold Oper.wp execOp
  simp only [ho, hty, resolve, invoke, builtin, Sem.run_bind, Sem.run_pure, Result.andThen_ok, List.map_toArray, List.map_cons, List.map_nil, hs, hx, hr]
  exact h g' C' w' h2 h3 h4 h5 h6
end Go.Proofs.Ytpnphijfdcimlaa
