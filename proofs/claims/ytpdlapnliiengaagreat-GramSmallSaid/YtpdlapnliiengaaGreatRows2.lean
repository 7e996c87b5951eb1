/-
  append onto what is owned: what it was appended to reads as it did.
-/
import Derived.Test.YtpdlapnliiengaaGreatAppendS
import Derived.Deep.MidRow
import Derived.OwnWalkIn
namespace Go.Proofs.YtpdlapnliiengaaGreat
open Go.RowKit

section
variable {P : Program}
theorem append_keeps (w w' : World) (t ty : TypeId) (e : TypeId) (i : TypeInfo) (z : Value) (bytes : Nat) (ht : P.underlying t = some (.slice e)) (hi : P.info? e = some i) (hz : i.zero = some z)
    (hsize : i.size = 1) (hby : i.bytes = bytes)
    (base : Nat) (v v' : Value) (n : Nat) (xs : List Value) (hown : w.ownsRow base e 1 v n xs)
    (ad : Addr) (m c : Nat) (news : List Value) (hl : news.length = m) (hnews : ∀ j u, news[j]? = some u → w.cell? (ad.add j) = some u) (h1 : ∀ u ∈ news, u.oneCell' = true)
    (h63 : n + m ≤ maxLen) (hbytes : (n + m) * bytes ≤ 140737488355328)
    (hr : (Builtin.append_ #[t, t] ty #[v, .slice (some ad) m c]).run P w = .ok v' w') (hown' : w'.ownsRow base e 1 v' (n + m) (xs ++ news)) : w'.ownsRow base e 1 v n xs := by
  have h63' := h63
  unfold maxLen at h63'
  obtain ⟨hxl, h0⟩ := hown
  have hown2 : w.ownsRow base e 1 v n xs := ⟨hxl, h0⟩
  have hxn : xs.length = n := by omega
  rcases h0 with ⟨rfl, rfl⟩ | ⟨g, cap, cur, rfl, hbg, hg, hnc, hcm, hcs, htake⟩
  · have : xs = [] := List.eq_nil_of_length_eq_zero (by omega)
    subst this
    exact World.ownsRow_nil _ _ _ _
  · by_cases hroom : n + m ≤ cap
    · have hr2 := run_append_room (P := P) w t ty e i ht hi g n cap cur hg ad m c news (by rw [hsize]; omega) hnews h1 hroom (by rw [hsize, hl]; omega)
      rw [hr2] at hr
      cases hr
      obtain ⟨_, h0 | ⟨g', cap', cur', hv, hb', hg', hnc', hcm', hcs', htake'⟩⟩ := hown'
      · cases h0.1
      · cases hv
        refine ⟨hxl, .inr ⟨g, cap, cur', rfl, hbg, hg', hnc, hcm, hcs', ?_⟩⟩
        have h3 := congrArg (List.take (n * 1)) htake'
        rw [List.take_take, show min (n * 1) ((n + m) * 1) = n * 1 from by omega, List.take_append_of_le_length (by omega), List.take_of_length_le (show xs.length ≤ n * 1 by omega)] at h3
        exact h3
    · have holds : ∀ j u, xs[j]? = some u → w.cell? ((⟨g, 0, none⟩ : Addr).add j) = some u := hown2.cells (g := g) rfl
      have hr2 := run_append_grow (P := P) w t ty e i z ht hi hz ⟨g, 0, none⟩ n cap xs (by rw [hsize]; omega) holds ad m c news (by rw [hsize]; omega) hnews (by omega) (by omega) (growslice_fits (by omega) (by rw [hby]; exact hbytes))
      rw [hr2] at hr
      cases hr
      refine ⟨hxl, .inr ⟨g, cap, cur, rfl, hbg, ?_, hnc, hcm, hcs, htake⟩⟩
      exact (Below.heap_alloc w.drew _ g (show g < w.heap.size from block_lt hg)).trans hg

theorem wp_append_keep (w : World) {o : Oper} {a : Act} {K : Act → World → Prop} {Q : Exit → Act → World → Prop} (s x : Operand) (t : TypeId)
    (ho : o.op = .call { callee := .builtin .append, args := #[s, x], argTypes := #[t, t] })
    (e : TypeId) (i : TypeInfo) (z : Value) (bytes : Nat) (ht : P.underlying t = some (.slice e)) (hi : P.info? e = some i) (hz : i.zero = some z)
    (hsize : i.size = 1) (hby : i.bytes = bytes) (hzs : z.cells.size = 1)
    (base : Nat) (v : Value) (n : Nat) (xs : List Value) (hs : a.eval s = v) (hown : w.ownsRow base e 1 v n xs)
    (ad : Addr) (m c : Nat) (news : List Value) (hx : a.eval x = .slice (some ad) m c) (hl : news.length = m) (hnews : ∀ j u, news[j]? = some u → w.cell? (ad.add j) = some u) (h1 : ∀ u ∈ news, u.oneCell' = true)
    (h63 : n + m ≤ maxLen) (hbytes : (n + m) * bytes ≤ 140737488355328) (hbase : base ≤ w.heap.size)
    (h : ∀ A' C' w', w'.ownsRow base e 1 (.slice A' (n + m) C') (n + m) (xs ++ news) → Grew w w' v (.slice A' (n + m) C') → w'.ownsRow base e 1 v n xs → K (a.put o.dst (.slice A' (n + m) C')) w') : o.wp P a w K Q := by
  obtain ⟨v', w', hr, h2, h3⟩ := run_append_foot (P := P) w t o.type e i z bytes ht hi hz hsize hby hzs base v n xs hown (some ad) m c news hl (fun e => by cases e) (fun ad' e => by cases e; exact hnews) h1 h63 hbytes hbase
  have h4 := append_keeps w w' t o.type e i z bytes ht hi hz hsize hby base v v' n xs hown ad m c news hl hnews h1 h63 hbytes hr h2
  unfold Oper.wp execOp
  simp only [ho, resolve, invoke, builtin, Sem.run_bind, Sem.run_pure, Result.andThen_ok, List.map_toArray, List.map_cons, List.map_nil, hs, hx, hr]
  obtain ⟨A', C', rfl⟩ := owns_slice h2
  exact h A' C' w' h2 h3 h4
theorem wpList_append_keep (w : World) {ops : Array Oper} {rest : List Oper} {o : Oper} {a : Act} {Q : Exit → Act → World → Prop} (hgd : o.guard = none) (s x : Operand) (t : TypeId)
    (ho : o.op = .call { callee := .builtin .append, args := #[s, x], argTypes := #[t, t] })
    (e : TypeId) (i : TypeInfo) (z : Value) (bytes : Nat) (ht : P.underlying t = some (.slice e)) (hi : P.info? e = some i) (hz : i.zero = some z)
    (hsize : i.size = 1) (hby : i.bytes = bytes) (hzs : z.cells.size = 1)
    (base : Nat) (v : Value) (n : Nat) (xs : List Value) (hs : a.eval s = v) (hown : w.ownsRow base e 1 v n xs)
    (ad : Addr) (m c : Nat) (news : List Value) (hx : a.eval x = .slice (some ad) m c) (hl : news.length = m) (hnews : ∀ j u, news[j]? = some u → w.cell? (ad.add j) = some u) (h1 : ∀ u ∈ news, u.oneCell' = true)
    (h63 : n + m ≤ maxLen) (hbytes : (n + m) * bytes ≤ 140737488355328) (hbase : base ≤ w.heap.size)
    (h : ∀ A' C' w', w'.ownsRow base e 1 (.slice A' (n + m) C') (n + m) (xs ++ news) → Grew w w' v (.slice A' (n + m) C') → w'.ownsRow base e 1 v n xs → wpList P ops Q rest (a.put o.dst (.slice A' (n + m) C')) w') : wpList P ops Q (o :: rest) a w :=
  wpList_plain hgd fun _ hK => wp_append_keep w s x t ho e i z bytes ht hi hz hsize hby hzs base v n xs hs hown ad m c news hx hl hnews h1 h63 hbytes hbase fun A' C' w' h2 h3 h4 => hK _ _ (h A' C' w' h2 h3 h4)
end

/-- Of two that own the same block the shorter one reads as the longer one begins. -/
theorem owns_prefix {w w' : World} {base n m : Nat} {e : TypeId} {v g : Value} {xs ys : List Value} {b : Nat} (hv : w.ownsRow base e 1 v n xs) (hg : w.ownsRow base e 1 g m ys) (hvb : v.ownBlock = some b) (hgb : g.ownBlock = some b) (hnm : n ≤ m) (hg' : w'.ownsRow base e 1 g m ys) : w'.ownsRow base e 1 v n xs := by
  obtain ⟨hxl, ⟨rfl, _⟩ | ⟨b1, c1, cur1, rfl, hB1, hh1, hn1, hm1, hs1, ht1⟩⟩ := hv
  · cases hvb
  · obtain ⟨hyl, ⟨rfl, _⟩ | ⟨b2, c2, cur2, rfl, hB2, hh2, hn2, hm2, hs2, ht2⟩⟩ := hg
    · cases hgb
    · cases hvb
      cases hgb
      rw [hh1] at hh2
      cases hh2
      obtain ⟨_, ⟨h, _⟩ | ⟨b3, c3, cur3, h, hB3, hh3, hn3, hm3, hs3, ht3⟩⟩ := hg'
      · cases h
      · cases h
        have hc : c1 = c2 := by omega
        subst hc
        refine ⟨hxl, .inr ⟨_, c1, cur3, rfl, hB1, hh3, hn1, hm1, hs3, ?_⟩⟩
        have h1 := congrArg (List.take (n * 1)) ht3
        have h2 := congrArg (List.take (n * 1)) ht2
        rw [List.take_take, show min (n * 1) (m * 1) = n * 1 from by omega] at h1 h2
        rw [h1, ← h2, ht1]
/-- A cell of what is owned is stored. -/
theorem owns_set {w : World} {base n : Nat} {e : TypeId} {v : Value} {xs : List Value} {b i : Nat} (h : w.ownsRow base e 1 v n xs) (hb : v.ownBlock = some b) (u : Value) : (w.setCell ⟨b, i, none⟩ u).ownsRow base e 1 v n (xs.set i u) := by
  obtain ⟨hxl, ⟨rfl, _⟩ | ⟨b1, c1, cur1, rfl, hB1, hh1, hn1, hm1, hs1, ht1⟩⟩ := h
  · cases hb
  · cases hb
    refine ⟨by rw [List.length_set]; exact hxl, .inr ⟨_, c1, _, rfl, hB1, heap_setCell_same _ _ i cur1 _ _ hh1, hn1, hm1, by rw [Array.size_setIfInBounds]; exact hs1, ?_⟩⟩
    rw [← ht1, Array.toList_setIfInBounds, List.take_set]
theorem owns_other {w : World} {base n : Nat} {e : TypeId} {size : Nat} {v : Value} {xs : List Value} {b i : Nat} (h : w.ownsRow base e size v n xs) (hb : v.ownBlock ≠ some b) (u : Value) : (w.setCell ⟨b, i, none⟩ u).ownsRow base e size v n xs := by
  obtain ⟨hxl, h0 | ⟨b1, c1, cur1, rfl, hB1, hh1, hr⟩⟩ := h
  · exact ⟨hxl, .inl h0⟩
  · refine ⟨hxl, .inr ⟨b1, c1, cur1, rfl, hB1, ?_, hr⟩⟩
    rw [Below.heap_setCell _ _ _ _ (fun e => hb (by rw [← show b1 = b from e]; rfl))]
    exact hh1
/-- The cells of what is owned. -/
theorem owns_cell {w : World} {base n : Nat} {e : TypeId} {v : Value} {xs : List Value} {i : Nat} {u : Value} (h : w.ownsRow base e 1 v n xs) (hi : xs[i]? = some u) : ∃ b C, v = .slice (some ⟨b, 0, none⟩) n C ∧ w.cell? ⟨b, i, none⟩ = some u ∧ w.frozen? ⟨b, i, none⟩ = false ∧ n ≤ C ∧ C ≤ 9223372036854775807 := by
  obtain ⟨hxl, ⟨rfl, rfl⟩ | ⟨b1, c1, cur1, rfl, hB1, hh1, hn1, hm1, hs1, ht1⟩⟩ := h
  · have := (List.getElem?_eq_some_iff.1 hi).1
    omega
  · have hlt := (List.getElem?_eq_some_iff.1 hi).1
    unfold maxLen at hm1
    refine ⟨b1, c1, rfl, ?_, frozen_of_row _ _ _ _ _ hh1, hn1, hm1⟩
    rw [cell_of_row _ _ _ _ _ _ hh1]
    rw [← ht1, List.getElem?_take_of_lt (by omega)] at hi
    simpa using hi
end Go.Proofs.YtpdlapnliiengaaGreat

/-
  Rows of the call's own whose elements are of several cells: what is kept, what is stored, what an append leaves.
-/
namespace Go.Proofs.YtpdlapnliiengaaGreat
open Go.RowKit

section
variable {w w' : World} {B n m size : Nat} {v : Value} {xs ys : List Value} {e : TypeId}
theorem owns_thruS (h : w.ownsRow B e size v n xs) (hb : Below w.heap.size w w') : w'.ownsRow B e size v n xs := by
  obtain ⟨hl, ⟨hv, h0⟩ | ⟨g, cap, cur, hv, hB, hg, hr⟩⟩ := h
  · exact ⟨hl, .inl ⟨hv, h0⟩⟩
  · exact ⟨hl, .inr ⟨g, cap, cur, hv, hB, (hb.block g (block_lt hg)).trans hg, hr⟩⟩
theorem owns_keptS {F : Nat → Prop} (h : w.ownsRow B e size v n xs) (hk : Kept F w w') (hb : ∀ g, v.ownBlock = some g → ¬ F g) : w'.ownsRow B e size v n xs := by
  obtain ⟨hl, ⟨hv, h0⟩ | ⟨g, cap, cur, hv, hB, hg, hr⟩⟩ := h
  · exact ⟨hl, .inl ⟨hv, h0⟩⟩
  · exact ⟨hl, .inr ⟨g, cap, cur, hv, hB, hk.heap hg (hb g (by subst hv; rfl)), hr⟩⟩
theorem owns_setS {b i : Nat} (h : w.ownsRow B e size v n xs) (hb : v.ownBlock = some b) (u : Value) : (w.setCell ⟨b, i, none⟩ u).ownsRow B e size v n (xs.set i u) := by
  obtain ⟨hxl, ⟨rfl, _⟩ | ⟨b1, c1, cur1, rfl, hB1, hh1, hn1, hm1, hs1, ht1⟩⟩ := h
  · cases hb
  · cases hb
    refine ⟨by rw [List.length_set]; exact hxl, .inr ⟨_, c1, _, rfl, hB1, heap_setCell_same _ _ i cur1 _ _ hh1, hn1, hm1, by rw [Array.size_setIfInBounds]; exact hs1, ?_⟩⟩
    rw [← ht1, Array.toList_setIfInBounds, List.take_set]
theorem owns_cellS {i : Nat} {u : Value} (h : w.ownsRow B e size v n xs) (hi : xs[i]? = some u) : ∃ b C, v = .slice (some ⟨b, 0, none⟩) n C ∧ w.cell? ⟨b, i, none⟩ = some u ∧ w.frozen? ⟨b, i, none⟩ = false ∧ n ≤ C ∧ C ≤ 9223372036854775807 := by
  obtain ⟨hxl, ⟨rfl, rfl⟩ | ⟨b1, c1, cur1, rfl, hB1, hh1, hn1, hm1, hs1, ht1⟩⟩ := h
  · have := (List.getElem?_eq_some_iff.1 hi).1
    omega
  · have hlt := (List.getElem?_eq_some_iff.1 hi).1
    unfold maxLen at hm1
    refine ⟨b1, c1, rfl, ?_, frozen_of_row _ _ _ _ _ hh1, hn1, hm1⟩
    rw [cell_of_row _ _ _ _ _ _ hh1]
    rw [← ht1, List.getElem?_take_of_lt (by omega)] at hi
    simpa using hi
/-- Of two that own the same block the shorter one reads as the longer one begins. -/
theorem owns_prefixS {g : Value} {b : Nat} (hsz : 0 < size) (hv : w.ownsRow B e size v n xs) (hg : w.ownsRow B e size g m ys) (hvb : v.ownBlock = some b) (hgb : g.ownBlock = some b) (hnm : n ≤ m) (hg' : w'.ownsRow B e size g m ys) : w'.ownsRow B e size v n xs := by
  obtain ⟨hxl, ⟨rfl, _⟩ | ⟨b1, c1, cur1, rfl, hB1, hh1, hn1, hm1, hs1, ht1⟩⟩ := hv
  · cases hvb
  · obtain ⟨hyl, ⟨rfl, _⟩ | ⟨b2, c2, cur2, rfl, hB2, hh2, hn2, hm2, hs2, ht2⟩⟩ := hg
    · cases hgb
    · cases hvb
      cases hgb
      rw [hh1] at hh2
      cases hh2
      obtain ⟨_, ⟨h, _⟩ | ⟨b3, c3, cur3, h, hB3, hh3, hn3, hm3, hs3, ht3⟩⟩ := hg'
      · cases h
      · cases h
        have hc : c1 = c2 := Nat.eq_of_mul_eq_mul_right hsz (hs1.symm.trans hs2)
        subst hc
        have hle : n * size ≤ m * size := Nat.mul_le_mul_right _ hnm
        refine ⟨hxl, .inr ⟨_, c1, cur3, rfl, hB1, hh3, hn1, hm1, hs3, ?_⟩⟩
        have h1 := congrArg (List.take (n * size)) ht3
        have h2 := congrArg (List.take (n * size)) ht2
        rw [List.take_take, Nat.min_eq_left hle] at h1 h2
        rw [h1, ← h2, ht1]
end

/-! ### Several cells stored one behind the other -/
def setL : List Value → Nat → List Value → List Value
  | xs, _, [] => xs
  | xs, o, v :: r => setL (xs.set o v) (o + 1) r
theorem setL_eq : ∀ (vs p rest : List Value), vs.length ≤ rest.length → setL (p ++ rest) p.length vs = p ++ vs ++ rest.drop vs.length
  | [], p, rest, _ => by simp [setL]
  | v :: r, p, [], h => by simp at h
  | v :: r, p, a :: rest, h => by
    have ih := setL_eq r (p ++ [v]) rest (by simpa using h)
    have e : (p ++ a :: rest).set p.length v = (p ++ [v]) ++ rest := by
      rw [List.set_append_right _ _ (Nat.le_refl _), Nat.sub_self]
      simp
    show setL ((p ++ a :: rest).set p.length v) (p.length + 1) r = _
    rw [e, show p.length + 1 = (p ++ [v]).length by simp, ih]
    simp
theorem kept_setCells (b : Nat) : ∀ (vs : List Value) (o : Nat) (w : World), Kept (fun g => g = b) w (w.setCells b o vs)
  | [], _, w => Kept.refl _ w
  | v :: r, o, w => ((Kept.refl (fun g => g = b) w).setCell (p := ⟨b, o, none⟩) (.inl rfl) v).trans (kept_setCells b r (o + 1) _) (fun _ _ h => h)
theorem owns_setCells {B n size b : Nat} {v : Value} {e : TypeId} (hb : v.ownBlock = some b) : ∀ (vs : List Value) (o : Nat) (w : World) (xs : List Value), w.ownsRow B e size v n xs → (w.setCells b o vs).ownsRow B e size v n (setL xs o vs)
  | [], _, _, _, h => h
  | u :: r, o, _, _, h => owns_setCells hb r (o + 1) _ _ (owns_setS h hb u)
section
variable {P : Program}
theorem run_append_footS (w : World) (t ty : TypeId) (e : TypeId) (i : TypeInfo) (z : Value) (size bytes : Nat) (ht : P.underlying t = some (.slice e)) (hi : P.info? e = some i) (hz : i.zero = some z)
    (hsize : i.size = size) (hby : i.bytes = bytes) (hzs : z.cells.size = size) (hsz : 0 < size)
    (base : Nat) (v : Value) (n : Nat) (xs : List Value) (hown : w.ownsRow base e size v n xs)
    (ad : Addr) (m c : Nat) (news : List Value) (hl : news.length = m * size) (hnews : ∀ j u, news[j]? = some u → w.cell? (ad.add j) = some u) (h1 : ∀ u ∈ news, u.oneCell' = true)
    (h63 : n + m ≤ maxLen) (hbytes : (n + m) * bytes ≤ 140737488355328) (hbase : base ≤ w.heap.size) :
    ∃ v' w', (Builtin.append_ #[t, t] ty #[v, .slice (some ad) m c]).run P w = .ok v' w' ∧ w'.ownsRow base e size v' (n + m) (xs ++ news) ∧ Grew w w' v v' ∧ w'.ownsRow base e size v n xs := by
  obtain ⟨v', w', hr, h2, h3, _, h5⟩ := run_append_own_at (P := P) w base t ty e i z size bytes ht hi hz hsize hby hzs hsz v n xs hown ad m c news hl hnews h1 h63 hbytes hbase
  refine ⟨v', w', hr, h2, fun F hF => ?_, ?_⟩
  · have hk : Kept F w w' := (Kept.refl F w).grown h3 (fun r hr => by
      obtain ⟨hlt, _, cur, hc⟩ := owns_cells hown r hr
      exact .inl ⟨hF r hr, fun o ho => by rw [hc] at ho; cases ho; rfl⟩)
    refine ⟨hk, fun g hg => ?_⟩
    rcases h5 with h5 | h5
    · rw [h5] at hg; exact .inl (hF g hg)
    · have hlt := (owns_cells h2 g hg).1
      rw [h5] at hg
      cases hg
      exact .inr ⟨Nat.le_refl _, hlt⟩
  · have h63' := h63
    unfold maxLen at h63'
    have hown' := h2
    obtain ⟨hxl, h0⟩ := hown
    have hown2 : w.ownsRow base e size v n xs := ⟨hxl, h0⟩
    rcases h0 with ⟨rfl, rfl⟩ | ⟨g, cap, cur, rfl, hbg, hg, hnc, hcm, hcs, htake⟩
    · have : xs = [] := List.eq_nil_of_length_eq_zero (by omega)
      subst this
      exact World.ownsRow_nil _ _ _ _
    · by_cases hroom : n + m ≤ cap
      · have hfit : n * i.size + news.length ≤ cur.size := by rw [hl, hcs, hsize, ← Nat.add_mul]; exact Nat.mul_le_mul_right _ hroom
        have hr2 := run_append_room (P := P) w t ty e i ht hi g n cap cur hg ad m c news (by rw [hsize]; exact hl) hnews h1 hroom hfit
        rw [hr2] at hr
        cases hr
        obtain ⟨_, h0 | ⟨g', cap', cur', hv, hb', hg', hnc', hcm', hcs', htake'⟩⟩ := hown'
        · cases h0.1
        · cases hv
          have hle : n * size ≤ (n + m) * size := Nat.mul_le_mul_right _ (Nat.le_add_right _ _)
          refine ⟨hxl, .inr ⟨g, cap, cur', rfl, hbg, hg', hnc, hcm, hcs', ?_⟩⟩
          have h3 := congrArg (List.take (n * size)) htake'
          rw [List.take_take, Nat.min_eq_left hle, List.take_append_of_le_length (by omega), List.take_of_length_le (show xs.length ≤ n * size by omega)] at h3
          exact h3
      · have holds : ∀ j u, xs[j]? = some u → w.cell? ((⟨g, 0, none⟩ : Addr).add j) = some u := hown2.cells (g := g) rfl
        have hr2 := run_append_grow (P := P) w t ty e i z ht hi hz ⟨g, 0, none⟩ n cap xs (by rw [hsize]; exact hxl) holds ad m c news (by rw [hsize]; exact hl) hnews (by omega) (by omega) (growslice_fits (by omega) (by rw [hby]; exact hbytes))
        rw [hr2] at hr
        cases hr
        refine ⟨hxl, .inr ⟨g, cap, cur, rfl, hbg, ?_, hnc, hcm, hcs, htake⟩⟩
        exact (Below.heap_alloc w.drew _ g (show g < w.heap.size from block_lt hg)).trans hg

theorem wp_append_keepS (w : World) {o : Oper} {a : Act} {K : Act → World → Prop} {Q : Exit → Act → World → Prop} (s x : Operand) (t : TypeId)
    (ho : o.op = .call { callee := .builtin .append, args := #[s, x], argTypes := #[t, t] })
    (e : TypeId) (i : TypeInfo) (z : Value) (size bytes : Nat) (ht : P.underlying t = some (.slice e)) (hi : P.info? e = some i) (hz : i.zero = some z)
    (hsize : i.size = size) (hby : i.bytes = bytes) (hzs : z.cells.size = size) (hsz : 0 < size)
    (base : Nat) (v : Value) (n : Nat) (xs : List Value) (hs : a.eval s = v) (hown : w.ownsRow base e size v n xs)
    (ad : Addr) (m c : Nat) (news : List Value) (hx : a.eval x = .slice (some ad) m c) (hl : news.length = m * size) (hnews : ∀ j u, news[j]? = some u → w.cell? (ad.add j) = some u) (h1 : ∀ u ∈ news, u.oneCell' = true)
    (h63 : n + m ≤ maxLen) (hbytes : (n + m) * bytes ≤ 140737488355328) (hbase : base ≤ w.heap.size)
    (h : ∀ A' C' w', w'.ownsRow base e size (.slice A' (n + m) C') (n + m) (xs ++ news) → Grew w w' v (.slice A' (n + m) C') → w'.ownsRow base e size v n xs → K (a.put o.dst (.slice A' (n + m) C')) w') : o.wp P a w K Q := by
  obtain ⟨v', w', hr, h2, h3, h4⟩ := run_append_footS (P := P) w t o.type e i z size bytes ht hi hz hsize hby hzs hsz base v n xs hown ad m c news hl hnews h1 h63 hbytes hbase
  unfold Oper.wp execOp
  simp only [ho, resolve, invoke, builtin, Sem.run_bind, Sem.run_pure, Result.andThen_ok, List.map_toArray, List.map_cons, List.map_nil, hs, hx, hr]
  obtain ⟨A', C', rfl⟩ := owns_slice h2
  exact h A' C' w' h2 h3 h4
theorem wpList_append_keepS (w : World) {ops : Array Oper} {rest : List Oper} {o : Oper} {a : Act} {Q : Exit → Act → World → Prop} (hgd : o.guard = none) (s x : Operand) (t : TypeId)
    (ho : o.op = .call { callee := .builtin .append, args := #[s, x], argTypes := #[t, t] })
    (e : TypeId) (i : TypeInfo) (z : Value) (size bytes : Nat) (ht : P.underlying t = some (.slice e)) (hi : P.info? e = some i) (hz : i.zero = some z)
    (hsize : i.size = size) (hby : i.bytes = bytes) (hzs : z.cells.size = size) (hsz : 0 < size)
    (base : Nat) (v : Value) (n : Nat) (xs : List Value) (hs : a.eval s = v) (hown : w.ownsRow base e size v n xs)
    (ad : Addr) (m c : Nat) (news : List Value) (hx : a.eval x = .slice (some ad) m c) (hl : news.length = m * size) (hnews : ∀ j u, news[j]? = some u → w.cell? (ad.add j) = some u) (h1 : ∀ u ∈ news, u.oneCell' = true)
    (h63 : n + m ≤ maxLen) (hbytes : (n + m) * bytes ≤ 140737488355328) (hbase : base ≤ w.heap.size)
    (h : ∀ A' C' w', w'.ownsRow base e size (.slice A' (n + m) C') (n + m) (xs ++ news) → Grew w w' v (.slice A' (n + m) C') → w'.ownsRow base e size v n xs → wpList P ops Q rest (a.put o.dst (.slice A' (n + m) C')) w') : wpList P ops Q (o :: rest) a w :=
  wpList_plain hgd fun _ hK => wp_append_keepS w s x t ho e i z size bytes ht hi hz hsize hby hzs hsz base v n xs hs hown ad m c news hx hl hnews h1 h63 hbytes hbase fun A' C' w' h2 h3 h4 => hK _ _ (h A' C' w' h2 h3 h4)
theorem step_append_keepS (w : World) {ops : Array Oper} {o : Oper} {a : Act} {K : Act → World → Prop} {Q : Exit → Act → World → Prop} {E : Prop} (hgd : o.guard = none) (s x : Operand) (t : TypeId)
    (ho : o.op = .call { callee := .builtin .append, args := #[s, x], argTypes := #[t, t] })
    (e : TypeId) (i : TypeInfo) (z : Value) (size bytes : Nat) (ht : P.underlying t = some (.slice e)) (hi : P.info? e = some i) (hz : i.zero = some z)
    (hsize : i.size = size) (hby : i.bytes = bytes) (hzs : z.cells.size = size) (hsz : 0 < size)
    (base : Nat) (v : Value) (n : Nat) (xs : List Value) (hs : a.eval s = v) (hown : w.ownsRow base e size v n xs)
    (ad : Addr) (m c : Nat) (news : List Value) (hx : a.eval x = .slice (some ad) m c) (hl : news.length = m * size) (hnews : ∀ j u, news[j]? = some u → w.cell? (ad.add j) = some u) (h1 : ∀ u ∈ news, u.oneCell' = true)
    (h63 : n + m ≤ maxLen) (hbytes : (n + m) * bytes ≤ 140737488355328) (hbase : base ≤ w.heap.size)
    (h : ∀ A' C' w', w'.ownsRow base e size (.slice A' (n + m) C') (n + m) (xs ++ news) → Grew w w' v (.slice A' (n + m) C') → w'.ownsRow base e size v n xs → K (a.put o.dst (.slice A' (n + m) C')) w') :
    if Region.wanted o (yielded ops a.tmps) = true then Oper.wp P o a w K Q else E := by
  have hw : Region.wanted o (yielded ops a.tmps) = true := by simp [Region.wanted, hgd]
  rw [if_pos hw]
  exact wp_append_keepS w s x t ho e i z size bytes ht hi hz hsize hby hzs hsz base v n xs hs hown ad m c news hx hl hnews h1 h63 hbytes hbase h
end
end Go.Proofs.YtpdlapnliiengaaGreat

/-
  Append with footprints, inside a fence.
-/
namespace Go.Proofs.YtpdlapnliiengaaGreat
open Go.RowKit

section
variable {F : Fence} {N : Nat} {P : Program}
theorem oper_append_in (w : World) {o : Oper} {a : Act} {K : Act → World → Prop} {Q : Exit → Act → World → Prop} (s x : Operand) (t : TypeId)
    (ho : o.op = .call { callee := .builtin .append, args := #[s, x], argTypes := #[t, t] })
    (e : TypeId) (i : TypeInfo) (z : Value) (bytes : Nat) (ht : P.underlying t = some (.slice e)) (hi : P.info? e = some i) (hz : i.zero = some z)
    (hsize : i.size = 1) (hby : i.bytes = bytes) (hzs : z.cells.size = 1)
    (base : Nat) (v : Value) (n : Nat) (xs : List Value) (hs : a.eval s = v) (hown : w.ownsRow base e 1 v n xs)
    (ao : Option Addr) (m c : Nat) (news : List Value) (hx : a.eval x = .slice ao m c) (hl : news.length = m) (hnone : ao = none → m = 0 ∧ c = 0) (hnews : ∀ ad, ao = some ad → ∀ j u, news[j]? = some u → w.cell? (ad.add j) = some u) (h1 : ∀ u ∈ news, u.oneCell' = true)
    (h63 : n + m ≤ maxLen) (hbytes : (n + m) * bytes ≤ 140737488355328) (hbase : base ≤ w.heap.size)
    (h : ∀ A' C' w', w'.ownsRow base e 1 (.slice A' (n + m) C') (n + m) (xs ++ news) → Grew w w' v (.slice A' (n + m) C') → K (a.put o.dst (.slice A' (n + m) C')) w') : o.wpIn F N P a w K Q := by
  obtain ⟨v', w', hr, h2, h3⟩ := run_append_foot (P := P) w t o.type e i z bytes ht hi hz hsize hby hzs base v n xs hown ao m c news hl hnone hnews h1 h63 hbytes hbase
  obtain ⟨A', C', rfl⟩ := owns_slice h2
  have hk := h A' C' w' h2 h3
  unfold Oper.wpIn
  refine ⟨by simp [Oper.about, ho, resolve, Target.leads, Sem.run_pure], ?_⟩
  rw [Oper.semAt_plain F _ _ (by rw [ho]; intro c hc'; cases hc')]
  simp [execOp, ho, resolve, invoke, builtin, hs, hx, hr, Result.andThen]
  exact hk
theorem listIn_append (w : World) {ops : Array Oper} {rest : List Oper} {o : Oper} {a : Act} {Q : Exit → Act → World → Prop} (hgd : o.guard = none) (s x : Operand) (t : TypeId)
    (ho : o.op = .call { callee := .builtin .append, args := #[s, x], argTypes := #[t, t] })
    (e : TypeId) (i : TypeInfo) (z : Value) (bytes : Nat) (ht : P.underlying t = some (.slice e)) (hi : P.info? e = some i) (hz : i.zero = some z)
    (hsize : i.size = 1) (hby : i.bytes = bytes) (hzs : z.cells.size = 1)
    (base : Nat) (v : Value) (n : Nat) (xs : List Value) (hs : a.eval s = v) (hown : w.ownsRow base e 1 v n xs)
    (ao : Option Addr) (m c : Nat) (news : List Value) (hx : a.eval x = .slice ao m c) (hl : news.length = m) (hnone : ao = none → m = 0 ∧ c = 0) (hnews : ∀ ad, ao = some ad → ∀ j u, news[j]? = some u → w.cell? (ad.add j) = some u) (h1 : ∀ u ∈ news, u.oneCell' = true)
    (h63 : n + m ≤ maxLen) (hbytes : (n + m) * bytes ≤ 140737488355328) (hbase : base ≤ w.heap.size)
    (h : ∀ A' C' w', w'.ownsRow base e 1 (.slice A' (n + m) C') (n + m) (xs ++ news) → Grew w w' v (.slice A' (n + m) C') → wpListIn F N P ops Q rest (a.put o.dst (.slice A' (n + m) C')) w') : wpListIn F N P ops Q (o :: rest) a w :=
  wpListIn_plain hgd fun _ hK => oper_append_in w s x t ho e i z bytes ht hi hz hsize hby hzs base v n xs hs hown ao m c news hx hl hnone hnews h1 h63 hbytes hbase fun A' C' w' h2 h3 => hK _ _ (h A' C' w' h2 h3)
theorem listIn_appendS (w : World) {ops : Array Oper} {rest : List Oper} {o : Oper} {a : Act} {Q : Exit → Act → World → Prop} (hgd : o.guard = none) (s x : Operand) (t : TypeId)
    (ho : o.op = .call { callee := .builtin .append, args := #[s, x], argTypes := #[t, t] })
    (e : TypeId) (i : TypeInfo) (z : Value) (size bytes : Nat) (ht : P.underlying t = some (.slice e)) (hi : P.info? e = some i) (hz : i.zero = some z)
    (hsize : i.size = size) (hby : i.bytes = bytes) (hzs : z.cells.size = size) (hsz : 0 < size)
    (base : Nat) (v : Value) (n : Nat) (xs : List Value) (hs : a.eval s = v) (hown : w.ownsRow base e size v n xs)
    (ad : Addr) (m c : Nat) (news : List Value) (hx : a.eval x = .slice (some ad) m c) (hl : news.length = m * size) (hnews : ∀ j u, news[j]? = some u → w.cell? (ad.add j) = some u) (h1 : ∀ u ∈ news, u.oneCell' = true)
    (h63 : n + m ≤ maxLen) (hbytes : (n + m) * bytes ≤ 140737488355328) (hbase : base ≤ w.heap.size)
    (h : ∀ A' C' w', w'.ownsRow base e size (.slice A' (n + m) C') (n + m) (xs ++ news) → Grew w w' v (.slice A' (n + m) C') → w'.ownsRow base e size v n xs → wpListIn F N P ops Q rest (a.put o.dst (.slice A' (n + m) C')) w') : wpListIn F N P ops Q (o :: rest) a w := by
  refine wpListIn_plain hgd fun K hK' => ?_
  obtain ⟨v', w', hr, h2, h3, h4⟩ := run_append_footS (P := P) w t o.type e i z size bytes ht hi hz hsize hby hzs hsz base v n xs hown ad m c news hl hnews h1 h63 hbytes hbase
  obtain ⟨A', C', rfl⟩ := owns_slice h2
  have hk := h A' C' w' h2 h3 h4
  unfold Oper.wpIn
  refine ⟨by simp [Oper.about, ho, resolve, Target.leads, Sem.run_pure], ?_⟩
  rw [Oper.semAt_plain F _ _ (by rw [ho]; intro c hc'; cases hc')]
  simp [execOp, ho, resolve, invoke, builtin, hs, hx, hr, Result.andThen]
  exact hK' _ _ hk
end
end Go.Proofs.YtpdlapnliiengaaGreat
