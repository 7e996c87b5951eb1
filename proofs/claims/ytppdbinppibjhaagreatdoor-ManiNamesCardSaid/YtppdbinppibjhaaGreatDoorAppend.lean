/-
  append onto what is owned, of a slice that may be nil: what becomes of the footprint.
-/
import Derived.Test.YtppdbinppibjhaaGreatDoorFoot
import Derived.Deep.AppendLies
import Derived.Laws.AppendOwnNone
namespace Go.Proofs.YtppdbinppibjhaaGreatDoor
open Go.RowKit

/-- What an append leaves: only v's own block may have turned, and what is told lies there or in a new block. -/
def Grew (w w' : World) (v v' : Value) : Prop := ∀ F : Nat → Prop, (∀ g, v.ownBlock = some g → F g) → Kept F w w' ∧ ∀ g, v'.ownBlock = some g → Fnew F w w' g
theorem Grew.kept {w w' : World} {v v' : Value} {F : Nat → Prop} (h : Grew w w' v v') (hF : ∀ g, v.ownBlock = some g → F g) : Kept F w w' := (h F hF).1
theorem Grew.foot {w w' : World} {v v' : Value} {F : Nat → Prop} (h : Grew w w' v v') (hF : ∀ g, v.ownBlock = some g → F g) : ∀ g, v'.ownBlock = some g → Fnew F w w' g := (h F hF).2
theorem Grew.refl (w : World) (v : Value) : Grew w w v v := fun F hF => ⟨Kept.refl F w, fun g hg => .inl (hF g hg)⟩

theorem Grew.undrew {w w' : World} {v v' : Value} (h : Grew w.drew w' v v') : Grew w w' v v' := fun F hF => ⟨⟨(h F hF).1.os, (h F hF).1.tape, (h F hF).1.output, (h F hF).1.size, (h F hF).1.block, (h F hF).1.others⟩, (h F hF).2⟩
theorem owns_slice {w : World} {B n : Nat} {v : Value} {xs : List Value} {e : TypeId} {size : Nat} (h : w.ownsRow B e size v n xs) : ∃ A C, v = .slice A n C := by
  obtain ⟨hl, ⟨hv, h0⟩ | ⟨g, cap, cur, hv, hB, hg, hx⟩⟩ := h
  · subst h0; exact ⟨none, 0, hv⟩
  · exact ⟨_, cap, hv⟩

section
variable {P : Program}
theorem run_append_foot (w : World) (t ty : TypeId) (e : TypeId) (i : TypeInfo) (z : Value) (bytes : Nat) (ht : P.underlying t = some (.slice e)) (hi : P.info? e = some i) (hz : i.zero = some z)
    (hsize : i.size = 1) (hby : i.bytes = bytes) (hzs : z.cells.size = 1)
    (base : Nat) (v : Value) (n : Nat) (xs : List Value) (hown : w.ownsRow base e 1 v n xs)
    (ao : Option Addr) (m c : Nat) (news : List Value) (hl : news.length = m) (hnone : ao = none → m = 0 ∧ c = 0) (hnews : ∀ ad, ao = some ad → ∀ j u, news[j]? = some u → w.cell? (ad.add j) = some u) (h1 : ∀ u ∈ news, u.oneCell' = true)
    (h63 : n + m ≤ maxLen) (hbytes : (n + m) * bytes ≤ 140737488355328) (hbase : base ≤ w.heap.size) :
    ∃ v' w', (Builtin.append_ #[t, t] ty #[v, .slice ao m c]).run P w = .ok v' w' ∧ w'.ownsRow base e 1 v' (n + m) (xs ++ news) ∧ Grew w w' v v' := by
  cases ao with
  | none =>
    obtain ⟨rfl, rfl⟩ := hnone rfl
    have hn := List.eq_nil_of_length_eq_zero hl
    subst hn
    exact ⟨v, w, run_append_owned_none w base t ty e i 1 ht hi v n xs hown, by simpa using hown, Grew.refl _ _⟩
  | some ad =>
    obtain ⟨v', w', hr, h2, h3, _, h5⟩ := run_append_own_at (P := P) w base t ty e i z 1 bytes ht hi hz hsize hby hzs (by omega) v n xs hown ad m c news (by omega) (hnews ad rfl) h1 h63 hbytes hbase
    refine ⟨v', w', hr, h2, fun F hF => ?_⟩
    have hk : Kept F w w' := (Kept.refl F w).grown h3 (fun r hr => by
      obtain ⟨hlt, _, cur, hc⟩ := owns_cells hown r hr
      exact .inl ⟨hF r hr, fun o ho => by rw [hc] at ho; cases ho; rfl⟩)
    refine ⟨hk, fun g hg => ?_⟩
    rcases h5 with h5 | h5
    · rw [h5] at hg; exact .inl (hF g hg)
    · have hlt := (owns_cells h2 g hg).1
      rw [h5] at hg
      cases hg
      exact .inr ⟨Nat.le_refl _, hlt⟩

theorem wp_append_foot (w : World) {o : Oper} {a : Act} {K : Act → World → Prop} {Q : Exit → Act → World → Prop} (s x : Operand) (t : TypeId)
    (ho : o.op = .call { callee := .builtin .append, args := #[s, x], argTypes := #[t, t] })
    (e : TypeId) (i : TypeInfo) (z : Value) (bytes : Nat) (ht : P.underlying t = some (.slice e)) (hi : P.info? e = some i) (hz : i.zero = some z)
    (hsize : i.size = 1) (hby : i.bytes = bytes) (hzs : z.cells.size = 1)
    (base : Nat) (v : Value) (n : Nat) (xs : List Value) (hs : a.eval s = v) (hown : w.ownsRow base e 1 v n xs)
    (ao : Option Addr) (m c : Nat) (news : List Value) (hx : a.eval x = .slice ao m c) (hl : news.length = m) (hnone : ao = none → m = 0 ∧ c = 0) (hnews : ∀ ad, ao = some ad → ∀ j u, news[j]? = some u → w.cell? (ad.add j) = some u) (h1 : ∀ u ∈ news, u.oneCell' = true)
    (h63 : n + m ≤ maxLen) (hbytes : (n + m) * bytes ≤ 140737488355328) (hbase : base ≤ w.heap.size)
    (h : ∀ A' C' w', w'.ownsRow base e 1 (.slice A' (n + m) C') (n + m) (xs ++ news) → Grew w w' v (.slice A' (n + m) C') → K (a.put o.dst (.slice A' (n + m) C')) w') : o.wp P a w K Q := by
  obtain ⟨v', w', hr, h2, h3⟩ := run_append_foot (P := P) w t o.type e i z bytes ht hi hz hsize hby hzs base v n xs hown ao m c news hl hnone hnews h1 h63 hbytes hbase
  unfold Oper.wp execOp
  simp only [ho, resolve, invoke, builtin, Sem.run_bind, Sem.run_pure, Result.andThen_ok, List.map_toArray, List.map_cons, List.map_nil, hs, hx, hr]
  obtain ⟨A', C', rfl⟩ := owns_slice h2
  exact h A' C' w' h2 h3

theorem wpList_append_foot (w : World) {ops : Array Oper} {rest : List Oper} {o : Oper} {a : Act} {Q : Exit → Act → World → Prop} (hgd : o.guard = none) (s x : Operand) (t : TypeId)
    (ho : o.op = .call { callee := .builtin .append, args := #[s, x], argTypes := #[t, t] })
    (e : TypeId) (i : TypeInfo) (z : Value) (bytes : Nat) (ht : P.underlying t = some (.slice e)) (hi : P.info? e = some i) (hz : i.zero = some z)
    (hsize : i.size = 1) (hby : i.bytes = bytes) (hzs : z.cells.size = 1)
    (base : Nat) (v : Value) (n : Nat) (xs : List Value) (hs : a.eval s = v) (hown : w.ownsRow base e 1 v n xs)
    (ao : Option Addr) (m c : Nat) (news : List Value) (hx : a.eval x = .slice ao m c) (hl : news.length = m) (hnone : ao = none → m = 0 ∧ c = 0) (hnews : ∀ ad, ao = some ad → ∀ j u, news[j]? = some u → w.cell? (ad.add j) = some u) (h1 : ∀ u ∈ news, u.oneCell' = true)
    (h63 : n + m ≤ maxLen) (hbytes : (n + m) * bytes ≤ 140737488355328) (hbase : base ≤ w.heap.size)
    (h : ∀ A' C' w', w'.ownsRow base e 1 (.slice A' (n + m) C') (n + m) (xs ++ news) → Grew w w' v (.slice A' (n + m) C') → wpList P ops Q rest (a.put o.dst (.slice A' (n + m) C')) w') : wpList P ops Q (o :: rest) a w :=
  wpList_plain hgd fun _ hK => wp_append_foot w s x t ho e i z bytes ht hi hz hsize hby hzs base v n xs hs hown ao m c news hx hl hnone hnews h1 h63 hbytes hbase fun A' C' w' h2 h3 => hK _ _ (h A' C' w' h2 h3)

theorem step_append_foot (w : World) {ops : Array Oper} {o : Oper} {a : Act} {K : Act → World → Prop} {Q : Exit → Act → World → Prop} {E : Prop} (hgd : o.guard = none) (s x : Operand) (t : TypeId)
    (ho : o.op = .call { callee := .builtin .append, args := #[s, x], argTypes := #[t, t] })
    (e : TypeId) (i : TypeInfo) (z : Value) (bytes : Nat) (ht : P.underlying t = some (.slice e)) (hi : P.info? e = some i) (hz : i.zero = some z)
    (hsize : i.size = 1) (hby : i.bytes = bytes) (hzs : z.cells.size = 1)
    (base : Nat) (v : Value) (n : Nat) (xs : List Value) (hs : a.eval s = v) (hown : w.ownsRow base e 1 v n xs)
    (ao : Option Addr) (m c : Nat) (news : List Value) (hx : a.eval x = .slice ao m c) (hl : news.length = m) (hnone : ao = none → m = 0 ∧ c = 0) (hnews : ∀ ad, ao = some ad → ∀ j u, news[j]? = some u → w.cell? (ad.add j) = some u) (h1 : ∀ u ∈ news, u.oneCell' = true)
    (h63 : n + m ≤ maxLen) (hbytes : (n + m) * bytes ≤ 140737488355328) (hbase : base ≤ w.heap.size)
    (h : ∀ A' C' w', w'.ownsRow base e 1 (.slice A' (n + m) C') (n + m) (xs ++ news) → Grew w w' v (.slice A' (n + m) C') → K (a.put o.dst (.slice A' (n + m) C')) w') :
    if Region.wanted o (yielded ops a.tmps) = true then Oper.wp P o a w K Q else E := by
  have hw : Region.wanted o (yielded ops a.tmps) = true := by simp [Region.wanted, hgd]
  rw [if_pos hw]
  exact wp_append_foot w s x t ho e i z bytes ht hi hz hsize hby hzs base v n xs hs hown ao m c news hx hl hnone hnews h1 h63 hbytes hbase h
end
end Go.Proofs.YtppdbinppibjhaaGreatDoor
