/-
  append onto a boxed row whose elements have several cells, in a round.
-/
import Derived.Test.YtpdlapnliiengaaRangeA
import Derived.Test.YtpdlapnliiengaaRows2
namespace Go.Proofs.Ytpdlapnliiengaa
open Go.RowKit

theorem wpListIn_append_footS {F : Fence} {N : Nat} {P : Program} (w : World) {ops : Array Oper} {rest : List Oper} {o : Oper} {a : Act} {Q : Exit → Act → World → Prop} (hgd : o.guard = none) (s x : Operand) (t : TypeId)
    (hop : o.op = .call { callee := .builtin .append, args := #[s, x], argTypes := #[t, t] })
    (e : TypeId) (i : TypeInfo) (z : Value) (size bytes : Nat) (ht : P.underlying t = some (.slice e)) (hi : P.info? e = some i) (hz : i.zero = some z)
    (hsize : i.size = size) (hby : i.bytes = bytes) (hzs : z.cells.size = size) (hsz : 0 < size)
    (base : Nat) (v : Value) (n : Nat) (xs : List Value) (hs : a.eval s = v) (hown : w.ownsRow base e size v n xs)
    (ad : Addr) (m c : Nat) (news : List Value) (hx : a.eval x = .slice (some ad) m c) (hl : news.length = m * size) (hnews : ∀ j u, news[j]? = some u → w.cell? (ad.add j) = some u) (h1 : ∀ u ∈ news, u.oneCell' = true)
    (h63 : n + m ≤ maxLen) (hbytes : (n + m) * bytes ≤ 140737488355328) (hbase : base ≤ w.heap.size)
    (h : ∀ A' C' w', w'.ownsRow base e size (.slice A' (n + m) C') (n + m) (xs ++ news) → Grew w w' v (.slice A' (n + m) C') → wpListIn F N P ops Q rest (a.put o.dst (.slice A' (n + m) C')) w') : wpListIn F N P ops Q (o :: rest) a w := by
  obtain ⟨v', w', hr, h2, h3, _⟩ := run_append_footS (P := P) w t o.type e i z size bytes ht hi hz hsize hby hzs hsz base v n xs hown ad m c news hl hnews h1 h63 hbytes hbase
  obtain ⟨A', C', rfl⟩ := owns_slice h2
  refine wpListIn_plain hgd fun K hK' => ?_
  unfold Oper.wpIn
  refine ⟨?_, ?_⟩
  · simp [Oper.about, hop, resolve, Target.leads, Sem.run_pure]
  · rw [Oper.semAt_plain F _ _ (by rw [hop]; intro c hc'; cases hc')]
    simp [execOp, hop, resolve, invoke, builtin, hs, hx, hr, Result.andThen]
    exact hK' _ _ (h A' C' w' h2 h3)

/-- What an append of one to a box's row leaves, behind the store back. -/
theorem grow_postS {W w1 : World} {size n0 B : Nat} {t e : TypeId} {v v' : Value} {k m : Nat} {xs ys : List Value} {tmp : Obj} (hv : Boxed W B t v) (hte : t ≠ e) (hrow : W.ownsRow n0 e size v k xs)
    (hown : w1.ownsRow n0 e size v' m ys) (hG : Grew (W.alloc tmp) w1 v v') :
    Boxed w1 B t v ∧ Boxed (w1.setCell ⟨B, 0, none⟩ v') B t v' ∧ (w1.setCell ⟨B, 0, none⟩ v').ownsRow n0 e size v' m ys ∧ Kept (fun k => k = B ∨ v.ownBlock = some k) W (w1.setCell ⟨B, 0, none⟩ v') ∧
      ∀ g, v'.ownBlock = some g → (v.ownBlock = some g ∨ W.heap.size ≤ g) ∧ g < (w1.setCell ⟨B, 0, none⟩ v').heap.size := by
  have hnr := hv.not_row hte hrow
  have hka : Kept (fun k => v.ownBlock = some k) W (W.alloc tmp) := (Kept.of_below (F := fun _ => False) (below_alloc W tmp)).mono (fun _ _ h => h.elim)
  have hk1 : Kept (fun k => v.ownBlock = some k) W w1 := hka.trans (hG.kept (fun _ h => h)) (fun _ _ h => h)
  have hb1 : Boxed w1 B t v := hk1.heap hv (fun e => hnr e.symm)
  have hlt1 := hb1.lt
  have hsz : (w1.setCell ⟨B, 0, none⟩ v').heap.size = w1.heap.size := by simp
  refine ⟨hb1, hb1.set v', hown.kept (grownBy_setCell' w1 B v') (.inr (hb1.not_row hte hown).symm), (hk1.mono (fun _ _ h => .inr h)).setCell (.inl (.inl rfl)) v', fun g hg => ⟨?_, by rw [hsz]; exact (owns_cells hown g hg).1⟩⟩
  rcases hG.foot (F := fun k => v.ownBlock = some k) (fun _ h => h) g hg with h | ⟨h, _⟩
  · exact .inl h
  · rw [World.size_alloc] at h
    exact .inr (by omega)
end Go.Proofs.Ytpdlapnliiengaa
