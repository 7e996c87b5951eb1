/-
  append onto what is owned, of a slice that may be nil: what becomes of the footprint.
-/
import Derived.Test.YtpdlapnliiengaaGreatFoot
import Derived.Deep.AppendLies
import Derived.Laws.AppendOwnNone
import Derived.BigQuiet
import Derived.Deep.QuietTactic
import Derived.Deep.DeepMust
import Derived.Deep.DeepCutAuto
import Derived.Deep.LoopGhost
import Derived.OwnWalk
import Derived.Outline
import Derived.WalkSpells
namespace Go.Proofs.YtpdlapnliiengaaGreat
open Go.RowKit

/-- What an append leaves: only v's own block may have turned, and what is told lies there or in a new block. -/
def Grew (w w' : World) (v v' : Value) : Prop := ∀ F : Nat → Prop, (∀ g, v.ownBlock = some g → F g) → Kept F w w' ∧ ∀ g, v'.ownBlock = some g → Fnew F w w' g
theorem Grew.kept {w w' : World} {v v' : Value} {F : Nat → Prop} (h : Grew w w' v v') (hF : ∀ g, v.ownBlock = some g → F g) : Kept F w w' := (h F hF).1
theorem Grew.foot {w w' : World} {v v' : Value} {F : Nat → Prop} (h : Grew w w' v v') (hF : ∀ g, v.ownBlock = some g → F g) : ∀ g, v'.ownBlock = some g → Fnew F w w' g := (h F hF).2
theorem Grew.refl (w : World) (v : Value) : Grew w w v v := fun F hF => ⟨Kept.refl F w, fun g hg => .inl (hF g hg)⟩

theorem Grew.undrew {w w' : World} {v v' : Value} (h : Grew w.drew w' v v') : Grew w w' v v' := fun F hF => ⟨⟨(h F hF).1.os, (h F hF).1.tape, (h F hF).1.output, (h F hF).1.size, (h F hF).1.block, (h F hF).1.others⟩, (h F hF).2⟩
theorem owns_slice {w : World} {B n : Nat} {v : Value} {xs : List Value} {e : TypeId} {size : Nat} (h : w.ownsRow B e size v n xs) : ∃ A C, v = .slice A n C := by
  obtain ⟨hl, ⟨hv, h0⟩ | ⟨g, cap, cur, hv, hB, hg, hx⟩⟩ := h
  · subst h0; exact ⟨none, 0, hv⟩
  · exact ⟨_, cap, hv⟩

section
variable {P : Program}
theorem run_append_foot (w : World) (t ty : TypeId) (e : TypeId) (i : TypeInfo) (z : Value) (bytes : Nat) (ht : P.underlying t = some (.slice e)) (hi : P.info? e = some i) (hz : i.zero = some z)
    (hsize : i.size = 1) (hby : i.bytes = bytes) (hzs : z.cells.size = 1)
    (base : Nat) (v : Value) (n : Nat) (xs : List Value) (hown : w.ownsRow base e 1 v n xs)
    (ao : Option Addr) (m c : Nat) (news : List Value) (hl : news.length = m) (hnone : ao = none → m = 0 ∧ c = 0) (hnews : ∀ ad, ao = some ad → ∀ j u, news[j]? = some u → w.cell? (ad.add j) = some u) (h1 : ∀ u ∈ news, u.oneCell' = true)
    (h63 : n + m ≤ maxLen) (hbytes : (n + m) * bytes ≤ 140737488355328) (hbase : base ≤ w.heap.size) :
    ∃ v' w', (Builtin.append_ #[t, t] ty #[v, .slice ao m c]).run P w = .ok v' w' ∧ w'.ownsRow base e 1 v' (n + m) (xs ++ news) ∧ Grew w w' v v' := by
  cases ao with
  | none =>
    obtain ⟨rfl, rfl⟩ := hnone rfl
    have hn := List.eq_nil_of_length_eq_zero hl
    subst hn
    exact ⟨v, w, run_append_owned_none w base t ty e i 1 ht hi v n xs hown, by simpa using hown, Grew.refl _ _⟩
  | some ad =>
    obtain ⟨v', w', hr, h2, h3, _, h5⟩ := run_append_own_at (P := P) w base t ty e i z 1 bytes ht hi hz hsize hby hzs (by omega) v n xs hown ad m c news (by omega) (hnews ad rfl) h1 h63 hbytes hbase
    refine ⟨v', w', hr, h2, fun F hF => ?_⟩
    have hk : Kept F w w' := (Kept.refl F w).grown h3 (fun r hr => by
      obtain ⟨hlt, _, cur, hc⟩ := owns_cells hown r hr
      exact .inl ⟨hF r hr, fun o ho => by rw [hc] at ho; cases ho; rfl⟩)
    refine ⟨hk, fun g hg => ?_⟩
    rcases h5 with h5 | h5
    · rw [h5] at hg; exact .inl (hF g hg)
    · have hlt := (owns_cells h2 g hg).1
      rw [h5] at hg
      cases hg
      exact .inr ⟨Nat.le_refl _, hlt⟩

theorem wp_append_foot (w : World) {o : Oper} {a : Act} {K : Act → World → Prop} {Q : Exit → Act → World → Prop} (s x : Operand) (t : TypeId)
    (ho : o.op = .call { callee := .builtin .append, args := #[s, x], argTypes := #[t, t] })
    (e : TypeId) (i : TypeInfo) (z : Value) (bytes : Nat) (ht : P.underlying t = some (.slice e)) (hi : P.info? e = some i) (hz : i.zero = some z)
    (hsize : i.size = 1) (hby : i.bytes = bytes) (hzs : z.cells.size = 1)
    (base : Nat) (v : Value) (n : Nat) (xs : List Value) (hs : a.eval s = v) (hown : w.ownsRow base e 1 v n xs)
    (ao : Option Addr) (m c : Nat) (news : List Value) (hx : a.eval x = .slice ao m c) (hl : news.length = m) (hnone : ao = none → m = 0 ∧ c = 0) (hnews : ∀ ad, ao = some ad → ∀ j u, news[j]? = some u → w.cell? (ad.add j) = some u) (h1 : ∀ u ∈ news, u.oneCell' = true)
    (h63 : n + m ≤ maxLen) (hbytes : (n + m) * bytes ≤ 140737488355328) (hbase : base ≤ w.heap.size)
    (h : ∀ A' C' w', w'.ownsRow base e 1 (.slice A' (n + m) C') (n + m) (xs ++ news) → Grew w w' v (.slice A' (n + m) C') → K (a.put o.dst (.slice A' (n + m) C')) w') : o.wp P a w K Q := by
  obtain ⟨v', w', hr, h2, h3⟩ := run_append_foot (P := P) w t o.type e i z bytes ht hi hz hsize hby hzs base v n xs hown ao m c news hl hnone hnews h1 h63 hbytes hbase
  unfold Oper.wp execOp
  simp only [ho, resolve, invoke, builtin, Sem.run_bind, Sem.run_pure, Result.andThen_ok, List.map_toArray, List.map_cons, List.map_nil, hs, hx, hr]
  obtain ⟨A', C', rfl⟩ := owns_slice h2
  exact h A' C' w' h2 h3

theorem wpList_append_foot (w : World) {ops : Array Oper} {rest : List Oper} {o : Oper} {a : Act} {Q : Exit → Act → World → Prop} (hgd : o.guard = none) (s x : Operand) (t : TypeId)
    (ho : o.op = .call { callee := .builtin .append, args := #[s, x], argTypes := #[t, t] })
    (e : TypeId) (i : TypeInfo) (z : Value) (bytes : Nat) (ht : P.underlying t = some (.slice e)) (hi : P.info? e = some i) (hz : i.zero = some z)
    (hsize : i.size = 1) (hby : i.bytes = bytes) (hzs : z.cells.size = 1)
    (base : Nat) (v : Value) (n : Nat) (xs : List Value) (hs : a.eval s = v) (hown : w.ownsRow base e 1 v n xs)
    (ao : Option Addr) (m c : Nat) (news : List Value) (hx : a.eval x = .slice ao m c) (hl : news.length = m) (hnone : ao = none → m = 0 ∧ c = 0) (hnews : ∀ ad, ao = some ad → ∀ j u, news[j]? = some u → w.cell? (ad.add j) = some u) (h1 : ∀ u ∈ news, u.oneCell' = true)
    (h63 : n + m ≤ maxLen) (hbytes : (n + m) * bytes ≤ 140737488355328) (hbase : base ≤ w.heap.size)
    (h : ∀ A' C' w', w'.ownsRow base e 1 (.slice A' (n + m) C') (n + m) (xs ++ news) → Grew w w' v (.slice A' (n + m) C') → wpList P ops Q rest (a.put o.dst (.slice A' (n + m) C')) w') : wpList P ops Q (o :: rest) a w :=
  wpList_plain hgd fun _ hK => wp_append_foot w s x t ho e i z bytes ht hi hz hsize hby hzs base v n xs hs hown ao m c news hx hl hnone hnews h1 h63 hbytes hbase fun A' C' w' h2 h3 => hK _ _ (h A' C' w' h2 h3)

theorem step_append_foot (w : World) {ops : Array Oper} {o : Oper} {a : Act} {K : Act → World → Prop} {Q : Exit → Act → World → Prop} {E : Prop} (hgd : o.guard = none) (s x : Operand) (t : TypeId)
    (ho : o.op = .call { callee := .builtin .append, args := #[s, x], argTypes := #[t, t] })
    (e : TypeId) (i : TypeInfo) (z : Value) (bytes : Nat) (ht : P.underlying t = some (.slice e)) (hi : P.info? e = some i) (hz : i.zero = some z)
    (hsize : i.size = 1) (hby : i.bytes = bytes) (hzs : z.cells.size = 1)
    (base : Nat) (v : Value) (n : Nat) (xs : List Value) (hs : a.eval s = v) (hown : w.ownsRow base e 1 v n xs)
    (ao : Option Addr) (m c : Nat) (news : List Value) (hx : a.eval x = .slice ao m c) (hl : news.length = m) (hnone : ao = none → m = 0 ∧ c = 0) (hnews : ∀ ad, ao = some ad → ∀ j u, news[j]? = some u → w.cell? (ad.add j) = some u) (h1 : ∀ u ∈ news, u.oneCell' = true)
    (h63 : n + m ≤ maxLen) (hbytes : (n + m) * bytes ≤ 140737488355328) (hbase : base ≤ w.heap.size)
    (h : ∀ A' C' w', w'.ownsRow base e 1 (.slice A' (n + m) C') (n + m) (xs ++ news) → Grew w w' v (.slice A' (n + m) C') → K (a.put o.dst (.slice A' (n + m) C')) w') :
    if Region.wanted o (yielded ops a.tmps) = true then Oper.wp P o a w K Q else E := by
  have hw : Region.wanted o (yielded ops a.tmps) = true := by simp [Region.wanted, hgd]
  rw [if_pos hw]
  exact wp_append_foot w s x t ho e i z bytes ht hi hz hsize hby hzs base v n xs hs hown ao m c news hx hl hnone hnews h1 h63 hbytes hbase h
end
end Go.Proofs.YtpdlapnliiengaaGreat

/-
  Functions that hold a range over a function in a loop: the marks that each such loop leaves among the deferred calls.
-/
namespace Go.Proofs.YtpdlapnliiengaaGreat
open Go.RowKit

/-- Marks that loops over functions have left, whose blocks lie from B on. -/
def Marks (B : Nat) : List Deferred → World → Prop
  | [], _ => True
  | d :: ds, w => (∃ D, d.target = .collected D ∧ B ≤ D ∧ w.heap[D]? = some (.deferred (some [])) ∧ ∀ d' ∈ ds, d'.target ≠ .collected D) ∧ Marks B ds w
theorem Marks.lt {B : Nat} {ds : List Deferred} {w : World} (h : Marks B ds w) : ∀ d ∈ ds, ∃ D, d.target = .collected D ∧ D < w.heap.size := by
  induction ds with
  | nil => intro d hd; cases hd
  | cons d ds ih =>
    obtain ⟨⟨D, h1, _, h3, _⟩, h4⟩ := h
    intro d' hd
    rcases List.mem_cons.1 hd with rfl | hd
    · exact ⟨D, h1, (Array.getElem?_eq_some_iff.1 h3).1⟩
    · exact ih h4 d' hd
theorem Marks.same {B : Nat} {ds : List Deferred} {w w' : World} (h : Marks B ds w) (hs : ∀ D, B ≤ D → w.heap[D]? = some (.deferred (some [])) → (∃ d ∈ ds, d.target = .collected D) → w'.heap[D]? = some (.deferred (some []))) : Marks B ds w' := by
  induction ds with
  | nil => trivial
  | cons d ds ih =>
    obtain ⟨⟨D, h1, h2, h3, h5⟩, h4⟩ := h
    exact ⟨⟨D, h1, h2, hs D h2 h3 ⟨d, List.mem_cons_self, h1⟩, h5⟩, ih h4 (fun D' a b ⟨d', c, e⟩ => hs D' a b ⟨d', List.mem_cons_of_mem _ c, e⟩)⟩
theorem Marks.others {B : Nat} {ds : List Deferred} {w w' : World} (h : Marks B ds w) (hk : KeepsOthers w w') : Marks B ds w' := h.same fun D _ hD _ => hk.same D _ hD rfl
/-- A loop over a function turns none of the marks that were there when it began. -/
theorem Marks.grown {B B0 : Nat} {ds : List Deferred} {w w' : World} {row : Option Nat} (h : Marks B ds w) (hlt : ∀ d ∈ ds, ∀ D, d.target = .collected D → D < B0) (hg : w.grownBy w' row) (hr : ∀ r, row = some r → B0 ≤ r) : Marks B ds w' :=
  h.same fun D _ hD ⟨d, hd, e⟩ => (hg.block D (Array.getElem?_eq_some_iff.1 hD).1 (fun e' => by have := hr D e'.symm; have := hlt d hd D e; omega)).trans hD
theorem Marks.push {B D : Nat} {ds : List Deferred} {w : World} {args : Array Value} (h : Marks B ds w) (hB : B ≤ D) (hD : w.heap[D]? = some (.deferred (some []))) (hlt : ∀ d ∈ ds, ∀ D', d.target = .collected D' → D' < D) : Marks B ({ target := .collected D, args := args } :: ds) w :=
  ⟨⟨D, rfl, hB, hD, fun d' hd e => by have := hlt d' hd D e; omega⟩, h⟩

/-- Only marks have been taken. -/
structure Turned (B : Nat) (w w' : World) : Prop where
  os : w'.os = w.os
  tape : w'.tape = w.tape
  output : w'.output = w.output
  size : w'.heap.size = w.heap.size
  block : ∀ k, k < B → w'.heap[k]? = w.heap[k]?
  cells : CellsKept w w'
theorem Turned.refl (B : Nat) (w : World) : Turned B w w := ⟨rfl, rfl, rfl, rfl, fun _ _ => rfl, fun _ _ _ _ h => h⟩
theorem Turned.trans {B : Nat} {a b c : World} (h : Turned B a b) (k : Turned B b c) : Turned B a c :=
  ⟨k.os.trans h.os, k.tape.trans h.tape, k.output.trans h.output, k.size.trans h.size, fun i hi => (k.block i hi).trans (h.block i hi), fun i x t f hx => k.cells i x t f (h.cells i x t f hx)⟩
theorem Turned.put {B D : Nat} {w : World} (hB : B ≤ D) (hD : w.heap[D]? = some (.deferred (some []))) : Turned B w (w.putObj D (.deferred none)) :=
  ⟨rfl, rfl, rfl, by simp, fun k hk => World.putObj_heap_other (by omega), fun k c t f h => (World.putObj_heap_other (fun e => by subst e; rw [h] at hD; cases hD)).trans h⟩
theorem Kept.turned {F : Nat → Prop} {w0 w w' : World} (h : Kept F w0 w) (ht : Turned w0.heap.size w w') : Kept F w0 w' :=
  ⟨ht.os.trans h.os, ht.tape.trans h.tape, ht.output.trans h.output, by rw [ht.size]; exact h.size, fun k hk hn => (ht.block k hk).trans (h.block k hk hn),
    fun k o ho hc => (ht.block k (Array.getElem?_eq_some_iff.1 ho).1).trans (h.others k o ho hc)⟩

theorem leaves_marks {P : Program} {F : Fence} {n : Nat} {fn : Func} {tmps : Array Value} {R : Ending → World → Prop} {B : Nat} : ∀ (ds : List Deferred) (w : World), Marks B ds w →
    (∀ w', Turned B w w' → ∃ v, (results fn tmps).run P w' = .ok v w' ∧ R (.returned v) w') → LeavesInM F n P fn tmps R ds .returning w
  | [], w, _, h => h w (Turned.refl _ _)
  | d :: ds, w, ⟨⟨D, h1, h2, h3, h4⟩, h5⟩, h => by
    refine ⟨by simp, .inl ⟨D, _, h1, run_takeDeferred h3, ?_⟩⟩
    have ht := Turned.put (B := B) h2 h3
    refine leaves_marks ds _ ?_ (fun w' hw' => h w' (ht.trans hw'))
    exact h5.same fun D' _ hD' ⟨d', hd, e⟩ => (World.putObj_heap_other (fun e' => h4 d' hd (by rw [e, e']))).trans hD'
end Go.Proofs.YtpdlapnliiengaaGreat

/-
  Contracts of bytes.Clone and of the kit's functions that ask whether two rows are the same.
-/
namespace Go.Proofs.YtpdlapnliiengaaGreat
open Go.RowKit

theorem grew_below {w w' : World} {v v' : Value} (h : Grew w w' v v') (hv : ∀ g, v.ownBlock = some g → w.heap.size ≤ g) : Below w.heap.size w w' :=
  (h.kept (F := fun k => v.ownBlock = some k) (fun _ h => h)).below hv (Nat.le_refl _)


set_option maxHeartbeats 400000 in
theorem sameBytes_any (a b : Option Addr) (n ca cb : Nat) (L : List Nat) (w : World) (hL : L.length = n) (hn : n ≤ 9223372036854775807) (ha : BL w a L) (hb : BL w b L) :
    Calls Tryz.prog 95 #[.slice a n ca, .slice b n cb] w fun e w' => e = .returned (.bool true) ∧ Below w.heap.size w w' := by
  go_enter Tryz.func95, Tryz.ntmps95
  go_wp2
  go_loopg [5] n (fun q s5 wr => ∃ k : Nat, k + q = n ∧ s5 = .int .i64 k ∧ Below w.heap.size w wr)
  case atStart => exact ⟨0, by omega, rfl, Below.refl _ _⟩
  case round =>
    obtain ⟨k, hkq, rfl, hbr⟩ := hrel
    cases gk with
    | zero =>
      obtain rfl : k = n := by omega
      clear ha hb hL
      go_wp2
      go_ret
      exact ⟨rfl, hbr⟩
    | succ q =>
      have hkz : (k : Int) < (n : Int) := by omega
      have hk0 : (0 : Int) ≤ (k : Int) := by omega
      obtain ⟨g1, o1, rfl, c1⟩ := ha.cell (by omega)
      obtain ⟨g2, o2, rfl, c2⟩ := hb.cell (by omega)
      have d1 := cell_thru (c1 k (by omega)) hbr
      have d2 := cell_thru (c2 k (by omega)) hbr
      clear c1 c2 ha hb hL
      generalize L.getD k 0 = x at d1 d2
      go_upto_region 6 with fail
      go_cut [25] (fun s wx => s = .bool false ∧ Below w.heap.size w wx)
      case first =>
        go_quiet (fail)
        all_goals
          go_wp2_with fail
          go_meet
          exact ⟨rfl, below_drewN hbr _⟩
      case rest =>
        obtain ⟨rfl, hbc⟩ := hcut
        go_wp2_with fail
        go_roundg q
        case measure => omega
        case rel => exact ⟨k + 1, by omega, by go_num, hbc⟩

/-- A slice at a of len numbers holds Z. -/
def Ints (w : World) (a : Option Addr) (len : Nat) (z : Nat → Int) : Prop :=
  len = 0 ∨ ∃ b off, a = some ⟨b, off, none⟩ ∧ ∀ i, i < len → w.cell? ⟨b, off + i, none⟩ = some (.int .i64 (z i))
theorem Ints.below {w w' : World} {a : Option Addr} {len : Nat} {z : Nat → Int} (h : Ints w a len z) (hb : Below w.heap.size w w') : Ints w' a len z := by
  rcases h with h | ⟨b, off, rfl, hc⟩
  · exact .inl h
  · exact .inr ⟨b, off, rfl, fun i hi => (hb.cell (p := ⟨b, off + i, none⟩) (block_lt_of_cell (hc i hi))).trans (hc i hi)⟩
theorem Ints.kept {F : Nat → Prop} {w w' : World} {a : Option Addr} {len : Nat} {z : Nat → Int} (h : Ints w a len z) (hk : Kept F w w') (hb : ∀ g off s, a = some ⟨g, off, s⟩ → ¬ F g) : Ints w' a len z := by
  rcases h with h | ⟨g, off, rfl, hc⟩
  · exact .inl h
  · exact .inr ⟨g, off, rfl, fun i hi => hk.cell (hc i hi) (hb g off none rfl)⟩
theorem BL.kept0 {F : Nat → Prop} {w w' : World} {a : Option Addr} {L : List Nat} (h : BL w a L) (hk : Kept F w w') (hb : ∀ g off s, a = some ⟨g, off, s⟩ → 0 < L.length → ¬ F g) : BL w' a L := by
  rcases Nat.eq_zero_or_pos L.length with h0 | h0
  · exact BL.mk h.lt (.inl h0)
  · exact h.kept hk (fun g o s e => hb g o s e h0)
theorem Ints.kept0 {F : Nat → Prop} {w w' : World} {a : Option Addr} {len : Nat} {z : Nat → Int} (h : Ints w a len z) (hk : Kept F w w') (hb : ∀ g off s, a = some ⟨g, off, s⟩ → 0 < len → ¬ F g) : Ints w' a len z := by
  rcases Nat.eq_zero_or_pos len with h0 | h0
  · exact .inl h0
  · exact h.kept hk (fun g o s e => hb g o s e h0)
theorem Ints.congr {w : World} {a : Option Addr} {len : Nat} {z y : Nat → Int} (h : Ints w a len z) (e : ∀ i, i < len → z i = y i) : Ints w a len y := by
  rcases h with h | ⟨g, off, rfl, hc⟩
  · exact .inl h
  · exact .inr ⟨g, off, rfl, fun i hi => by rw [← e i hi]; exact hc i hi⟩
theorem Ints.cell {w : World} {a : Option Addr} {len : Nat} {z : Nat → Int} (h : Ints w a len z) (hn : 0 < len) : ∃ b off, a = some ⟨b, off, none⟩ ∧ ∀ i, i < len → w.cell? ⟨b, off + i, none⟩ = some (.int .i64 (z i)) := by
  rcases h with h0 | h1
  · omega
  · exact h1

set_option maxHeartbeats 400000 in
theorem sameInts_any (a b : Option Addr) (n ca cb : Nat) (z : Nat → Int) (w : World) (hn : n ≤ 9223372036854775807) (ha : Ints w a n z) (hb : Ints w b n z) :
    Calls Tryz.prog 96 #[.slice a n ca, .slice b n cb] w fun e w' => e = .returned (.bool true) ∧ Below w.heap.size w w' := by
  go_enter Tryz.func96, Tryz.ntmps96
  go_wp2
  go_loopg [5] n (fun q s5 wr => ∃ k : Nat, k + q = n ∧ s5 = .int .i64 k ∧ Below w.heap.size w wr)
  case atStart => exact ⟨0, by omega, rfl, Below.refl _ _⟩
  case round =>
    obtain ⟨k, hkq, rfl, hbr⟩ := hrel
    cases gk with
    | zero =>
      obtain rfl : k = n := by omega
      clear ha hb
      go_wp2
      go_ret
      exact ⟨rfl, hbr⟩
    | succ q =>
      have hkz : (k : Int) < (n : Int) := by omega
      have hk0 : (0 : Int) ≤ (k : Int) := by omega
      obtain ⟨g1, o1, rfl, c1⟩ := ha.cell (by omega)
      obtain ⟨g2, o2, rfl, c2⟩ := hb.cell (by omega)
      have d1 := cell_thru (c1 k (by omega)) hbr
      have d2 := cell_thru (c2 k (by omega)) hbr
      clear c1 c2 ha hb
      generalize z k = x at d1 d2
      go_upto_region 6 with fail
      go_cut [25] (fun s wx => s = .bool false ∧ Below w.heap.size w wx)
      case first =>
        go_quiet (fail)
        all_goals
          go_wp2_with fail
          go_meet
          exact ⟨rfl, below_drewN hbr _⟩
      case rest =>
        obtain ⟨rfl, hbc⟩ := hcut
        go_wp2_with fail
        go_roundg q
        case measure => omega
        case rel => exact ⟨k + 1, by omega, by go_num, hbc⟩
end Go.Proofs.YtpdlapnliiengaaGreat
