/-
  fit: bytes with the sum that fits behind them.
-/
import Derived.Test.YtlmjplpledilhaaGreatFGetsW
import Derived.Test.YtlmjplpledilhaaGreatSum
import Derived.Test.YtlmjplpledilhaaGreatFOwn
import Derived.Test.YtlmjplpledilhaaGreatAppendG
import Derived.Laws.MakeOwn
namespace Go.Proofs.YtlmjplpledilhaaGreat
open Go.RowKit

/-- A slice of bytes, whatever they are. -/
def AnyB (w : World) (v : Value) : Prop := ∃ A n C L, v = .slice A n C ∧ L.length = n ∧ SB w A C L ∧ n ≤ 100000
theorem AnyB.below {w w' : World} {v : Value} (h : AnyB w v) (hb : Below w.heap.size w w') : AnyB w' v := by
  obtain ⟨A, n, C, L, h1, h2, h3, h4⟩ := h
  exact ⟨A, n, C, L, h1, h2, h3.below hb, h4⟩
theorem AnyB.own {w : World} {B n : Nat} {v : Value} {L : List Nat} (h : w.ownsRow B 5 1 v n (lc L)) (hL : ∀ b ∈ L, b < 256) (hn : n ≤ 100000) : AnyB w v := by
  obtain ⟨e, A, C, rfl, hS, _⟩ := SB.own h hL
  exact ⟨A, L.length, C, L, rfl, rfl, hS, by omega⟩
theorem fresh_wp {w W : World} {p : Nat} (hp : p = w.heap.size) (hW : w.alloc (.cells #[.pointer none, .int .i64 0, .bool false] 101) = W) : WP W (.pointer (some ⟨p, 0, none⟩)) (fun k => k = p) (some []) := by
  subst hp
  rw [← hW]
  exact .inr ⟨_, rfl, rfl, by simp, .inl ⟨rfl, heap_alloc_new _ _⟩⟩

set_option maxRecDepth 100000 in
set_option maxHeartbeats 1000000 in
theorem fit_any (a : Option Addr) (n cap : Nat) (L : List Nat) (w : World) (hn : L.length = n) (hS : SB w a cap L) (hsz : n ≤ 20000) :
    Calls Tryz.prog 45 #[.slice a n cap] w fun e w' => ∃ v, e = .returned v ∧ AnyB w' v ∧ Below w.heap.size w w' := by
  obtain ⟨W1, hW1⟩ : ∃ W1, w.alloc (.cells #[.pointer none, .int .i64 0, .bool false] 101) = W1 := ⟨_, rfl⟩
  have hB1 : Below w.heap.size w W1 := by rw [← hW1]; exact below_alloc _ _
  have hs1 : W1.heap.size = w.heap.size + 1 := by rw [← hW1]; simp
  have hwp := fresh_wp rfl hW1
  obtain ⟨W2, hW2⟩ : ∃ W2, W1.alloc (.cells #[.slice a n cap] 26) = W2 := ⟨_, rfl⟩
  have hB2 : Below W1.heap.size W1 W2 := by rw [← hW2]; exact below_alloc _ _
  have hc2 : W2.cell? ⟨W1.heap.size, 0, none⟩ = some (.slice a n cap) := by rw [← hW2]; exact (cell_new_l W1 _ _).1
  have hBw2 : Below w.heap.size w W2 := hB1.trans (hB2.mono hB1.size)
  have hbt : Byt W2 a n (fun i => L.getD i 0) := by have := (hS.below hBw2).b; unfold BL at this; rw [hn] at this; exact this
  have hsum := sum_one W1.heap.size a n cap (fun i => L.getD i 0) W2 (by rw [← hn]; exact hS.l) hS.m hc2 hbt
  obtain ⟨sm, hsm⟩ : ∃ sm, sumN (fun i => L.getD i 0) n = sm := ⟨_, rfl⟩
  have hsl : sm < 4294967296 := by rw [← hsm]; exact sumN_lt _ _
  rw [hsm] at hsum
  have H := hide (And.intro hn (And.intro hS (And.intro hBw2 (And.intro hwp (And.intro hs1 (And.intro hB2 hsl))))))
  clear hn hS hBw2 hwp hs1 hB1 hB2 hbt hc2 hsm
  go_enter Tryz.func45, Tryz.ntmps45
  go_wp2_with fail
  refine hsum.mono ?_
  rintro e w3 ⟨rfl, hB3⟩
  obtain ⟨hn, hS, hBw2, hwp, hs1, hB2, hsl⟩ := H.out
  have hw3 := hwp.kept (Kept.of_below (F := fun _ => False) (hB2.trans (hB3.mono hB2.size))) (fun _ _ h => h)
  have hfx := fixed_wp (.pointer (some ⟨w.heap.size, 0, none⟩)) (fun k => k = w.heap.size) (some []) sm w3 hsl hw3 (fun k hk => by have := hB2.size; have := hB3.size; omega) (by simp [szO])
  have hBw3 := hBw2.trans (hB3.mono hBw2.size)
  have hwz : w.heap.size < w3.heap.size := by have := hB2.size; have := hB3.size; omega
  have H3 := hide hBw3
  clear hsum hB3 hn hS hBw2 hwp hs1 hB2 hw3 hBw3 hsl
  go_wp2_with fail
  refine hfx.mono ?_
  rintro e w4 ⟨rfl, hw4, hk4⟩
  obtain ⟨hn, hS, _, _, _, _, hsl⟩ := H.out
  have hBw4 : Below w.heap.size w w4 := H3.out.trans (hk4.below (B := w.heap.size) (fun k (e : k = w.heap.size) => by omega) H3.out.size)
  obtain ⟨W5, hW5⟩ : ∃ W5, w4.alloc (.cells #[] 5) = W5 := ⟨_, rfl⟩
  have hown : W5.ownsRow w4.heap.size 5 1 (.slice (some ⟨w4.heap.size, 0, none⟩) 0 0) 0 [] := by rw [← hW5]; exact World.ownsRow_made w4 #[] 0 (Nat.le_refl _) (by unfold maxLen; omega) rfl
  have hB5 : Below w4.heap.size w4 W5 := by rw [← hW5]; exact below_alloc _ _
  have hBw5 := hBw4.trans (hB5.mono hBw4.size)
  have hnews := (hS.below hBw5).b.news
  have hone := lc_one L
  have hlen : (lc L).length = n := by rw [lc_length, hn]
  have hnone : a = none → n = 0 ∧ cap = 0 := fun e => by have := hS.n e; have := hS.l; omega
  obtain ⟨i0, hi, hq0, hq1, hq2⟩ := info_parts info_u8
  have hs5 : w4.heap.size ≤ W5.heap.size := hB5.size
  have H4 := hide (And.intro hw4 (And.intro hBw4 (And.intro hB5 (And.intro hk4.size hBw5))))
  clear hfx hw4 hk4 hBw4 hB5 hBw5 hn hS hsl
  have hlt : ∀ b ∈ L, b < 256 := H.out.2.1.b.lt
  go_wp2_with (first
    | (at_builtin; first
      | (refine wpList_append_foot _ rfl (.tmp 11) (.tmp 12) 26 rfl 5 i0 (.int .u8 0) 1 Tryz.underlying26 hi hq0 hq1 hq2 rfl w4.heap.size _ 0 [] rfl hown a n cap (lc L) rfl hlen hnone hnews hone (by unfold maxLen; omega) (by omega) hs5 ?_
         intro B1 D1 w6 hown1 hg1
         simp only [Nat.zero_add, List.nil_append] at hown1 hg1 ⊢
         have hk1 := hg1.kept (F := fun k => w4.heap.size ≤ k) (fun g hg => by cases hg; exact Nat.le_refl _)
         have hk46 : Kept (fun k => w4.heap.size ≤ k) w4 w6 := (Kept.of_below H4.out.2.2.1).trans hk1 (fun _ _ h => h)
         have hw6 := H4.out.1.kept hk46 (fun k h h' => by have := Fnew.lt (w := w3) (w' := w4) (F := fun k => k = w.heap.size) (fun k hk => by have := hwz; omega) H4.out.2.2.2.1 h; omega)
         have hbw := bytes_wp _ _ _ w6 hw6 (by simp [putRaw, szO, fixB_len])
         have hl6 : w4.heap.size ≤ w6.heap.size := hk46.size
         obtain ⟨b1, b2, hb1, hb2⟩ : ∃ b1 b2, szO (putRaw (some []) (fixB sm)) = b1 ∧ hasO (putRaw (some []) (fixB sm)) = b2 := ⟨_, _, rfl, rfl⟩
         have hb12 : b1 = 4 ∧ b2 = fixB sm := by rw [← hb1, ← hb2]; simp [putRaw, szO, hasO, fixB_len]
         obtain ⟨rfl, rfl⟩ := hb12
         rw [hb1, hb2] at hbw
         clear hw6 hb1 hb2)
      | (refine wpList_append_foot _ rfl (.tmp 13) (.tmp 15) 26 rfl 5 i0 (.int .u8 0) 1 Tryz.underlying26 hi hq0 hq1 hq2 rfl w4.heap.size (.slice B1 n D1) n (lc L) rfl hown1' B2 4 D2 (lc (fixB sm)) rfl hlen2 hnone2 hnews2 hone2 (by unfold maxLen; omega) (by omega) hb47 ?_
         intro B3 D3 w8 hown3 hg3))
    | (refine hbw.mono ?_
       rintro e w7 ⟨v7, rfl, hown7, hB7⟩
       obtain ⟨_, B2, D2, rfl, hS7, _⟩ := SB.own hown7 (fixB_lt sm)
       simp only [fixB_len] at hown7 ⊢
       have hown1' := owns_thru hown1 hB7
       have hnews2 := hS7.b.news
       have hone2 := lc_one (fixB sm)
       have hlen2 : (lc (fixB sm)).length = 4 := by rw [lc_length, fixB_len]
       have hnone2 : B2 = none → 4 = 0 ∧ D2 = 0 := fun e => by have h1 := hS7.n e; have h2 := hS7.l; rw [fixB_len] at h2; omega
       have hb47 : w4.heap.size ≤ w7.heap.size := Nat.le_trans hl6 hB7.size))
  go_ret
  rw [← lc_append] at hown3
  have hk3 := hg3.kept (F := fun k => w4.heap.size ≤ k) (fun g hg => (owns_cells hown1' g hg).2.1)
  have hB8 : Below w.heap.size w w8 := H4.out.2.1.trans (((hk46.trans (Kept.of_below (F := fun k => w4.heap.size ≤ k) hB7) (fun _ _ h => h)).trans hk3 (fun _ _ h => h)).below (fun _ h => Nat.le_trans H4.out.2.1.size h) H4.out.2.1.size)
  exact ⟨_, rfl, AnyB.own hown3 (fun b hb => (List.mem_append.1 hb).elim (hlt b) (fixB_lt sm b)) (by omega), hB8⟩
end Go.Proofs.YtlmjplpledilhaaGreat

/-
  FrameEnds' region that makes parts (written by tools/gen-ends.py).
-/
namespace Go.Proofs.YtlmjplpledilhaaGreat
open Go.RowKit
set_option linter.unusedVariables false
set_option linter.unusedSimpArgs false
set_option linter.unnecessarySimpa false

theorem mk_sb (m : Nat) (w : World) (hm : m ≤ 1000) : ∃ w', (Instr.makeSlice 26 (.int .i64 (m : Nat)) (.int .i64 (m : Nat))).run Tryz.prog w = .ok (.slice (some ⟨w.heap.size, 0, none⟩) m m) w' ∧ SB w' (some ⟨w.heap.size, 0, none⟩) m (List.replicate m 0) ∧ Below w.heap.size w w' := by
  obtain ⟨i0, hi, hq0, hq1, hq2⟩ := info_parts info_u8
  have hr := run_make (P := Tryz.prog) w 26 5 i0 (.int .u8 0) Tryz.underlying26 hi hq0 .i64 .i64 (m : Nat) (m : Nat) (by omega) (by omega) (by rw [hq2]; omega) (by omega)
  rw [hq1] at hr
  simp only [Int.toNat_natCast, Nat.mul_one] at hr
  have hb := made_blk w.heap.size m w rfl
  refine ⟨_, hr, ⟨by simp, by omega, (fun e => by cases e), .inr ⟨_, _, rfl⟩, BL.mk (by intro b hb; rw [List.eq_of_mem_replicate hb]; omega) (.inr ⟨_, 0, rfl, fun i hi => ?_⟩)⟩, below_alloc _ _⟩
  rw [List.length_replicate] at hi
  have := hb.cell (i := i) hi
  rw [Nat.zero_add]
  rw [show (List.replicate m 0).getD i 0 = 0 by rw [List.getD_eq_getElem?_getD]; simp [List.getElem?_replicate, hi]]
  exact this
theorem sb123 (w : World) : SB (w.alloc (.cells #[.int .u8 1, .int .u8 2, .int .u8 3] 5)) (some ⟨w.heap.size, 0, none⟩) 3 [1, 2, 3] :=
  ⟨by simp, by omega, (fun e => by cases e), .inr ⟨_, _, rfl⟩, BL.mk (by intro b hb; simp at hb; omega) (.inr ⟨_, 0, rfl, fun i hi => by
    rw [Nat.zero_add, cell_of_row _ _ _ _ _ _ (heap_alloc_new _ _)]
    match i, hi with
    | 0, _ => rfl
    | 1, _ => rfl
    | 2, _ => rfl⟩)⟩
/-- Three parts in a row. -/
def P3 (w : World) (g : Nat) (P : Nat → Prt) : Prop := Prts w (some ⟨g, 0, none⟩) 3 P ∧ ∀ i, i < 3 → (P i).B.length ≤ 200
theorem P3.below {w w' : World} {g : Nat} {P : Nat → Prt} (h : P3 w g P) (hb : Below w.heap.size w w') : P3 w' g P := ⟨h.1.below hb, h.2⟩
def pr3 (n r3 r4 m g1 g2 g3 : Nat) : Nat → Prt
  | 0 => ⟨n, List.replicate r3 0, some ⟨g1, 0, none⟩, r3⟩
  | 1 => ⟨0, [1, 2, 3].take r4, some ⟨g2, 0, none⟩, 3⟩
  | _ => ⟨255, List.replicate m 0, some ⟨g3, 0, none⟩, m⟩
theorem three_p (n r3 r4 m g1 g2 g3 : Nat) (w : World) (hn : n < 60) (hr : r3 ≤ 3 ∧ r4 ≤ 3) (hm : m ≤ 200) (h1 : SB w (some ⟨g1, 0, none⟩) r3 (List.replicate r3 0)) (h2 : SB w (some ⟨g2, 0, none⟩) 3 [1, 2, 3]) (h3 : SB w (some ⟨g3, 0, none⟩) m (List.replicate m 0)) :
    P3 (w.alloc (.cells #[.int .u8 (n : Nat), .slice (some ⟨g1, 0, none⟩) r3 r3, .int .u8 0, .slice (some ⟨g2, 0, none⟩) r4 3, .int .u8 255, .slice (some ⟨g3, 0, none⟩) m m] 45)) w.heap.size (pr3 n r3 r4 m g1 g2 g3) := by
  have hc := fun i => cell_of_row _ w.heap.size i _ _ _ (heap_alloc_new w (.cells #[.int .u8 (n : Nat), .slice (some ⟨g1, 0, none⟩) r3 r3, .int .u8 0, .slice (some ⟨g2, 0, none⟩) r4 3, .int .u8 255, .slice (some ⟨g3, 0, none⟩) m m] 45))
  have hb := below_alloc w (.cells #[.int .u8 (n : Nat), .slice (some ⟨g1, 0, none⟩) r3 r3, .int .u8 0, .slice (some ⟨g2, 0, none⟩) r4 3, .int .u8 255, .slice (some ⟨g3, 0, none⟩) m m] 45)
  have ht : ([1, 2, 3].take r4 : List Nat).length = r4 := by rw [List.length_take]; simp; omega
  refine ⟨.inr ⟨w.heap.size, 0, rfl, fun i hi => ?_⟩, fun i hi => ?_⟩
  · match i, hi with
    | 0, _ => exact ⟨⟨hc 0, by have := hc 1; simpa [pr3] using this⟩, ⟨by show n < 256; omega, by simp [pr3], by show r3 ≤ _; omega, (fun e => by cases e), .inr ⟨_, _, rfl⟩, (h1.below hb).b⟩⟩
    | 1, _ => exact ⟨⟨hc 2, by have := hc 3; simpa [pr3, ht] using this⟩, ⟨by show 0 < 256; omega, by show _ ≤ 3; rw [show (pr3 n r3 r4 m g1 g2 g3 1).B = [1, 2, 3].take r4 from rfl, ht]; omega, by show 3 ≤ _; omega, (fun e => by cases e), .inr ⟨_, _, rfl⟩, (h2.below hb).b.take r4⟩⟩
    | 2, _ => exact ⟨⟨hc 4, by have := hc 5; simpa [pr3] using this⟩, ⟨by show 255 < 256; omega, by simp [pr3], by show m ≤ _; omega, (fun e => by cases e), .inr ⟨_, _, rfl⟩, (h3.below hb).b⟩⟩
  · match i, hi with
    | 0, _ => show (List.replicate r3 0).length ≤ _; rw [List.length_replicate]; omega
    | 1, _ => show ([1, 2, 3].take r4 : List Nat).length ≤ _; rw [ht]; omega
    | 2, _ => show (List.replicate m 0).length ≤ _; rw [List.length_replicate]; omega
abbrev ends4_mem (s : Nat) : Prop := s ∈ [13, 14, 15, 16, 17, 18, 19, 20, 21, 22, 23, 24, 25, 26, 27, 28, 29, 30, 31, 32, 33, 2]
theorem ends4_list (s : Nat) (h : ends4_mem s) : s ∈ [13, 14, 15, 16, 17, 18, 19, 20, 21, 22, 23, 24, 25, 26, 27, 28, 29, 30, 31, 32, 33, 2] := h
def ends4_ops : Array Oper :=
  #[{ dst := some 13, op := Op.move (Operand.tmp 1), type := 3, pos := "law.go:51", after := #[], guard := none },
    { dst := some 14, op := Op.convert 3 5 (Operand.tmp 13), type := 5, pos := "law.go:51", after := #[{ on := 0, ground := Ground.data }], guard := none },
    { dst := some 15, op := Op.move (Operand.tmp 1), type := 3, pos := "law.go:51", after := #[], guard := none },
    { dst := some 16, op := Op.binOp BinOp.rem 3 (Operand.tmp 15) (Operand.const (Value.int IntKind.i64 3)) 3, type := 3, pos := "law.go:51", after := #[{ on := 2, ground := Ground.data }], guard := none },
    { dst := some 17, op := Op.makeSlice 26 (Operand.tmp 16) (Operand.tmp 16), type := 26, pos := "law.go:51", after := #[{ on := 3, ground := Ground.data }, { on := 3, ground := Ground.data }], guard := none },
    { dst := some 18, op := Op.build 45 #[(0, Operand.tmp 14), (1, Operand.tmp 17)], type := 45, pos := "law.go:51", after := #[{ on := 1, ground := Ground.data }, { on := 4, ground := Ground.data }], guard := none },
    { dst := some 19, op := Op.buildSlice 26 3 #[(0, Operand.const (Value.int IntKind.u8 1)), (1, Operand.const (Value.int IntKind.u8 2)), (2, Operand.const (Value.int IntKind.u8 3))], type := 26, pos := "law.go:51", after := #[], guard := none },
    { dst := some 20, op := Op.move (Operand.tmp 1), type := 3, pos := "law.go:51", after := #[], guard := none },
    { dst := some 21, op := Op.binOp BinOp.rem 3 (Operand.tmp 20) (Operand.const (Value.int IntKind.i64 4)) 3, type := 3, pos := "law.go:51", after := #[{ on := 7, ground := Ground.data }], guard := none },
    { dst := some 22, op := Op.slice 26 (Operand.tmp 19) none (some (Operand.tmp 21)) none, type := 26, pos := "law.go:51", after := #[{ on := 6, ground := Ground.data }, { on := 8, ground := Ground.data }], guard := none },
    { dst := some 23, op := Op.build 45 #[(1, Operand.tmp 22)], type := 45, pos := "law.go:51", after := #[{ on := 9, ground := Ground.data }], guard := none },
    { dst := some 24, op := Op.move (Operand.tmp 1), type := 3, pos := "law.go:51", after := #[], guard := none },
    { dst := some 25, op := Op.binOp BinOp.quo 3 (Operand.tmp 24) (Operand.const (Value.int IntKind.i64 4)) 3, type := 3, pos := "law.go:51", after := #[{ on := 11, ground := Ground.data }], guard := none },
    { dst := some 26, op := Op.binOp BinOp.add 3 (Operand.const (Value.int IntKind.i64 120)) (Operand.tmp 25) 3, type := 3, pos := "law.go:51", after := #[{ on := 12, ground := Ground.data }], guard := none },
    { dst := some 27, op := Op.makeSlice 26 (Operand.tmp 26) (Operand.tmp 26), type := 26, pos := "law.go:51", after := #[{ on := 13, ground := Ground.data }, { on := 13, ground := Ground.data }], guard := none },
    { dst := some 28, op := Op.build 45 #[(0, Operand.const (Value.int IntKind.u8 255)), (1, Operand.tmp 27)], type := 45, pos := "law.go:51", after := #[{ on := 14, ground := Ground.data }], guard := none },
    { dst := some 29, op := Op.buildSlice 22 3 #[(0, Operand.tmp 18), (1, Operand.tmp 23), (2, Operand.tmp 28)], type := 22, pos := "law.go:51", after := #[{ on := 5, ground := Ground.data }, { on := 10, ground := Ground.data }, { on := 15, ground := Ground.data }], guard := none },
    { dst := some 30, op := Op.move (Operand.tmp 1), type := 3, pos := "law.go:51", after := #[], guard := none },
    { dst := some 31, op := Op.binOp BinOp.quo 3 (Operand.tmp 30) (Operand.const (Value.int IntKind.i64 12)) 3, type := 3, pos := "law.go:51", after := #[{ on := 17, ground := Ground.data }], guard := none },
    { dst := some 32, op := Op.binOp BinOp.rem 3 (Operand.tmp 31) (Operand.const (Value.int IntKind.i64 4)) 3, type := 3, pos := "law.go:51", after := #[{ on := 18, ground := Ground.data }], guard := none },
    { dst := some 33, op := Op.slice 22 (Operand.tmp 29) none (some (Operand.tmp 32)) none, type := 22, pos := "law.go:51", after := #[{ on := 16, ground := Ground.data }, { on := 19, ground := Ground.data }], guard := none },
    { dst := some 2, op := Op.assign (Operand.tmp 33), type := 22, pos := "law.go:51", after := #[{ on := 20, ground := Ground.data }, { on := 0, ground := Ground.phase }, { on := 1, ground := Ground.phase }, { on := 2, ground := Ground.phase }, { on := 3, ground := Ground.phase }, { on := 4, ground := Ground.phase }, { on := 5, ground := Ground.phase }, { on := 6, ground := Ground.phase }, { on := 7, ground := Ground.phase }, { on := 8, ground := Ground.phase }, { on := 9, ground := Ground.phase }, { on := 10, ground := Ground.phase }, { on := 11, ground := Ground.phase }, { on := 12, ground := Ground.phase }, { on := 13, ground := Ground.phase }, { on := 14, ground := Ground.phase }, { on := 15, ground := Ground.phase }, { on := 16, ground := Ground.phase }, { on := 17, ground := Ground.phase }, { on := 18, ground := Ground.phase }, { on := 19, ground := Ground.phase }, { on := 20, ground := Ground.phase }], guard := none }]
def ends4_slot : Nat → Nat
  | 0 => 13
  | 1 => 14
  | 2 => 15
  | 3 => 16
  | 4 => 17
  | 5 => 18
  | 6 => 19
  | 7 => 20
  | 8 => 21
  | 9 => 22
  | 10 => 23
  | 11 => 24
  | 12 => 25
  | 13 => 26
  | 14 => 27
  | 15 => 28
  | 16 => 29
  | 17 => 30
  | 18 => 31
  | 19 => 32
  | 20 => 33
  | 21 => 2
  | j + 22 => 1097 + j
set_option maxRecDepth 100000 in
theorem ends4_inj (i j : Nat) (hi : i < 22) (hj : j < 22) (h : ends4_slot i = ends4_slot j) : i = j := by
  have key : ∀ i j : Fin 22, ends4_slot i.val = ends4_slot j.val → i = j := by decide
  exact Fin.mk.inj (key ⟨i, hi⟩ ⟨j, hj⟩ h)
def endsR_val (n r3 r4 q4 m q12 k : Nat) : Nat → Value → World → Prop
  | 0, v, w => v = .int .i64 (n : Nat)
  | 1, v, w => v = .int .u8 (n : Nat)
  | 2, v, w => v = .int .i64 (n : Nat)
  | 3, v, w => v = .int .i64 (r3 : Nat)
  | 4, v, w => ∃ g, v = .slice (some ⟨g, 0, none⟩) r3 r3 ∧ SB w (some ⟨g, 0, none⟩) r3 (List.replicate r3 0)
  | 5, v, w => ∃ g, v = .agg #[.int .u8 (n : Nat), .slice (some ⟨g, 0, none⟩) r3 r3] ∧ SB w (some ⟨g, 0, none⟩) r3 (List.replicate r3 0)
  | 6, v, w => ∃ g, v = .slice (some ⟨g, 0, none⟩) 3 3 ∧ SB w (some ⟨g, 0, none⟩) 3 [1, 2, 3]
  | 7, v, w => v = .int .i64 (n : Nat)
  | 8, v, w => v = .int .i64 (r4 : Nat)
  | 9, v, w => ∃ g, v = .slice (some ⟨g, 0, none⟩) r4 3 ∧ SB w (some ⟨g, 0, none⟩) 3 [1, 2, 3]
  | 10, v, w => ∃ g, v = .agg #[.int .u8 0, .slice (some ⟨g, 0, none⟩) r4 3] ∧ SB w (some ⟨g, 0, none⟩) 3 [1, 2, 3]
  | 11, v, w => v = .int .i64 (n : Nat)
  | 12, v, w => v = .int .i64 (q4 : Nat)
  | 13, v, w => v = .int .i64 (m : Nat)
  | 14, v, w => ∃ g, v = .slice (some ⟨g, 0, none⟩) m m ∧ SB w (some ⟨g, 0, none⟩) m (List.replicate m 0)
  | 15, v, w => ∃ g, v = .agg #[.int .u8 255, .slice (some ⟨g, 0, none⟩) m m] ∧ SB w (some ⟨g, 0, none⟩) m (List.replicate m 0)
  | 16, v, w => ∃ g P, v = .slice (some ⟨g, 0, none⟩) 3 3 ∧ P3 w g P
  | 17, v, w => v = .int .i64 (n : Nat)
  | 18, v, w => v = .int .i64 (q12 : Nat)
  | 19, v, w => v = .int .i64 (k : Nat)
  | 20, v, w => ∃ g P, v = .slice (some ⟨g, 0, none⟩) k 3 ∧ P3 w g P
  | 21, v, w => ∃ g P, v = .slice (some ⟨g, 0, none⟩) k 3 ∧ P3 w g P
  | _, _, _ => True
theorem endsR_below (n r3 r4 q4 m q12 k : Nat) (w w' : World) (hb : Below w.heap.size w w') : ∀ j v, endsR_val n r3 r4 q4 m q12 k j v w → endsR_val n r3 r4 q4 m q12 k j v w' := by
  intro j v h
  match j, h with
  | 0, h => exact h
  | 1, h => exact h
  | 2, h => exact h
  | 3, h => exact h
  | 4, h => obtain ⟨g, h1, h2⟩ := h; exact ⟨g, h1, h2.below hb⟩
  | 5, h => obtain ⟨g, h1, h2⟩ := h; exact ⟨g, h1, h2.below hb⟩
  | 6, h => obtain ⟨g, h1, h2⟩ := h; exact ⟨g, h1, h2.below hb⟩
  | 7, h => exact h
  | 8, h => exact h
  | 9, h => obtain ⟨g, h1, h2⟩ := h; exact ⟨g, h1, h2.below hb⟩
  | 10, h => obtain ⟨g, h1, h2⟩ := h; exact ⟨g, h1, h2.below hb⟩
  | 11, h => exact h
  | 12, h => exact h
  | 13, h => exact h
  | 14, h => obtain ⟨g, h1, h2⟩ := h; exact ⟨g, h1, h2.below hb⟩
  | 15, h => obtain ⟨g, h1, h2⟩ := h; exact ⟨g, h1, h2.below hb⟩
  | 16, h => obtain ⟨g, P, h1, h2⟩ := h; exact ⟨g, P, h1, h2.below hb⟩
  | 17, h => exact h
  | 18, h => exact h
  | 19, h => exact h
  | 20, h => obtain ⟨g, P, h1, h2⟩ := h; exact ⟨g, P, h1, h2.below hb⟩
  | 21, h => obtain ⟨g, P, h1, h2⟩ := h; exact ⟨g, P, h1, h2.below hb⟩
  | _ + 22, h => exact h

set_option maxRecDepth 100000 in
set_option maxHeartbeats 2000000 in
theorem endsR (n r3 r4 q4 m q12 k : Nat) (Q : Exit → Act → World → Prop) (t0 : Array Value) (w0 : World) (ht : t0.size = 97)
    (hs1 : t0.getD 1 undef = .int .i64 (n : Nat))
    (hh : Hid (n < 60 ∧ n % 3 = r3 ∧ n % 4 = r4 ∧ n / 4 = q4 ∧ 120 + q4 = m ∧ n / 12 = q12 ∧ q12 % 4 = k))
    (hQ : ∀ (vs : Nat → Value) (w : World), Below w0.heap.size w0 w → (∃ g P, vs 2 = .slice (some ⟨g, 0, none⟩) k 3 ∧ P3 w g P) → Q .normal { tmps := [13, 14, 15, 16, 17, 18, 19, 20, 21, 22, 23, 24, 25, 26, 27, 28, 29, 30, 31, 32, 33, 2].foldl (fun y d => y.setIfInBounds d (vs d)) t0, defers := [] } w) :
    (Code.region 4 ends4_ops true).wp Tryz.prog Q { tmps := t0, defers := [] } w0 := by
  have hsl : ∀ j, j < 22 → ends4_mem (ends4_slot j) := by
    intro j hj
    match j, hj with
    | 0, _ => exact (by decide : ends4_mem 13)
    | 1, _ => exact (by decide : ends4_mem 14)
    | 2, _ => exact (by decide : ends4_mem 15)
    | 3, _ => exact (by decide : ends4_mem 16)
    | 4, _ => exact (by decide : ends4_mem 17)
    | 5, _ => exact (by decide : ends4_mem 18)
    | 6, _ => exact (by decide : ends4_mem 19)
    | 7, _ => exact (by decide : ends4_mem 20)
    | 8, _ => exact (by decide : ends4_mem 21)
    | 9, _ => exact (by decide : ends4_mem 22)
    | 10, _ => exact (by decide : ends4_mem 23)
    | 11, _ => exact (by decide : ends4_mem 24)
    | 12, _ => exact (by decide : ends4_mem 25)
    | 13, _ => exact (by decide : ends4_mem 26)
    | 14, _ => exact (by decide : ends4_mem 27)
    | 15, _ => exact (by decide : ends4_mem 28)
    | 16, _ => exact (by decide : ends4_mem 29)
    | 17, _ => exact (by decide : ends4_mem 30)
    | 18, _ => exact (by decide : ends4_mem 31)
    | 19, _ => exact (by decide : ends4_mem 32)
    | 20, _ => exact (by decide : ends4_mem 33)
    | 21, _ => exact (by decide : ends4_mem 2)
    | k + 22, hj => omega
  refine wp_region_inv (by kernel_rfl) ends4_slot (endsR_val n r3 r4 q4 m q12 k) t0 w0 ?_ ?_ ?_ (endsR_below n r3 r4 q4 m q12 k) ?_ ?_
  · intro j o ho
    have hj : j < 22 := (Array.getElem?_eq_some_iff.1 ho).1
    rw [ht]
    match j, ho with
    | 0, ho => cases ho; exact ⟨rfl, by decide⟩
    | 1, ho => cases ho; exact ⟨rfl, by decide⟩
    | 2, ho => cases ho; exact ⟨rfl, by decide⟩
    | 3, ho => cases ho; exact ⟨rfl, by decide⟩
    | 4, ho => cases ho; exact ⟨rfl, by decide⟩
    | 5, ho => cases ho; exact ⟨rfl, by decide⟩
    | 6, ho => cases ho; exact ⟨rfl, by decide⟩
    | 7, ho => cases ho; exact ⟨rfl, by decide⟩
    | 8, ho => cases ho; exact ⟨rfl, by decide⟩
    | 9, ho => cases ho; exact ⟨rfl, by decide⟩
    | 10, ho => cases ho; exact ⟨rfl, by decide⟩
    | 11, ho => cases ho; exact ⟨rfl, by decide⟩
    | 12, ho => cases ho; exact ⟨rfl, by decide⟩
    | 13, ho => cases ho; exact ⟨rfl, by decide⟩
    | 14, ho => cases ho; exact ⟨rfl, by decide⟩
    | 15, ho => cases ho; exact ⟨rfl, by decide⟩
    | 16, ho => cases ho; exact ⟨rfl, by decide⟩
    | 17, ho => cases ho; exact ⟨rfl, by decide⟩
    | 18, ho => cases ho; exact ⟨rfl, by decide⟩
    | 19, ho => cases ho; exact ⟨rfl, by decide⟩
    | 20, ho => cases ho; exact ⟨rfl, by decide⟩
    | 21, ho => cases ho; exact ⟨rfl, by decide⟩
    | k + 22, _ => omega
  · intro i j hi hj h
    exact ends4_inj i j hi hj h
  · intro j o ho
    have hj : j < 22 := (Array.getElem?_eq_some_iff.1 ho).1
    match j, ho with
    | 0, ho => cases ho; decide
    | 1, ho => cases ho; decide
    | 2, ho => cases ho; decide
    | 3, ho => cases ho; decide
    | 4, ho => cases ho; decide
    | 5, ho => cases ho; decide
    | 6, ho => cases ho; decide
    | 7, ho => cases ho; decide
    | 8, ho => cases ho; decide
    | 9, ho => cases ho; decide
    | 10, ho => cases ho; decide
    | 11, ho => cases ho; decide
    | 12, ho => cases ho; decide
    | 13, ho => cases ho; decide
    | 14, ho => cases ho; decide
    | 15, ho => cases ho; decide
    | 16, ho => cases ho; decide
    | 17, ho => cases ho; decide
    | 18, ho => cases ho; decide
    | 19, ho => cases ho; decide
    | 20, ho => cases ho; decide
    | 21, ho => cases ho; decide
    | k + 22, _ => omega
  · intro j o ho x w hB hdef hsz hs hdeps
    have hs' : ∀ s, ¬ ends4_mem s → x.tmps.getD s undef = t0.getD s undef := fun s hn => hs s (fun j hj e => hn (by rw [e]; exact hsl j hj))
    have u1 := (hs' 1 (by decide)).trans hs1
    have hj : j < 22 := (Array.getElem?_eq_some_iff.1 ho).1
    clear hs hs' hsl hsz ht hQ hs1
    simp only [Array.getD_eq_getD_getElem?] at u1
    match j, ho with
    | 0, ho =>
      have e : o = { dst := some 13, op := Op.move (Operand.tmp 1), type := 3, pos := "law.go:51", after := #[], guard := none } := (Option.some.inj ho).symm
      subst e
      clear hdeps
      refine wpOp_step ho (fun K hK => ?_)
      clear ho
      go_simp
      exact hK _ _ ⟨_, act_putD x hdef _ _, rfl, Below.refl _ _⟩
    | 1, ho =>
      have e : o = { dst := some 14, op := Op.convert 3 5 (Operand.tmp 13), type := 5, pos := "law.go:51", after := #[{ on := 0, ground := Ground.data }], guard := none } := (Option.some.inj ho).symm
      subst e
      have q0 : x.tmps.getD 13 undef = .int .i64 (n : Nat) := hdeps { on := 0, ground := Ground.data } (by simp) rfl
      simp only [Array.getD_eq_getD_getElem?] at q0
      clear hdeps
      have f0 : (0 : Int) ≤ (n : Int) := by have := hh.out; omega
      refine wpOp_step ho (fun K hK => ?_)
      clear ho
      go_simp
      rw [show IntKind.u8.wrap (n : Int) = (n : Int) from IntWalk.u8_in _ (by have := hh.out; omega)]
      exact hK _ _ ⟨_, act_putD x hdef _ _, rfl, Below.refl _ _⟩
    | 2, ho =>
      have e : o = { dst := some 15, op := Op.move (Operand.tmp 1), type := 3, pos := "law.go:51", after := #[], guard := none } := (Option.some.inj ho).symm
      subst e
      clear hdeps
      refine wpOp_step ho (fun K hK => ?_)
      clear ho
      go_simp
      exact hK _ _ ⟨_, act_putD x hdef _ _, rfl, Below.refl _ _⟩
    | 3, ho =>
      have e : o = { dst := some 16, op := Op.binOp BinOp.rem 3 (Operand.tmp 15) (Operand.const (Value.int IntKind.i64 3)) 3, type := 3, pos := "law.go:51", after := #[{ on := 2, ground := Ground.data }], guard := none } := (Option.some.inj ho).symm
      subst e
      have q2 : x.tmps.getD 15 undef = .int .i64 (n : Nat) := hdeps { on := 2, ground := Ground.data } (by simp) rfl
      simp only [Array.getD_eq_getD_getElem?] at q2
      clear hdeps
      have f0 : Int.tmod (n : Int) 3 = (r3 : Int) := by rw [Int.tmod_eq_emod_of_nonneg (by omega)]; have := hh.out; omega
      refine wpOp_step ho (fun K hK => ?_)
      clear ho
      go_simp
      exact hK _ _ ⟨_, act_putD x hdef _ _, rfl, Below.refl _ _⟩
    | 4, ho =>
      have e : o = { dst := some 17, op := Op.makeSlice 26 (Operand.tmp 16) (Operand.tmp 16), type := 26, pos := "law.go:51", after := #[{ on := 3, ground := Ground.data }, { on := 3, ground := Ground.data }], guard := none } := (Option.some.inj ho).symm
      subst e
      have q3 : x.tmps.getD 16 undef = .int .i64 (r3 : Nat) := hdeps { on := 3, ground := Ground.data } (by simp) rfl
      simp only [Array.getD_eq_getD_getElem?] at q3
      clear hdeps
      obtain ⟨w', hmk, hsb, hb⟩ := mk_sb r3 w (by have := hh.out; omega)
      refine wpOp_step ho (fun K hK => ?_)
      clear ho
      go_simp
      exact hK _ _ ⟨_, act_putD x hdef _ _, ⟨_, rfl, hsb⟩, hb⟩
    | 5, ho =>
      have e : o = { dst := some 18, op := Op.build 45 #[(0, Operand.tmp 14), (1, Operand.tmp 17)], type := 45, pos := "law.go:51", after := #[{ on := 1, ground := Ground.data }, { on := 4, ground := Ground.data }], guard := none } := (Option.some.inj ho).symm
      subst e
      have q1 : x.tmps.getD 14 undef = .int .u8 (n : Nat) := hdeps { on := 1, ground := Ground.data } (by simp) rfl
      obtain ⟨g4, q4, p4⟩ := hdeps { on := 4, ground := Ground.data } (by simp) rfl
      have q4 : x.tmps.getD 17 undef = .slice (some ⟨g4, 0, none⟩) r3 r3 := q4
      simp only [Array.getD_eq_getD_getElem?] at q1 q4
      clear hdeps
      refine wpOp_step ho (fun K hK => ?_)
      clear ho
      go_simp
      exact hK _ _ ⟨_, act_putD x hdef _ _, ⟨_, rfl, p4⟩, Below.refl _ _⟩
    | 6, ho =>
      have e : o = { dst := some 19, op := Op.buildSlice 26 3 #[(0, Operand.const (Value.int IntKind.u8 1)), (1, Operand.const (Value.int IntKind.u8 2)), (2, Operand.const (Value.int IntKind.u8 3))], type := 26, pos := "law.go:51", after := #[], guard := none } := (Option.some.inj ho).symm
      subst e
      clear hdeps
      refine wpOp_step ho (fun K hK => ?_)
      clear ho
      go_simp
      exact hK _ _ ⟨_, act_putD x hdef _ _, ⟨_, rfl, sb123 w⟩, below_alloc _ _⟩
    | 7, ho =>
      have e : o = { dst := some 20, op := Op.move (Operand.tmp 1), type := 3, pos := "law.go:51", after := #[], guard := none } := (Option.some.inj ho).symm
      subst e
      clear hdeps
      refine wpOp_step ho (fun K hK => ?_)
      clear ho
      go_simp
      exact hK _ _ ⟨_, act_putD x hdef _ _, rfl, Below.refl _ _⟩
    | 8, ho =>
      have e : o = { dst := some 21, op := Op.binOp BinOp.rem 3 (Operand.tmp 20) (Operand.const (Value.int IntKind.i64 4)) 3, type := 3, pos := "law.go:51", after := #[{ on := 7, ground := Ground.data }], guard := none } := (Option.some.inj ho).symm
      subst e
      have q7 : x.tmps.getD 20 undef = .int .i64 (n : Nat) := hdeps { on := 7, ground := Ground.data } (by simp) rfl
      simp only [Array.getD_eq_getD_getElem?] at q7
      clear hdeps
      have f0 : Int.tmod (n : Int) 4 = (r4 : Int) := by rw [Int.tmod_eq_emod_of_nonneg (by omega)]; have := hh.out; omega
      refine wpOp_step ho (fun K hK => ?_)
      clear ho
      go_simp
      exact hK _ _ ⟨_, act_putD x hdef _ _, rfl, Below.refl _ _⟩
    | 9, ho =>
      have e : o = { dst := some 22, op := Op.slice 26 (Operand.tmp 19) none (some (Operand.tmp 21)) none, type := 26, pos := "law.go:51", after := #[{ on := 6, ground := Ground.data }, { on := 8, ground := Ground.data }], guard := none } := (Option.some.inj ho).symm
      subst e
      obtain ⟨g6, q6, p6⟩ := hdeps { on := 6, ground := Ground.data } (by simp) rfl
      have q6 : x.tmps.getD 19 undef = .slice (some ⟨g6, 0, none⟩) 3 3 := q6
      have q8 : x.tmps.getD 21 undef = .int .i64 (r4 : Nat) := hdeps { on := 8, ground := Ground.data } (by simp) rfl
      simp only [Array.getD_eq_getD_getElem?] at q6 q8
      clear hdeps
      have f0 : (0 : Int) ≤ (r4 : Int) := by have := hh.out; omega
      have f1 : (r4 : Int) ≤ 3 := by have := hh.out; omega
      refine wpOp_step ho (fun K hK => ?_)
      clear ho
      go_simp
      exact hK _ _ ⟨_, act_putD x hdef _ _, ⟨_, rfl, p6⟩, Below.refl _ _⟩
    | 10, ho =>
      have e : o = { dst := some 23, op := Op.build 45 #[(1, Operand.tmp 22)], type := 45, pos := "law.go:51", after := #[{ on := 9, ground := Ground.data }], guard := none } := (Option.some.inj ho).symm
      subst e
      obtain ⟨g9, q9, p9⟩ := hdeps { on := 9, ground := Ground.data } (by simp) rfl
      have q9 : x.tmps.getD 22 undef = .slice (some ⟨g9, 0, none⟩) r4 3 := q9
      simp only [Array.getD_eq_getD_getElem?] at q9
      clear hdeps
      refine wpOp_step ho (fun K hK => ?_)
      clear ho
      go_simp
      exact hK _ _ ⟨_, act_putD x hdef _ _, ⟨_, rfl, p9⟩, Below.refl _ _⟩
    | 11, ho =>
      have e : o = { dst := some 24, op := Op.move (Operand.tmp 1), type := 3, pos := "law.go:51", after := #[], guard := none } := (Option.some.inj ho).symm
      subst e
      clear hdeps
      refine wpOp_step ho (fun K hK => ?_)
      clear ho
      go_simp
      exact hK _ _ ⟨_, act_putD x hdef _ _, rfl, Below.refl _ _⟩
    | 12, ho =>
      have e : o = { dst := some 25, op := Op.binOp BinOp.quo 3 (Operand.tmp 24) (Operand.const (Value.int IntKind.i64 4)) 3, type := 3, pos := "law.go:51", after := #[{ on := 11, ground := Ground.data }], guard := none } := (Option.some.inj ho).symm
      subst e
      have q11 : x.tmps.getD 24 undef = .int .i64 (n : Nat) := hdeps { on := 11, ground := Ground.data } (by simp) rfl
      simp only [Array.getD_eq_getD_getElem?] at q11
      clear hdeps
      have f0 : (n : Int) / 4 = (q4 : Int) := by have := hh.out; omega
      have f1 : (0 : Int) ≤ (n : Int) := by have := hh.out; omega
      refine wpOp_step ho (fun K hK => ?_)
      clear ho
      go_simp
      rw [show IntKind.i64.wrap (q4 : Int) = (q4 : Int) from IntWalk.i64_in _ (by have := hh.out; omega)]
      exact hK _ _ ⟨_, act_putD x hdef _ _, rfl, Below.refl _ _⟩
    | 13, ho =>
      have e : o = { dst := some 26, op := Op.binOp BinOp.add 3 (Operand.const (Value.int IntKind.i64 120)) (Operand.tmp 25) 3, type := 3, pos := "law.go:51", after := #[{ on := 12, ground := Ground.data }], guard := none } := (Option.some.inj ho).symm
      subst e
      have q12 : x.tmps.getD 25 undef = .int .i64 (q4 : Nat) := hdeps { on := 12, ground := Ground.data } (by simp) rfl
      simp only [Array.getD_eq_getD_getElem?] at q12
      clear hdeps
      have f0 : (120 : Int) + (q4 : Int) = (m : Int) := by have := hh.out; omega
      refine wpOp_step ho (fun K hK => ?_)
      clear ho
      go_simp
      rw [show IntKind.i64.wrap (m : Int) = (m : Int) from IntWalk.i64_in _ (by have := hh.out; omega)]
      exact hK _ _ ⟨_, act_putD x hdef _ _, rfl, Below.refl _ _⟩
    | 14, ho =>
      have e : o = { dst := some 27, op := Op.makeSlice 26 (Operand.tmp 26) (Operand.tmp 26), type := 26, pos := "law.go:51", after := #[{ on := 13, ground := Ground.data }, { on := 13, ground := Ground.data }], guard := none } := (Option.some.inj ho).symm
      subst e
      have q13 : x.tmps.getD 26 undef = .int .i64 (m : Nat) := hdeps { on := 13, ground := Ground.data } (by simp) rfl
      simp only [Array.getD_eq_getD_getElem?] at q13
      clear hdeps
      obtain ⟨w', hmk, hsb, hb⟩ := mk_sb m w (by have := hh.out; omega)
      refine wpOp_step ho (fun K hK => ?_)
      clear ho
      go_simp
      exact hK _ _ ⟨_, act_putD x hdef _ _, ⟨_, rfl, hsb⟩, hb⟩
    | 15, ho =>
      have e : o = { dst := some 28, op := Op.build 45 #[(0, Operand.const (Value.int IntKind.u8 255)), (1, Operand.tmp 27)], type := 45, pos := "law.go:51", after := #[{ on := 14, ground := Ground.data }], guard := none } := (Option.some.inj ho).symm
      subst e
      obtain ⟨g14, q14, p14⟩ := hdeps { on := 14, ground := Ground.data } (by simp) rfl
      have q14 : x.tmps.getD 27 undef = .slice (some ⟨g14, 0, none⟩) m m := q14
      simp only [Array.getD_eq_getD_getElem?] at q14
      clear hdeps
      refine wpOp_step ho (fun K hK => ?_)
      clear ho
      go_simp
      exact hK _ _ ⟨_, act_putD x hdef _ _, ⟨_, rfl, p14⟩, Below.refl _ _⟩
    | 16, ho =>
      have e : o = { dst := some 29, op := Op.buildSlice 22 3 #[(0, Operand.tmp 18), (1, Operand.tmp 23), (2, Operand.tmp 28)], type := 22, pos := "law.go:51", after := #[{ on := 5, ground := Ground.data }, { on := 10, ground := Ground.data }, { on := 15, ground := Ground.data }], guard := none } := (Option.some.inj ho).symm
      subst e
      obtain ⟨g5, q5, p5⟩ := hdeps { on := 5, ground := Ground.data } (by simp) rfl
      have q5 : x.tmps.getD 18 undef = .agg #[.int .u8 (n : Nat), .slice (some ⟨g5, 0, none⟩) r3 r3] := q5
      obtain ⟨g10, q10, p10⟩ := hdeps { on := 10, ground := Ground.data } (by simp) rfl
      have q10 : x.tmps.getD 23 undef = .agg #[.int .u8 0, .slice (some ⟨g10, 0, none⟩) r4 3] := q10
      obtain ⟨g15, q15, p15⟩ := hdeps { on := 15, ground := Ground.data } (by simp) rfl
      have q15 : x.tmps.getD 28 undef = .agg #[.int .u8 255, .slice (some ⟨g15, 0, none⟩) m m] := q15
      simp only [Array.getD_eq_getD_getElem?] at q5 q10 q15
      clear hdeps
      refine wpOp_step ho (fun K hK => ?_)
      clear ho
      go_simp
      exact hK _ _ ⟨_, act_putD x hdef _ _, ⟨_, _, rfl, three_p n r3 r4 m g5 g10 g15 w (by have := hh.out; omega) (by have := hh.out; omega) (by have := hh.out; omega) p5 p10 p15⟩, below_alloc _ _⟩
    | 17, ho =>
      have e : o = { dst := some 30, op := Op.move (Operand.tmp 1), type := 3, pos := "law.go:51", after := #[], guard := none } := (Option.some.inj ho).symm
      subst e
      clear hdeps
      refine wpOp_step ho (fun K hK => ?_)
      clear ho
      go_simp
      exact hK _ _ ⟨_, act_putD x hdef _ _, rfl, Below.refl _ _⟩
    | 18, ho =>
      have e : o = { dst := some 31, op := Op.binOp BinOp.quo 3 (Operand.tmp 30) (Operand.const (Value.int IntKind.i64 12)) 3, type := 3, pos := "law.go:51", after := #[{ on := 17, ground := Ground.data }], guard := none } := (Option.some.inj ho).symm
      subst e
      have q17 : x.tmps.getD 30 undef = .int .i64 (n : Nat) := hdeps { on := 17, ground := Ground.data } (by simp) rfl
      simp only [Array.getD_eq_getD_getElem?] at q17
      clear hdeps
      have f0 : (n : Int) / 12 = (q12 : Int) := by have := hh.out; omega
      have f1 : (0 : Int) ≤ (n : Int) := by have := hh.out; omega
      refine wpOp_step ho (fun K hK => ?_)
      clear ho
      go_simp
      rw [show IntKind.i64.wrap (q12 : Int) = (q12 : Int) from IntWalk.i64_in _ (by have := hh.out; omega)]
      exact hK _ _ ⟨_, act_putD x hdef _ _, rfl, Below.refl _ _⟩
    | 19, ho =>
      have e : o = { dst := some 32, op := Op.binOp BinOp.rem 3 (Operand.tmp 31) (Operand.const (Value.int IntKind.i64 4)) 3, type := 3, pos := "law.go:51", after := #[{ on := 18, ground := Ground.data }], guard := none } := (Option.some.inj ho).symm
      subst e
      have q18 : x.tmps.getD 31 undef = .int .i64 (q12 : Nat) := hdeps { on := 18, ground := Ground.data } (by simp) rfl
      simp only [Array.getD_eq_getD_getElem?] at q18
      clear hdeps
      have f0 : Int.tmod (q12 : Int) 4 = (k : Int) := by rw [Int.tmod_eq_emod_of_nonneg (by omega)]; have := hh.out; omega
      refine wpOp_step ho (fun K hK => ?_)
      clear ho
      go_simp
      exact hK _ _ ⟨_, act_putD x hdef _ _, rfl, Below.refl _ _⟩
    | 20, ho =>
      have e : o = { dst := some 33, op := Op.slice 22 (Operand.tmp 29) none (some (Operand.tmp 32)) none, type := 22, pos := "law.go:51", after := #[{ on := 16, ground := Ground.data }, { on := 19, ground := Ground.data }], guard := none } := (Option.some.inj ho).symm
      subst e
      obtain ⟨g16, P16, q16, p16⟩ := hdeps { on := 16, ground := Ground.data } (by simp) rfl
      have q16 : x.tmps.getD 29 undef = .slice (some ⟨g16, 0, none⟩) 3 3 := q16
      have q19 : x.tmps.getD 32 undef = .int .i64 (k : Nat) := hdeps { on := 19, ground := Ground.data } (by simp) rfl
      simp only [Array.getD_eq_getD_getElem?] at q16 q19
      clear hdeps
      have f0 : (0 : Int) ≤ (k : Int) := by have := hh.out; omega
      have f1 : (k : Int) ≤ 3 := by have := hh.out; omega
      refine wpOp_step ho (fun K hK => ?_)
      clear ho
      go_simp
      exact hK _ _ ⟨_, act_putD x hdef _ _, ⟨_, _, rfl, p16⟩, Below.refl _ _⟩
    | 21, ho =>
      have e : o = { dst := some 2, op := Op.assign (Operand.tmp 33), type := 22, pos := "law.go:51", after := #[{ on := 20, ground := Ground.data }, { on := 0, ground := Ground.phase }, { on := 1, ground := Ground.phase }, { on := 2, ground := Ground.phase }, { on := 3, ground := Ground.phase }, { on := 4, ground := Ground.phase }, { on := 5, ground := Ground.phase }, { on := 6, ground := Ground.phase }, { on := 7, ground := Ground.phase }, { on := 8, ground := Ground.phase }, { on := 9, ground := Ground.phase }, { on := 10, ground := Ground.phase }, { on := 11, ground := Ground.phase }, { on := 12, ground := Ground.phase }, { on := 13, ground := Ground.phase }, { on := 14, ground := Ground.phase }, { on := 15, ground := Ground.phase }, { on := 16, ground := Ground.phase }, { on := 17, ground := Ground.phase }, { on := 18, ground := Ground.phase }, { on := 19, ground := Ground.phase }, { on := 20, ground := Ground.phase }], guard := none } := (Option.some.inj ho).symm
      subst e
      obtain ⟨g20, P20, q20, p20⟩ := hdeps { on := 20, ground := Ground.data } (by simp) rfl
      have q20 : x.tmps.getD 33 undef = .slice (some ⟨g20, 0, none⟩) k 3 := q20
      simp only [Array.getD_eq_getD_getElem?] at q20
      clear hdeps
      refine wpOp_step ho (fun K hK => ?_)
      clear ho
      go_simp
      exact hK _ _ ⟨_, act_putD x hdef _ _, ⟨_, _, rfl, p20⟩, Below.refl _ _⟩
    | k + 22, _ => omega
  · intro x w hB hdef hsz hs hv
    have hx := frame_sets x.tmps t0 hsz [13, 14, 15, 16, 17, 18, 19, 20, 21, 22, 23, 24, 25, 26, 27, 28, 29, 30, 31, 32, 33, 2] (fun s hn => hs s (fun j hj e => hn (ends4_list s (by rw [e]; exact hsl j hj))))
    have hq := hQ (fun d => x.tmps.getD d undef) w hB (hv 21 (by decide))
    obtain ⟨T, Df⟩ := x
    dsimp only at hx hdef hq
    subst hdef
    rw [← hx] at hq
    exact hq
end Go.Proofs.YtlmjplpledilhaaGreat

/-
  sized: files whose sums fit, whose sizes, whose parts' lengths do not.
-/
namespace Go.Proofs.YtlmjplpledilhaaGreat
open Go.RowKit
set_option linter.unusedVariables false
set_option linter.unusedSimpArgs false

/-- Cells written out are bytes. -/
theorem sb_lit (w : World) (L : List Nat) (C : Array Value) (hC : C = (lc L).toArray) (hL : ∀ b ∈ L, b < 256) (hn : L.length ≤ 1000) :
    SB (w.alloc (.cells C 5)) (some ⟨w.heap.size, 0, none⟩) L.length L ∧ (w.alloc (.cells C 5)).ownsRow w.heap.size 5 1 (.slice (some ⟨w.heap.size, 0, none⟩) L.length L.length) L.length (lc L) := by
  subst hC
  have h := World.ownsRow_lit (base := w.heap.size) (e := 5) (size := 1) w (lc L).toArray L.length (Nat.le_refl _) (by unfold maxLen; omega) (by simp [lc_length])
  refine ⟨?_, by simpa using h⟩
  obtain ⟨_, A, C, hv, hS, _⟩ := SB.own (by simpa using h) hL
  simp only [Value.slice.injEq] at hv
  obtain ⟨rfl, _, rfl⟩ := hv
  exact hS

theorem modI (x : Int) : ∃ y : Nat, x % 256 = (y : Int) ∧ y < 256 := ⟨(x % 256).toNat, by omega, by omega⟩
theorem w64s (x : Int) (h1 : -9223372036854775808 ≤ x) (h2 : x ≤ 9223372036854775807) : wrap64 x = x := by unfold wrap64; omega
theorem lit8 (w : World) (y0 y3 r5 x4 : Nat) (h0 : y0 < 256) (h3 : y3 < 256) (h5 : r5 < 256) (h4 : x4 ≤ 8) :
    ∃ M : List Nat, M.length = x4 ∧ SB (w.alloc (.cells #[.int .u8 (y0 : Nat), .int .u8 0, .int .u8 0, .int .u8 (y3 : Nat), .int .u8 1, .int .u8 (r5 : Nat), .int .u8 5, .int .u8 6] 5)) (some ⟨w.heap.size, 0, none⟩) 8 M := by
  have h := (sb_lit w [y0, 0, 0, y3, 1, r5, 5, 6] #[.int .u8 (y0 : Nat), .int .u8 0, .int .u8 0, .int .u8 (y3 : Nat), .int .u8 1, .int .u8 (r5 : Nat), .int .u8 5, .int .u8 6] rfl (by
    intro b hb
    simp only [List.mem_cons, List.mem_nil_iff, or_false] at hb
    rcases hb with rfl | rfl | rfl | rfl | rfl | rfl | rfl | rfl <;> first | assumption | decide) (by simp)).1
  obtain ⟨L, hL⟩ : ∃ L : List Nat, [y0, 0, 0, y3, 1, r5, 5, 6] = L := ⟨_, rfl⟩
  have hl : L.length = 8 := by rw [← hL]; rfl
  rw [hL, hl] at h
  have hm : (L.take x4).length = x4 := by rw [List.length_take, hl]; omega
  exact ⟨L.take x4, hm, ⟨by omega, by omega, (fun e => by cases e), h.o, h.b.take x4⟩⟩
theorem lit4 (w : World) (y : Nat) (h : y < 256) : SB (w.alloc (.cells #[.int .u8 (y : Nat), .int .u8 0, .int .u8 0, .int .u8 0] 5)) (some ⟨w.heap.size, 0, none⟩) 4 [y, 0, 0, 0] ∧ (w.alloc (.cells #[.int .u8 (y : Nat), .int .u8 0, .int .u8 0, .int .u8 0] 5)).ownsRow w.heap.size 5 1 (.slice (some ⟨w.heap.size, 0, none⟩) 4 4) 4 (lc [y, 0, 0, 0]) :=
  sb_lit w [y, 0, 0, 0] #[.int .u8 (y : Nat), .int .u8 0, .int .u8 0, .int .u8 0] rfl (by
    intro b hb
    simp only [List.mem_cons, List.mem_nil_iff, or_false] at hb
    rcases hb with rfl | rfl | rfl | rfl <;> first | assumption | decide) (by simp)
set_option maxRecDepth 100000 in
set_option maxHeartbeats 4000000 in
theorem sized_any (w : World) : Calls Tryz.prog 22 #[] w fun e w' => e = .returned (.bool true) ∧ Below w.heap.size w w' := by
  go_enter Tryz.func22, Tryz.ntmps22
  go_wp2_with fail
  go_loopg [1] 40 (fun q s1 wr => ∃ k : Nat, k + q = 40 ∧ s1 = .int .i64 (k : Nat) ∧ Below w.heap.size w wr)
  case atStart => exact ⟨0, by omega, rfl, Below.refl _ _⟩
  case round =>
    obtain ⟨k, hkq, rfl, hB⟩ := hrel
    have hs := hB.size
    cases gk with
    | zero =>
      obtain rfl : k = 40 := by omega
      go_wp2_with fail
      go_ret
      exact ⟨rfl, hB⟩
    | succ g =>
      have hk0 : (0 : Int) ≤ (k : Int) := by omega
      have hk1 : (k : Int) < 40 := by omega
      obtain ⟨r8, r5, q20, x8, x4, ⟨h1, h2, h3, h4, h5⟩, hH⟩ : ∃ r8 r5 q20 x8 x4 : Nat, (Int.tmod (k : Int) 8 = (r8 : Int) ∧ Int.tmod (k : Int) 5 = (r5 : Int) ∧ Int.tdiv (k : Int) 20 = (q20 : Int) ∧ (8 : Int) + (r8 : Int) = (x8 : Int) ∧ (4 : Int) + (r5 : Int) = (x4 : Int)) ∧ Hid (r8 < 8 ∧ r5 < 5 ∧ q20 < 2 ∧ x8 < 16 ∧ x4 ≤ 8) := by
        refine ⟨k % 8, k % 5, k / 20, 8 + k % 8, 4 + k % 5, ⟨?_, ?_, ?_, ?_, ?_⟩, ?_⟩
        · rw [Int.tmod_eq_emod_of_nonneg (by omega)]; omega
        · rw [Int.tmod_eq_emod_of_nonneg (by omega)]; omega
        · rw [Int.tdiv_eq_ediv_of_nonneg (by omega)]; omega
        · omega
        · omega
        · refine hide ⟨?_, ?_, ?_, ?_, ?_⟩ <;> omega
      have hw8 : wrap64 (x8 : Int) = (x8 : Int) := w64s _ (by have := hH.out; omega) (by have := hH.out; omega)
      have hi4 : (0 : Int) ≤ (x4 : Int) := by omega
      have hi8 : (x4 : Int) ≤ 8 := by have := hH.out; omega
      go_wp2_with fail
      clear h1 h2 h3 h4 h5
      obtain ⟨y0, hy0, hy0'⟩ := modI (x8 : Int)
      obtain ⟨y3, hy3, hy3'⟩ := modI (wrap64 (q20 : Int))
      rw [hy0, hy3]
      have hr5 : r5 < 256 := by have := hH.out; omega
      have hx4 : x4 ≤ 8 := by have := hH.out; omega
      obtain ⟨M, hlM, hS1⟩ := lit8 wr y0 y3 r5 x4 hy0' hy3' hr5 hx4
      have hb1 := below_alloc wr (.cells #[.int .u8 (y0 : Nat), .int .u8 0, .int .u8 0, .int .u8 (y3 : Nat), .int .u8 1, .int .u8 (r5 : Nat), .int .u8 5, .int .u8 6] 5)
      obtain ⟨W1, hW1⟩ : ∃ W1, wr.alloc (.cells #[.int .u8 (y0 : Nat), .int .u8 0, .int .u8 0, .int .u8 (y3 : Nat), .int .u8 1, .int .u8 (r5 : Nat), .int .u8 5, .int .u8 6] 5) = W1 := ⟨_, rfl⟩
      rw [hW1] at hS1 hb1 ⊢
      have hB1 := hB.trans (hb1.mono hs)
      have hrp := refPut_any none 0 0 (abP 0) W1 (.inl rfl) (by omega) (by rw [pts_none]; simp [sizeB, bodyB])
      rw [pts_none, show sizeB [] = 8 from rfl] at hrp
      obtain ⟨L1, hL1⟩ : ∃ L, fileB [] = L := ⟨_, rfl⟩
      have hl1 : L1.length = 8 := by rw [← hL1, fileB_len]; rfl
      have hlt1 : ∀ b ∈ L1, b < 256 := by rw [← hL1]; exact fileB_lt (fun p hp => by cases hp)
      rw [hL1] at hrp
      have H1 := hide (And.intro hB1 (And.intro hS1 (And.intro hlM (And.intro hl1 hlt1))))
      clear hB hb1 hB1 hS1 hlM hl1 hlt1 hW1 hL1 hr5 hy0 hy3 hy0' hy3' hw8 hs
      refine hrp.mono ?_
      rintro e w2 ⟨v2, rfl, ho2, hB2⟩
      clear hrp
      obtain ⟨hl2, A2, C2, rfl, hS2, _⟩ := SB.own ho2 H1.out.2.2.2.2
      rw [H1.out.2.2.2.1] at hl2 ⊢
      obtain ⟨A4, A4', s4, s4', S4, S4', _, _⟩ := hS2.cut 4 (by rw [H1.out.2.2.2.1]; omega)
      rw [H1.out.2.2.2.1] at s4 s4'
      have s5 : ∀ wx, (Instr.slice 26 (.slice A2 8 C2) (some (.int .i64 4)) none none).run Tryz.prog wx = .ok (.slice A4' 4 (C2 - 4)) wx := s4'
      have hB02 := H1.out.1.trans (hB2.mono H1.out.1.size)
      have H2 := hide (And.intro hB02 (And.intro (H1.out.2.1.below hB2) S4'))
      clear ho2 hl2 hS2 S4 S4' hB2 hB02 s4 s4' hH
      have hw2s : w.heap.size ≤ w2.heap.size := H2.out.1.size
      obtain ⟨i0, hi, hq0, hq1, hq2⟩ := info_parts info_u8
      have hba := below_alloc w2 (.cells #[] 5)
      have hown : (w2.alloc (.cells #[] 5)).ownsRow w2.heap.size 5 1 (.slice (some ⟨w2.heap.size, 0, none⟩) 0 0) 0 [] := World.ownsRow_made w2 #[] 0 (Nat.le_refl _) (by unfold maxLen; omega) rfl
      have hnewsM := (H2.out.2.1.below hba).b.news
      have honeM := lc_one M
      have hlenM : (lc M).length = x4 := by rw [lc_length]; exact H1.out.2.2.1
      have hlen4 : (lc (L1.drop 4)).length = 4 := by rw [lc_length, List.length_drop, H1.out.2.2.2.1]
      have hone4 := lc_one (L1.drop 4)
      have hlt4 : ∀ b ∈ L1.drop 4, b < 256 := fun b hb => H1.out.2.2.2.2 b (List.mem_of_mem_drop hb)
      have hnone4 : A4' = none → 4 = 0 ∧ C2 - 4 = 0 := fun e => by have h1 := H2.out.2.2.n e; have h2 := H2.out.2.2.l; rw [List.length_drop, H1.out.2.2.2.1] at h2; omega
      have hat4 := H2.out.2.2.at
      have HR := hide hba
      clear hba
      go_upto_region 6 with fail
      go_cut [5] from 29 to 34 (fun s wx => AnyB wx s ∧ Below w.heap.size w wx ∧ SB wx (some ⟨wr.heap.size, 0, none⟩) 8 M)
      case first =>
        go_region_law (first
          | (refine step_append_foot _ (by rfl) (.tmp 29) (.tmp 30) 26 (by rfl) 5 i0 (.int .u8 0) 1 Tryz.underlying26 hi hq0 hq1 hq2 rfl w2.heap.size (.slice (some ⟨w2.heap.size, 0, none⟩) 0 0) 0 [] (by rfl) hown (some ⟨wr.heap.size, 0, none⟩) x4 8 (lc M) (by rfl) hlenM (fun e => by cases e) hnewsM honeM (by unfold maxLen; omega) (by omega) (by simp) ?_; intro B1 D1 w3 hown1 hg1; simp only [Nat.zero_add, List.nil_append] at hown1 hg1 ⊢; have hk1 := hg1.undrew.kept (F := fun k => w2.heap.size ≤ k) (fun g hg => by cases hg; exact Nat.le_refl _); have hk12 : Kept (fun k => w2.heap.size ≤ k) w2 w3 := (Kept.of_below HR.out).trans hk1 (fun _ _ h => h); have hS3 := H2.out.2.2.kept hk12 (fun g o s e h0 hw => by have := hat4 g o s e h0; omega); have hnews4 := hS3.b.news; have hbs3 := hk12.size)
          | (refine step_append_foot _ (by rfl) (.tmp 31) (.tmp 33) 26 (by rfl) 5 i0 (.int .u8 0) 1 Tryz.underlying26 hi hq0 hq1 hq2 rfl w2.heap.size (.slice B1 x4 D1) x4 (lc M) (by rfl) hown1 A4' 4 (C2 - 4) (lc (L1.drop 4)) (by rfl) hlen4 hnone4 hnews4 hone4 (by unfold maxLen; omega) (by omega) hbs3 ?_; intro B2 D2 w4 hown2 hg2))
        all_goals
          go_wp2_with fail
          go_meet
          case rel =>
            rw [← lc_append] at hown2
            have hk2 := hg2.kept (F := fun k => w2.heap.size ≤ k) (fun g hg => (owns_cells hown1 g hg).2.1)
            have hk24 : Kept (fun k => w2.heap.size ≤ k) w2 w4 := hk12.trans hk2 (fun _ _ h => h)
            exact ⟨AnyB.own hown2 (fun b hb => (List.mem_append.1 hb).elim (H2.out.2.1.b.lt b) (hlt4 b)) (by omega), H2.out.1.trans (hk24.below (fun _ h => h) (Nat.le_refl _) |>.mono hw2s), H2.out.2.1.below (hk24.below (fun _ h => h) (Nat.le_refl _))⟩
      case rest =>
        obtain ⟨⟨A6, n6, C6, L6, rfl, hn6, hS6, hm6⟩, hB6, hSM⟩ := hcut
        have hkw : (Lit.int .i64 (k : Int)).wf = true := wf64 (by omega) (by omega)
        have hg7 := gets_any A6 n6 C6 L6 (k : Int) k wc hn6 hS6 hkw (by omega)
        have H6 := hide (And.intro hB6 (And.intro hSM hkw))
        clear hS6 hm6 hn6 hB6 hSM hkw hown hi hq0 hq1 hq2 hnewsM honeM hlenM hlen4 hone4 hlt4 hnone4 hat4 HR s5
        go_wp2_with fail
        refine hg7.mono ?_
        rintro e w7 ⟨rfl, hB7⟩
        clear hg7
        have hSM7 := H6.out.2.1.below hB7
        have hB07 := H6.out.1.trans (hB7.mono H6.out.1.size)
        have hf8 := fit_any (some ⟨wr.heap.size, 0, none⟩) x4 8 M w7 H1.out.2.2.1 hSM7 (by omega)
        have H7 := hide (And.intro hB07 hSM7)
        clear hB7 hSM7 hB07
        go_wp2_with fail
        refine hf8.mono ?_
        rintro e w8 ⟨v8, rfl, ⟨A8, n8, C8, L8, rfl, hn8, hS8, hm8⟩, hB8⟩
        clear hf8
        have hg9 := gets_any A8 n8 C8 L8 (k : Int) k w8 hn8 hS8 H6.out.2.2 (by omega)
        have H8 := hide (And.intro (H7.out.1.trans (hB8.mono H7.out.1.size)) (H7.out.2.below hB8))
        clear hS8 hm8 hn8 hB8
        go_wp2_with fail
        refine hg9.mono ?_
        rintro e w9 ⟨rfl, hB9⟩
        clear hg9
        have H9 := hide (And.intro (H8.out.1.trans (hB9.mono H8.out.1.size)) (H8.out.2.below hB9))
        clear hB9
        obtain ⟨y, hy, hy'⟩ : ∃ y : Nat, (x4 : Int) + 8 = (y : Int) ∧ y < 256 := ⟨x4 + 8, by omega, by omega⟩
        obtain ⟨hS10, hown10⟩ := lit4 w9 y hy'
        have hb10 := below_alloc w9 (.cells #[.int .u8 (y : Nat), .int .u8 0, .int .u8 0, .int .u8 0] 5)
        obtain ⟨W10, hW10⟩ : ∃ W10, w9.alloc (.cells #[.int .u8 (y : Nat), .int .u8 0, .int .u8 0, .int .u8 0] 5) = W10 := ⟨_, rfl⟩
        rw [hW10] at hown10 hb10 hS10
        have hnews10 := (H9.out.2.below hb10).b.news
        have hone10 := lc_one M
        have hlen10 : (lc M).length = x4 := by rw [lc_length]; exact H1.out.2.2.1
        have hs10 := hb10.size
        obtain ⟨i0, hi, hq0, hq1, hq2⟩ := info_parts info_u8
        have H10 := hide (And.intro hb10 hS10)
        clear hb10 hy' hS10
        go_wp2_with (at_builtin; go_must (refine wpList_append_met _ (by rfl) (.tmp 55) (.tmp 56) 26 rfl 5 i0 (.int .u8 0) 1 Tryz.underlying26 hi hq0 hq1 hq2 rfl w9.heap.size (.slice (some ⟨w9.heap.size, 0, none⟩) 4 4) 4 (lc [y, 0, 0, 0]) rfl hown10 (some ⟨wr.heap.size, 0, none⟩) x4 8 (lc M) rfl hlen10 (fun e => by cases e) hnews10 hone10 (by unfold maxLen; omega) (by omega) hs10 ?_); intro B1 D1 w11 hown11 hg11)
        rw [← lc_append] at hown11
        have hk11 := hg11.kept (F := fun k => w9.heap.size ≤ k) (fun g hg => by cases hg; exact Nat.le_refl _)
        have hB11 : Below w9.heap.size w9 w11 := ((Kept.of_below (F := fun k => w9.heap.size ≤ k) H10.out.1).trans hk11 (fun _ _ h => h)).below (fun _ h => h) (Nat.le_refl _)
        obtain ⟨hl11, _, _, hv11, hS11, _⟩ := SB.own hown11 (fun b hb => (List.mem_append.1 hb).elim (H10.out.2.b.lt b) (H9.out.2.b.lt b))
        rw [← hl11] at hv11
        cases hv11
        have hf12 := fit_any B1 (4 + x4) D1 ([y, 0, 0, 0] ++ M) w11 hl11.symm hS11 (by omega)
        have H11 := hide (H9.out.1.trans (hB11.mono H9.out.1.size))
        clear hown11 hg11 hk11 hB11 hl11 hS11 hi hq0 hq1 hq2 hown10 hnews10 hone10 hlen10 hs10
        refine hf12.mono ?_
        rintro e w12 ⟨v12, rfl, ⟨A12, n12, C12, L12, rfl, hn12, hS12, hm12⟩, hB12⟩
        clear hf12
        have hg13 := gets_any A12 n12 C12 L12 0 0 w12 hn12 hS12 (wf64 (by omega) (by omega)) (by omega)
        have H12 := hide (H11.out.trans (hB12.mono H11.out.size))
        clear hS12 hm12 hn12 hB12
        go_wp2_with fail
        refine hg13.mono ?_
        rintro e w13 ⟨rfl, hB13⟩
        clear hg13
        have H13 := H12.out.trans (hB13.mono H12.out.size)
        clear hB13
        go_wp2_with fail
        go_roundg g
        case measure => omega
        case rel => exact ⟨k + 1, by omega, by go_num, H13⟩
end Go.Proofs.YtlmjplpledilhaaGreat
