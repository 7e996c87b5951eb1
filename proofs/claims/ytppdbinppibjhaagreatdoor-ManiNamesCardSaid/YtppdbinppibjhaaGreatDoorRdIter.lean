/-
  The range-function that goes through the bytes of the number that stands at a reader's place.
-/
import Derived.Test.YtppdbinppibjhaaGreatDoorRd
import Derived.Shelf.Abstract
import Derived.Shelf.RegionOpen
import Derived.TacticsInMore
import Derived.LoopNIn
import Derived.LoopIn
namespace Go.Proofs.YtppdbinppibjhaaGreatDoor
open Go.RowKit Go.Shelf

attribute [local go_sem] Oper.semAt_some

abbrev IB := Fin 6 × Fin 256
def pvs (l : List IB) : List (Nat × Nat) := l.map fun x => (x.1.val, x.2.val)
theorem pvs_snoc (l : List IB) (x : IB) : pvs (l ++ [x]) = pvs l ++ [(x.1.val, x.2.val)] := by simp [pvs]
/-- The first k bytes with their places. -/
def sq (L : List Nat) (k : Nat) : List (Nat × Nat) := (List.range k).map fun i => (i, L.getD i 0)
theorem sq_succ (L : List Nat) (k : Nat) : sq L (k + 1) = sq L k ++ [(k, L.getD k 0)] := by simp [sq, List.range_succ]
/-- Bytes go on up to the k-th one. -/
def Goes (L : List Nat) (k : Nat) : Prop := (∀ i, i < k → 128 ≤ L.getD i 0) ∧ k ≤ 6 ∧ k ≤ L.length
theorem Goes.le {L : List Nat} {k : Nat} (h : Goes L k) : k ≤ yl 6 L := by
  cases k with
  | zero => omega
  | succ k => exact yl_step 6 L k (by have := h.2.1; omega) (by have := h.2.2; omega) (fun i hi => h.1 i (by omega))
theorem Goes.full {L : List Nat} {k : Nat} (h : Goes L k) (e : k = 6 ∨ k = L.length) : yl 6 L = k := by
  have := h.le
  have := yl_le 6 L
  omega
theorem Goes.last {L : List Nat} {k : Nat} (h : Goes L k) (h6 : k < 6) (hl : k < L.length) (hb : L.getD k 0 < 128) : yl 6 L = k + 1 := by
  have h1 := yl_step 6 L k h6 hl h.1
  rcases Nat.lt_or_ge (k + 1) (yl 6 L) with h2 | h2
  · have := yl_more 6 L k h2; omega
  · omega
theorem Goes.next {L : List Nat} {k : Nat} (h : Goes L k) (h6 : k < 6) (hl : k < L.length) (hb : 128 ≤ L.getD k 0) : Goes L (k + 1) :=
  ⟨fun i hi => by
    by_cases e : i = k
    · subst e; exact hb
    · exact h.1 i (by omega), by omega, by omega⟩

/-- What a round must keep. -/
def keepsBL (A : Option Addr) (L : List Nat) (X Y : World) : Prop := BL X A L → BL Y A L
theorem keepsBL_t {A : Option Addr} {L : List Nat} {X Y Z : World} (h : keepsBL A L X Y) (k : keepsBL A L Y Z) : keepsBL A L X Z := fun v => k (h v)
theorem keepsBL_b {A : Option Addr} {L : List Nat} {w : World} (W : World) (l : Nat) (o o' : Obj) (_ : w.heap.size ≤ l) (h : W.heap[l]? = some o) (hc : o.isCells = false) (_ : o.isWalk = false) : keepsBL A L W (W.putObj l o') :=
  fun hb => hb.cells (CellsKept.of_grown (grownBy_putObj' W l o') (fun r e => by cases e; exact ⟨o, h, hc⟩))

set_option maxHeartbeats 1000000 in
theorem placeNumber_in (F : Fence) (n : Nat) (hF : F.fn 110) (hro : F.round = none) (a : Option Addr) (w : World) :
    CallsIn F n Tryz.prog 110 #[.pointer a] w fun e w' => e = .returned (.func (.func 160) #[] #[.pointer (some ⟨w.heap.size, 0, none⟩)]) ∧ w' = w.alloc (.cells #[.pointer a] 262) := by
  refine callsIn_of_wp Tryz.func110 rfl hF ?_ hro
  simp only [Tryz.ntmps110, List.size_toArray, List.length_cons, List.length_nil, Nat.reduceAdd, Nat.reduceSub, Array.replicate_succ, Array.replicate_zero, List.push_toArray, List.append_toArray, List.nil_append, List.cons_append]
  gi_wp2
  go_ret
  exact ⟨rfl, rfl⟩

set_option maxRecDepth 100000 in
set_option maxHeartbeats 2000000 in
theorem number1_in (F : Fence) (n : Nat) (hF : F.fn 160) (hro : F.round = none) (hn : 1 ≤ n) (l Bs p : Nat) (A : Option Addr) (C : Nat) (L : List Nat) (J Jx : List IB → World → Prop)
    (hY : ∀ pre x W, J pre W → pre.length < 6 → YieldAt F (n - 1) Tryz.prog l #[.int .i64 (x.1.val : Nat), .int .u8 (x.2.val : Nat)] W fun e W' =>
      (e = .returned (.bool true) ∧ J (pre ++ [x]) W' ∧ keepsBL A L W W') ∨ (e = .returned (.bool false) ∧ Jx (pre ++ [x]) W'))
    (W : World) (hBs : W.cell? ⟨Bs, 0, none⟩ = some (.pointer (some ⟨p, 0, none⟩))) (hp : W.cell? ⟨p, 0, none⟩ = some (.slice A L.length C)) (hL : L.length ≤ 9223372036854775807) (hb : BL W A L) (h0 : J [] W) :
    CallsIn F n Tryz.prog 160 #[.func (.yield l) #[] #[], .pointer (some ⟨Bs, 0, none⟩)] W fun e W' => (∃ v, e = .returned v) ∧
      ((∃ ys, pvs ys = sq L (yl 6 L) ∧ J ys W') ∨ (∃ pre, True ∧ Jx pre W')) := by
  refine callsIn_of_wp Tryz.func160 rfl hF ?_ hro
  simp only [Tryz.ntmps160, List.size_toArray, List.length_cons, List.length_nil, Nat.reduceAdd, Nat.reduceSub, Array.replicate_succ, Array.replicate_zero, List.push_toArray, List.append_toArray, List.nil_append, List.cons_append]
  gi_wp2
  gi_loopw [10] (fun s wr => ∃ (k : Nat) (pre : List IB), s = .int .i64 k ∧ Goes L k ∧ pvs pre = sq L k ∧ BL wr A L ∧ J pre wr) (fun s _ => L.length - (intOf s).toNat)
  case atStart => exact ⟨0, [], rfl, ⟨fun i h => by omega, by omega, by omega⟩, rfl, hb, h0⟩
  case round =>
    obtain ⟨k, pre, rfl, hg, hpv, hbr, hJs⟩ := hrel
    have hpl : pre.length = k := by
      have := congrArg List.length hpv
      simpa [pvs, sq] using this
    have hkl := hg.2.2
    have hk6 := hg.2.1
    clear hb hBs hp
    by_cases hend : k = L.length
    · have HE : Hid (pvs pre = sq L (yl 6 L)) := by rw [hg.full (.inr hend)]; exact hpv
      have hki : ¬ ((k : Int) < (L.length : Int)) := by omega
      clear hpv hend hpl hg
      gi_wp2
      go_end0
      exact ⟨⟨_, rfl⟩, .inl ⟨_, HE.out, hJs⟩⟩
    · have hlt : k < L.length := by omega
      obtain ⟨g, off, rfl, hc⟩ := hbr.cell (by omega)
      have hck := hc k hlt
      have hbk : L.getD k 0 < 256 := hbr.1 k
      have hki : (k : Int) < (L.length : Int) := by omega
      have hk0 : (0 : Int) ≤ (k : Int) := by omega
      have hsq := sq_succ L k
      have hlast : k < 6 → L.getD k 0 < 128 → yl 6 L = k + 1 := fun h => hg.last h hlt
      have hnext : k < 6 → 128 ≤ L.getD k 0 → Goes L (k + 1) := fun h => hg.next h hlt
      clear hc
      generalize L.getD k 0 = bb at *
      by_cases h6 : k = 6
      · have HE : Hid (pvs pre = sq L (yl 6 L)) := by rw [hg.full (.inl h6)]; exact hpv
        have hk6' : ((k : Int) == 6) = true := by simp; omega
        clear hpv hend hpl hg h6 hsq hlast hnext
        gi_wp2
        refine ⟨fun _ h => (by cases h), ?_⟩
        gi_wp2
        refine bodyPost_ret (results_none rfl _ _ _) rfl ?_
        exact ⟨⟨_, rfl⟩, .inl ⟨_, HE.out, hJs⟩⟩
      · have hk6' : ((k : Int) == 6) = false := by simp; omega
        have hk6n : k < 6 := by omega
        obtain ⟨fn, tmps, assign, body, hy, hR⟩ := hY pre (⟨k, hk6n⟩, ⟨bb, hbk⟩) wr hJs (by omega)
        have hP : pvs (pre ++ [(⟨k, hk6n⟩, ⟨bb, hbk⟩)]) = sq L (k + 1) := by
          rw [pvs_snoc, hsq, hpv]
        have HP := hide hP
        simp only at hy
        have HB := hide hbr
        clear hpv hpl hP hsq hbr
        by_cases hb128 : bb < 128
        · have hyl := hlast hk6n hb128
          have HE : Hid (pvs (pre ++ [(⟨k, hk6n⟩, ⟨bb, hbk⟩)]) = sq L (yl 6 L)) := by rw [hyl]; exact HP.out
          have hb128' : (bb : Int) < 128 := by omega
          clear hyl hlast hnext hg
          gi_wp2
          refine hR.mono ?_
          rintro e W3 (⟨rfl, hJ3, _⟩ | ⟨rfl, hJx3⟩)
          · gi_wp2
            refine bodyPost_ret (results_none rfl _ _ _) rfl ?_
            exact ⟨⟨_, rfl⟩, .inl ⟨_, HE.out, hJ3⟩⟩
          · gi_wp2
            refine bodyPost_ret (results_none rfl _ _ _) rfl ?_
            exact ⟨⟨_, rfl⟩, .inr ⟨_, trivial, hJx3⟩⟩
        · have HN := hide (hnext hk6n (by omega))
          have hb128' : (128 : Int) ≤ (bb : Int) := by omega
          clear hlast hnext hg
          gi_wp2
          refine hR.mono ?_
          rintro e W3 (⟨rfl, hJ3, hk3⟩ | ⟨rfl, hJx3⟩)
          · have hb3 := hk3 HB.out
            clear hk3
            have HB3 := hide hb3
            clear hb3
            gi_wp2
            go_roundw
            case rel => exact ⟨k + 1, _, by go_num, HN.out, HP.out, HB3.out, hJ3⟩
            case measure => simp [intOf]; omega
          · gi_wp2
            refine bodyPost_ret (results_none rfl _ _ _) rfl ?_
            exact ⟨⟨_, rfl⟩, .inr ⟨_, trivial, hJx3⟩⟩

theorem number_stops (F : Fence) (n : Nat) (hF : F.fn 160) (hro : F.round = none) (hn : 1 ≤ n) (Bs p : Nat) (A : Option Addr) (C : Nat) (L : List Nat) (w : World)
    (hc : w.cell? ⟨Bs, 0, none⟩ = some (.pointer (some ⟨p, 0, none⟩))) (hp : w.cell? ⟨p, 0, none⟩ = some (.slice A L.length C)) (hL : L.length ≤ 9223372036854775807) (hb : BL w A L) :
    SeqStopsK F n Tryz.prog 160 #[.pointer (some ⟨Bs, 0, none⟩)] (fun x : IB => #[Value.int .i64 (x.1.val : Nat), Value.int .u8 (x.2.val : Nat)]) (keepsBL A L) (fun ys => pvs ys = sq L (yl 6 L)) (fun _ => True) 6 w := fun l J Jx W hW _ _ hY h0 => by
  have hc' := cell_thru hc hW
  have hp' := cell_thru hp hW
  exact number1_in F n hF hro hn l Bs p A C L J Jx hY W hc' hp' hL (hb.below hW) h0

/-! ### What the loop makes of what comes -/
def stepN (s : Nat × Nat × Nat) (x : Nat × Nat) : Nat × Nat × Nat := (s.1 ||| (x.2 % 128) * 2 ^ (7 * x.1), x.1 + 1, x.2)
def foldN (l : List (Nat × Nat)) : Nat × Nat × Nat := l.foldl stepN (0, 0, 128)
theorem foldN_snoc (l : List (Nat × Nat)) (x : Nat × Nat) : foldN (l ++ [x]) = stepN (foldN l) x := by simp [foldN]
theorem foldN_sq (L : List Nat) : ∀ k, foldN (sq L k) = (acc L k, k, if k = 0 then 128 else L.getD (k - 1) 0)
  | 0 => by simp [foldN, sq, acc]
  | k + 1 => by
    rw [sq_succ, foldN_snoc, foldN_sq L k]
    have h := acc_lt L k
    have e : 128 ^ k = 2 ^ (7 * k) := by rw [show 128 = 2 ^ 7 from rfl, ← Nat.pow_mul]
    rw [e] at h
    show (acc L k ||| L.getD k 0 % 128 * 2 ^ (7 * k), k + 1, L.getD k 0) = (acc L k + L.getD k 0 % 128 * 128 ^ k, _, _)
    rw [or_add _ _ _ h, e]
    simp
theorem foldN_lt (l : List IB) : (foldN (pvs l)).1 < 2 ^ 42 ∧ (foldN (pvs l)).2.1 ≤ 6 ∧ (foldN (pvs l)).2.2 < 256 := by
  have key : ∀ (l : List IB) (s : Nat × Nat × Nat), s.1 < 2 ^ 42 → s.2.1 ≤ 6 → s.2.2 < 256 → ((pvs l).foldl stepN s).1 < 2 ^ 42 ∧ ((pvs l).foldl stepN s).2.1 ≤ 6 ∧ ((pvs l).foldl stepN s).2.2 < 256 := by
    intro l
    induction l with
    | nil => intro s h1 h2 h3; exact ⟨h1, h2, h3⟩
    | cons x l ih =>
      intro s h1 h2 h3
      refine ih (stepN s (x.1.val, x.2.val)) ?_ (by simp [stepN]; omega) (by simp [stepN])
      refine Nat.or_lt_two_pow h1 ?_
      have hx : 2 ^ (7 * x.1.val) ≤ 2 ^ 35 := Nat.pow_le_pow_right (by omega) (by omega)
      have hm : x.2.val % 128 ≤ 127 := by omega
      have := Nat.mul_le_mul hm hx
      show x.2.val % 128 * 2 ^ (7 * x.1.val) < 2 ^ 42
      omega
  exact key l (0, 0, 128) (by simp) (by simp) (by simp)
end Go.Proofs.YtppdbinppibjhaaGreatDoor
