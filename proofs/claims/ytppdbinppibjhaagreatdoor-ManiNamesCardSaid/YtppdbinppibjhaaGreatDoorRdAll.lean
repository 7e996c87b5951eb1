/-
  The program's reader gets fixed numbers, texts, rising rows.
-/
import Derived.Test.YtppdbinppibjhaaGreatDoorRdNum
import Derived.LoopN
namespace Go.Proofs.YtppdbinppibjhaaGreatDoor
open Go.RowKit

theorem owns_lower {w : World} {B B' n size : Nat} {v : Value} {xs : List Value} {e : TypeId} (h : w.ownsRow B e size v n xs) (hB : B' ≤ B) : w.ownsRow B' e size v n xs := by
  obtain ⟨hl, ⟨hv, h0⟩ | ⟨g, cap, cur, hv, hg, hr⟩⟩ := h
  · exact ⟨hl, .inl ⟨hv, h0⟩⟩
  · exact ⟨hl, .inr ⟨g, cap, cur, hv, by omega, hr⟩⟩
set_option maxHeartbeats 1000000 in
theorem rdNumber_none (pv : Value) (F : Nat → Prop) (most : Int) (w : World) (h : RP w pv F none) :
    Calls Tryz.prog 58 #[pv, .int .i64 most] w fun e w' => e = .returned (.int .i64 0) ∧ w = w' := by
  have hok := ok_any pv F none w h
  simp only [Option.isSome_none] at hok
  go_enter Tryz.func58, Tryz.ntmps58
  go_wp2_with fail
  refine hok.mono ?_
  rintro e w1 ⟨rfl, rfl⟩
  go_wp2_with fail
  go_ret
  exact ⟨rfl, rfl⟩
/-- A reader's own blocks that it may turn. -/
def own1 (pv : Value) (k : Nat) : Prop := pv = .pointer (some ⟨k, 0, none⟩)
theorem rdNumber_any (pv : Value) (F : Nat → Prop) (S : Option (List Nat)) (most : Int) (w : World) (h : RP w pv F S) (hF : ∀ k, F k → k < w.heap.size) (hmost : (Lit.int .i64 most).wf = true) (hS : szO S ≤ 9223372036854775807) :
    Calls Tryz.prog 58 #[pv, .int .i64 most] w fun e w' => e = .returned (.int .i64 ((getNum most S).1 : Nat)) ∧ RP w' pv F (getNum most S).2 ∧ Kept (own1 pv) w w' := by
  cases S with
  | none => exact (rdNumber_none pv F most w h).mono fun e w' ⟨he, hw⟩ => by subst hw; exact ⟨he, h, Kept.refl _ _⟩
  | some L =>
    rcases h with ⟨_, h0⟩ | ⟨p, rfl, h⟩
    · cases h0
    · exact (callsIn_wide.1 (rdNumber_in 4 (by omega) p F L most w h hF hmost hS)).mono fun e w' ⟨he, h1, h2⟩ => ⟨he, .inr ⟨p, rfl, h1⟩, h2.mono (fun k _ hk => by subst hk; rfl)⟩
theorem getNum_none_eq {most : Int} {L : List Nat} (h : pN 6 0 L = none) : getNum most (some L) = (0, none) := by unfold getNum; simp only [h]
theorem getNum_some_eq {most : Int} {L : List Nat} {v k : Nat} (h : pN 6 0 L = some (v, k)) : getNum most (some L) = if (v : Int) ≤ most ∧ v ≤ maxNum then (v, some (L.drop k)) else (0, none) := by unfold getNum; simp only [h]
theorem getNum_lt (most : Int) (S : Option (List Nat)) : ((getNum most S).1 : Int) ≤ maxNum ∧ szO (getNum most S).2 ≤ szO S := by
  cases S with
  | none => simp [getNum, szO, maxNum]
  | some L =>
    cases h : pN 6 0 L with
    | none => rw [getNum_none_eq h]; simp [szO, maxNum]
    | some x =>
      obtain ⟨v, k⟩ := x
      rw [getNum_some_eq h]
      by_cases h2 : (v : Int) ≤ most ∧ v ≤ maxNum
      · rw [if_pos h2]
        refine ⟨by simp only []; omega, ?_⟩
        simp [szO]
      · rw [if_neg h2]
        simp [szO, maxNum]
def textOf : Nat × Option (List Nat) → List Nat × Option (List Nat)
  | (_, none) => ([], none)
  | (n, some L) => if L.length < n then ([], none) else (L.take n, some (L.drop n))
theorem getText_of (most : Int) (S : Option (List Nat)) : getText most S = textOf (getNum most S) := by
  unfold getText
  rcases getNum most S with ⟨n, _ | L⟩ <;> rfl

/-- A text got. -/
theorem rdText_any (pv : Value) (F : Nat → Prop) (S : Option (List Nat)) (most : Int) (w : World) (h : RP w pv F S) (hF : ∀ k, F k → k < w.heap.size) (hmost : (Lit.int .i64 most).wf = true) (hS : szO S ≤ 140737488355328) :
    Calls Tryz.prog 184 #[pv, .int .i64 most] w fun e w' => ∃ v, e = .returned v ∧ w'.ownsRow w.heap.size 5 1 v (getText most S).1.length (lc (getText most S).1) ∧ RP w' pv F (getText most S).2 ∧ Kept (own1 pv) w w' := by
  have hnum := rdNumber_any pv F S most w h hF hmost (by omega)
  have hlt := getNum_lt most S
  go_enter Tryz.func184, Tryz.ntmps184
  go_wp2_with fail
  refine hnum.mono ?_
  rintro e w1 ⟨rfl, h1, hK1⟩
  have hok := ok_any pv F _ w1 h1
  have HT := hide (getText_of most S)
  clear hnum h
  generalize getNum most S = g at *
  obtain ⟨n, S1⟩ := g
  simp only at h1 hok hlt
  cases S1 with
  | none =>
    simp only [Option.isSome_none] at hok
    go_wp2_with fail
    refine hok.mono ?_
    rintro e w2 ⟨rfl, rfl⟩
    go_wp2_with fail
    go_ret
    rw [HT.out]
    exact ⟨_, rfl, World.ownsRow_nil _ _ _ _, h1, hK1⟩
  | some L =>
    simp only [Option.isSome_some] at hok
    rcases h1 with ⟨_, h0⟩ | ⟨p, rfl, h1⟩
    · cases h0
    · have hpl : p < w.heap.size := hF p h1.1
      by_cases hl : L.length < n
      · have HT2 : Hid (getText most S = ([], none)) := by rw [HT.out]; simp only [textOf]; rw [if_pos hl]; rfl
        have htk := take_none p F L n w1 h1 hl
        clear h1
        go_wp2_with fail
        refine hok.mono ?_
        rintro e w2 ⟨rfl, rfl⟩
        go_wp2_with fail
        refine htk.mono ?_
        rintro e w2 ⟨rfl, hR, hK2⟩
        go_wp2_with fail
        refine (cloneBytes_any none 0 0 [] w2 rfl (by omega) (by omega) (fun _ => rfl) (BL.mk (by simp) (.inl rfl))).mono ?_
        rintro e w3 ⟨v, rfl, ho, hB⟩
        go_wp2_with fail
        go_ret
        rw [HT2.out]
        have hk3 : Kept (fun _ => False) w2 w3 := Kept.of_below hB
        refine ⟨v, rfl, owns_lower ho (by have := hK1.size; have := hK2.size; omega), .inr ⟨p, rfl, hR.kept hk3 (fun _ _ h => h)⟩, (hK1.trans hK2 (fun k _ hk => by subst hk; rfl)).trans hk3 (fun _ _ h => h.elim)⟩
      · have HT2 : Hid (getText most S = (L.take n, some (L.drop n))) := by rw [HT.out]; simp only [textOf]; rw [if_neg hl]; rfl
        have htk := take_some p F L n w1 h1 (by omega)
        clear h1
        go_wp2_with fail
        refine hok.mono ?_
        rintro e w2 ⟨rfl, rfl⟩
        go_wp2_with fail
        refine htk.mono ?_
        rintro e w2 ⟨A, C, rfl, hmC, hC9, hAn, hbl, _, hR, hK2⟩
        have hsz : L.length ≤ szO S := hlt.2
        have htl : (L.take n).length = n := by rw [List.length_take]; omega
        have hcl := cloneBytes_any A n C (L.take n) w2 htl (by omega) hmC hAn hbl
        clear htk hbl hAn hl
        go_wp2_with fail
        refine hcl.mono ?_
        rintro e w3 ⟨v, rfl, ho, hB⟩
        go_wp2_with fail
        go_ret
        rw [HT2.out]
        have hk3 : Kept (fun _ => False) w2 w3 := Kept.of_below hB
        refine ⟨v, rfl, by rw [htl]; exact owns_lower ho (by have := hK1.size; have := hK2.size; omega), .inr ⟨p, rfl, hR.kept hk3 (fun _ _ h => h)⟩, (hK1.trans hK2 (fun k _ hk => by subst hk; rfl)).trans hk3 (fun _ _ h => h.elim)⟩

theorem or_u32 (a b k P : Nat) (hP : P = 2 ^ k) (ha : a < P) (hb : b * P < 4294967296) (h1 : a < 4294967296) (y : Nat) (hy : y = a + b * P) : bits BinOp.or IntKind.u32 (a : Int) ((b : Int) * (P : Nat)) = (y : Int) := by
  have h := u32_or_nat a (b * P) h1 hb
  subst hP
  rw [or_add a b k ha, ← hy] at h
  rw [← h]
  simp
set_option maxRecDepth 100000 in
set_option maxHeartbeats 1000000 in
theorem rdFixed_any (pv : Value) (F : Nat → Prop) (S : Option (List Nat)) (w : World) (h : RP w pv F S) :
    Calls Tryz.prog 114 #[pv] w fun e w' => e = .returned (.int .u32 ((getFix S).1 : Nat)) ∧ RP w' pv F (getFix S).2 ∧ Kept (own1 pv) w w' := by
  have hok := ok_any pv F S w h
  cases S with
  | none =>
    simp only [Option.isSome_none] at hok
    go_enter Tryz.func114, Tryz.ntmps114
    go_wp2_with fail
    refine hok.mono ?_
    rintro e w2 ⟨rfl, rfl⟩
    go_wp2_with fail
    go_ret
    exact ⟨rfl, h, Kept.refl _ _⟩
  | some L =>
    simp only [Option.isSome_some] at hok
    rcases h with ⟨_, h0⟩ | ⟨p, rfl, h⟩
    · cases h0
    · by_cases hl : L.length < 4
      · have htk := take_none p F L 4 w h hl
        have HG : Hid (getFix (some L) = (0, none)) := by simp only [Hid, getFix]; rw [if_pos hl]
        clear h
        go_enter Tryz.func114, Tryz.ntmps114
        go_wp2_with fail
        refine hok.mono ?_
        rintro e w2 ⟨rfl, rfl⟩
        go_wp2_with fail
        refine htk.mono ?_
        rintro e w2 ⟨rfl, hR, hK2⟩
        go_wp2_with fail
        go_loop [3, 14] (fun s3 s14 => s3 = .int .u32 0 ∧ s14 = .int .i64 0) (fun _ _ => 0)
        case atStart => exact ⟨rfl, rfl⟩
        case round =>
          obtain ⟨rfl, rfl⟩ := hrel
          go_wp2
          go_ret
          rw [HG.out]
          exact ⟨rfl, .inr ⟨p, rfl, hR⟩, hK2.mono (fun k _ hk => by subst hk; rfl)⟩
      · have htk := take_some p F L 4 w h (by omega)
        clear h
        go_enter Tryz.func114, Tryz.ntmps114
        go_wp2_with fail
        refine hok.mono ?_
        rintro e w2 ⟨rfl, rfl⟩
        go_wp2_with fail
        refine htk.mono ?_
        rintro e w2 ⟨A, C, rfl, hmC, hC9, hAn, hbl, _, hR, hK2⟩
        obtain ⟨g, off, rfl, hc⟩ := hbl.cell (by rw [List.length_take]; omega)
        rw [List.length_take, show min 4 L.length = 4 from by omega] at hc
        have hx : ∀ i, i < 4 → (L.take 4).getD i 0 = L.getD i 0 := fun i hi => by simp [List.getD_eq_getElem?_getD, hi]
        have q0 := hc 0 (by omega)
        have q1 := hc 1 (by omega)
        have q2 := hc 2 (by omega)
        have q3 := hc 3 (by omega)
        have b0 := hbl.1 0
        have b1 := hbl.1 1
        have b2 := hbl.1 2
        have b3 := hbl.1 3
        simp only [hx 0 (by omega), hx 1 (by omega), hx 2 (by omega), hx 3 (by omega), Nat.add_zero] at q0 q1 q2 q3 b0 b1 b2 b3
        have HG : Hid (getFix (some L) = (L.getD 0 0 + L.getD 1 0 * 256 + L.getD 2 0 * 65536 + L.getD 3 0 * 16777216, some (L.drop 4))) := by simp only [Hid, getFix]; rw [if_neg hl]
        clear htk hbl hAn hc hx
        generalize L.getD 0 0 = x0 at *
        generalize L.getD 1 0 = x1 at *
        generalize L.getD 2 0 = x2 at *
        generalize L.getD 3 0 = x3 at *
        obtain ⟨y1, hy1⟩ : ∃ y, y = x0 + x1 * 256 := ⟨_, rfl⟩
        obtain ⟨y2, hy2⟩ : ∃ y, y = y1 + x2 * 65536 := ⟨_, rfl⟩
        obtain ⟨y3, hy3⟩ : ∃ y, y = y2 + x3 * 16777216 := ⟨_, rfl⟩
        have o0 : bits BinOp.or IntKind.u32 0 (x0 : Int) = (x0 : Int) := by
          have := u32_or_nat 0 x0 (by omega) (by omega)
          simpa using this
        have o1 : bits BinOp.or IntKind.u32 (x0 : Int) ((x1 : Int) * 256) = (y1 : Int) := or_u32 x0 x1 8 256 (by rfl) (by omega) (by omega) (by omega) y1 hy1
        have o2 : bits BinOp.or IntKind.u32 (y1 : Int) ((x2 : Int) * 65536) = (y2 : Int) := or_u32 y1 x2 16 65536 (by rfl) (by omega) (by omega) (by omega) y2 hy2
        have o3 : bits BinOp.or IntKind.u32 (y2 : Int) ((x3 : Int) * 16777216) = (y3 : Int) := or_u32 y2 x3 24 16777216 (by rfl) (by omega) (by omega) (by omega) y3 hy3
        have HY : Hid (y3 = x0 + x1 * 256 + x2 * 65536 + x3 * 16777216) := by rw [hy3, hy2, hy1]; rfl
        have x1' : (x1 : Int) < 256 := by omega
        have x2' : (x2 : Int) < 256 := by omega
        have x3' : (x3 : Int) < 256 := by omega
        clear hy1 hy2 hy3
        go_wp2_with fail
        refine wp_loop_rounds 5 ?_
        rw [rounds_succ]
        go_wp2_with fail
        rw [rounds_succ]
        go_wp2_with fail
        rw [rounds_succ]
        go_wp2_with fail
        rw [rounds_succ]
        go_wp2_with fail
        rw [rounds_succ]
        go_wp2_with fail
        go_ret
        rw [HG.out, ← HY.out]
        exact ⟨rfl, .inr ⟨p, rfl, hR⟩, hK2.mono (fun k _ hk => by subst hk; rfl)⟩
end Go.Proofs.YtppdbinppibjhaaGreatDoor

/-
  The program's reader gets rising rows.
-/
namespace Go.Proofs.YtppdbinppibjhaaGreatDoor
open Go.RowKit

/-- The cells of integers. -/
def li (L : List Int) : List Value := L.map fun x => .int .i64 x
theorem li_length (L : List Int) : (li L).length = L.length := by simp [li]
theorem li_append (L M : List Int) : li (L ++ M) = li L ++ li M := by simp [li]
theorem info_int : (Tryz.prog.info? 3).map (fun i => (i.zero, i.size, i.bytes)) = some (some (.int .i64 0), 1, 8) := by kernel_rfl
theorem RP.form {w : World} {pv : Value} {F : Nat → Prop} {S : Option (List Nat)} (h : RP w pv F S) : ∃ a, pv = .pointer a := by
  rcases h with ⟨h, _⟩ | ⟨p, h1, h2⟩
  · exact ⟨_, h⟩
  · exact ⟨_, h1⟩
theorem RP.own {w : World} {pv : Value} {F : Nat → Prop} {S : Option (List Nat)} (h : RP w pv F S) : ∀ k, own1 pv k → F k := by
  intro k hk
  unfold own1 at hk
  rcases h with ⟨h, _⟩ | ⟨p, h1, h2⟩
  · rw [h] at hk; cases hk
  · rw [h1] at hk; cases hk; exact h2.1
theorem getNum_none0 (most : Int) (S : Option (List Nat)) (h : (getNum most S).2 = none) : (getNum most S).1 = 0 := by
  cases S with
  | none => rfl
  | some L =>
    cases hp : pN 6 0 L with
    | none => rw [getNum_none_eq hp]
    | some x =>
      obtain ⟨v, k⟩ := x
      rw [getNum_some_eq hp] at h ⊢
      by_cases h2 : (v : Int) ≤ most ∧ v ≤ maxNum
      · rw [if_pos h2] at h; cases h
      · rw [if_neg h2]
/-- A number that is there takes a byte at least, and is in its bounds. -/
theorem getNum_more (most : Int) (S : Option (List Nat)) (L' : List Nat) (h : (getNum most S).2 = some L') : L'.length + 1 ≤ szO S ∧ ((getNum most S).1 : Int) ≤ most ∧ (getNum most S).1 ≤ maxNum := by
  cases S with
  | none => cases h
  | some L =>
    cases hp : pN 6 0 L with
    | none => rw [getNum_none_eq hp] at h; cases h
    | some x =>
      obtain ⟨v, k⟩ := x
      have hk := pN_len 6 0 L v k hp
      rw [getNum_some_eq hp] at h ⊢
      by_cases h2 : (v : Int) ≤ most ∧ v ≤ maxNum
      · rw [if_pos h2] at h ⊢
        cases h
        refine ⟨?_, h2.1, h2.2⟩
        simp [szO]; omega
      · rw [if_neg h2] at h; cases h
theorem getRow_zero (most l : Int) (L : List Nat) : getRow most 0 l (some L) = some ([], L) := by simp [getRow]
theorem getRow_bad (most l : Int) (q : Nat) (L : List Nat) (h : (getNum (min most maxNum - l - 1) (some L)).2 = none) : getRow most (q + 1) l (some L) = none := by
  unfold getRow
  generalize getNum (min most maxNum - l - 1) (some L) = g at *
  obtain ⟨a, b⟩ := g
  simp only at h
  subst h
  rfl
theorem getRow_step (most l : Int) (q g : Nat) (L L' : List Nat) (h : getNum (min most maxNum - l - 1) (some L) = (g, some L')) : getRow most (q + 1) l (some L) = (getRow most q (l + 1 + g) (some L')).map fun x => ((l + 1 + g) :: x.1, x.2) := by
  rw [getRow]
  simp only [h]
/-- What is got with a row's rest. -/
def risOf : Nat × Option (List Nat) → Option (List Int × List Nat) → List Int × Option (List Nat)
  | _, none => ([], none)
  | _, some (r, L) => (r, some L)
theorem getRising_of (many most : Int) (S : Option (List Nat)) : getRising many most S = risOf (getNum many S) (getRow most (getNum many S).1 (-1) (getNum many S).2) := by
  unfold getRising
  rcases getNum many S with ⟨n, S'⟩
  simp only
  cases getRow most n (-1) S' with
  | none => rfl
  | some x => rfl
/-- What is left of a row behind k numbers. -/
def RowAt (total : Option (List Int × List Nat)) (most : Int) (q : Nat) (l : Int) (L : List Nat) (done : List Int) : Prop := total = (getRow most q l (some L)).map fun x => (done ++ x.1, x.2)
theorem RowAt.step {total : Option (List Int × List Nat)} {most l : Int} {q g : Nat} {L L' : List Nat} {done : List Int} (h : RowAt total most (q + 1) l L done) (hg : getNum (min most maxNum - l - 1) (some L) = (g, some L')) : RowAt total most q (l + 1 + g) L' (done ++ [l + 1 + g]) := by
  unfold RowAt at *
  rw [h, getRow_step most l q g L L' hg]
  cases getRow most q (l + 1 + g) (some L') with
  | none => rfl
  | some x => simp
theorem RowAt.bad {total : Option (List Int × List Nat)} {most l : Int} {q : Nat} {L : List Nat} {done : List Int} (h : RowAt total most (q + 1) l L done) (hg : (getNum (min most maxNum - l - 1) (some L)).2 = none) : total = none := by
  unfold RowAt at h
  rw [h, getRow_bad most l q L hg]; rfl
theorem RowAt.done {total : Option (List Int × List Nat)} {most l : Int} {L : List Nat} {done : List Int} (h : RowAt total most 0 l L done) : total = some (done, L) := by
  unfold RowAt at h
  rw [h, getRow_zero]; simp

set_option maxRecDepth 100000 in
set_option maxHeartbeats 1000000 in
theorem rdRising_any (pv : Value) (F : Nat → Prop) (S : Option (List Nat)) (many most : Int) (w : World) (h : RP w pv F S) (hF : ∀ k, F k → k < w.heap.size) (hmany : (Lit.int .i64 many).wf = true) (hmost : (Lit.int .i64 most).wf = true) (hS : szO S ≤ 1000000) :
    Calls Tryz.prog 115 #[pv, .int .i64 many, .int .i64 most] w fun e w' => ∃ v, e = .returned v ∧ w'.ownsRow w.heap.size 3 1 v (getRising many most S).1.length (li (getRising many most S).1) ∧ RP w' pv F (getRising many most S).2 ∧ Kept (own1 pv) w w' := by
  have hnum := rdNumber_any pv F S many w h hF hmany (by omega)
  have hlt := getNum_lt many S
  have hnz := getNum_none0 many S
  have hnm := getNum_more many S
  have HT := hide (getRising_of many most S)
  have hb0 := bounds_i64 hmost
  have hown : ∀ k, own1 pv k → k < w.heap.size := fun k hk => hF k (h.own k hk)
  obtain ⟨pa, hpv⟩ := h.form
  clear h hmany hmost
  generalize getNum many S = g at *
  obtain ⟨n, S1⟩ := g
  simp only at hlt hnz hnm hnum
  subst hpv
  obtain ⟨top, htop⟩ : ∃ top : Int, (most ≤ 1099511627776 ∧ top = most) ∨ (1099511627776 < most ∧ top = 1099511627776) := by
    by_cases hmm : most ≤ 1099511627776
    · exact ⟨_, .inl ⟨hmm, rfl⟩⟩
    · exact ⟨_, .inr ⟨by omega, rfl⟩⟩
  have HM : Hid (min most (maxNum : Int) = top) := by
    show min most (maxNum : Int) = top
    unfold maxNum
    rcases htop with ⟨h, rfl⟩ | ⟨h, rfl⟩
    · exact Int.min_eq_left h
    · exact Int.min_eq_right (by omega)
  have ht0 : -9223372036854775808 ≤ top ∧ top ≤ 1099511627776 := by omega
  have hnI : (n : Int) ≤ 1099511627776 := by unfold maxNum at hlt; omega
  have hbd : ∀ l : Int, -1 ≤ l → (l = -1 ∨ l ≤ top) → -9223372036854775808 ≤ top - l ∧ top - l ≤ 9223372036854775807 ∧ -9223372036854775808 ≤ top - l - 1 ∧ top - l - 1 ≤ 9223372036854775807 ∧ l ≤ 1099511627776 := fun l h1 h2 => by omega
  have hnumL : ∀ (W : World) (l : Int) (L' : List Nat), RP W (.pointer pa) F (some L') → (∀ k, F k → k < W.heap.size) → -1 ≤ l → (l = -1 ∨ l ≤ top) → L'.length ≤ 1000000 →
      Calls Tryz.prog 58 #[.pointer pa, .int .i64 (top - l - 1)] W fun e w' => e = .returned (.int .i64 ((getNum (min most maxNum - l - 1) (some L')).1 : Nat)) ∧ RP w' (.pointer pa) F (getNum (min most maxNum - l - 1) (some L')).2 ∧ Kept (own1 (.pointer pa)) W w' := by
    rw [HM.out]
    intro W l L' h1 h2 h3 h4 h5
    have := hbd l h3 h4
    exact rdNumber_any (.pointer pa) F (some L') (top - l - 1) W h1 h2 (wf64 this.2.2.1 this.2.2.2.1) (by show L'.length ≤ _; omega)
  have hstep : ∀ (l : Int) (L' L'' : List Nat), (getNum (min most maxNum - l - 1) (some L')).2 = some L'' → l + 1 + ((getNum (min most maxNum - l - 1) (some L')).1 : Int) ≤ top := by
    intro l L' L'' h
    have := getNum_more _ _ _ h
    rw [HM.out] at this ⊢
    omega
  have HBD := hide hbd
  have HNL := hide hnumL
  have HST := hide hstep
  have HNZ := hide hnz
  have HNM := hide hnm
  have HOW := hide hown
  clear hbd hnumL hstep hnz hnm hown hlt
  obtain ⟨i0, hi, hq0, hq1, hq2⟩ := info_parts info_int
  have HF := hide hF
  clear hF HM
  rcases htop with ⟨hmm, htop⟩ | ⟨hmm, htop⟩
  all_goals
    have HTop := hide htop
    clear htop
    go_enter Tryz.func115, Tryz.ntmps115
    go_wp2_with fail
    go_step3
    go_wp2_with fail
    refine hnum.mono ?_
    rintro e w1 ⟨rfl, hR1, hK1⟩
    clear hnum
    go_wp2_with fail
    go_step3
    go_wp2_with fail
    go_loopg [7, 10, 18] n (fun q s7 s10 s18 wr => ∃ (k : Nat) (l : Int) (done : List Int) (St : Option (List Nat)), k + q = n ∧ s10 = .int .i64 l ∧ s18 = .int .i64 (k : Nat) ∧ -1 ≤ l ∧ (l = -1 ∨ l ≤ top) ∧ wr.ownsRow w.heap.size 3 1 s7 done.length (li done) ∧ RP wr (.pointer pa) F St ∧ Kept (own1 (.pointer pa)) w wr ∧
      ((S1 = none ∧ n = 0 ∧ St = none ∧ done = []) ∨ (∃ L', St = some L' ∧ RowAt (getRow most n (-1) S1) most q l L' done ∧ done.length + L'.length ≤ 1000000)))
    case atStart =>
      refine ⟨0, -1, [], S1, by omega, rfl, rfl, by omega, .inl rfl, World.ownsRow_nil _ _ _ _, hR1, hK1, ?_⟩
      cases S1 with
      | none => exact .inl ⟨rfl, HNZ.out rfl, rfl, rfl⟩
      | some L1 =>
        refine .inr ⟨L1, rfl, ?_, ?_⟩
        · unfold RowAt
          cases getRow most n (-1) (some L1) with
          | none => rfl
          | some x => simp
        · have := (HNM.out L1 rfl).1
          simp; omega
    case round =>
      obtain ⟨k, l, done, St, hkq, rfl, rfl, hl1, hl2, hown, hR, hK, hinv⟩ := hrel
      cases gk with
      | zero =>
        obtain rfl : k = n := by omega
        clear hl2 hl1
        go_wp2_with fail
        rw [Exit.noGoto_ret]
        go_ret
        refine ⟨_, rfl, ?_⟩
        rw [HT.out]
        rcases hinv with ⟨rfl, rfl, rfl, rfl⟩ | ⟨L', rfl, hrow, hsz⟩
        · exact ⟨by simpa [risOf, getRow] using hown, by simpa [risOf, getRow] using hR, hK⟩
        · rw [hrow.done]
          exact ⟨hown, hR, hK⟩
      | succ q =>
        have hkz : (k : Int) < (n : Int) := by omega
        have hk0 : (0 : Int) ≤ (k : Int) := by omega
        rcases hinv with ⟨_, h0, _, _⟩ | ⟨L', rfl, hrow, hsz⟩
        · omega
        · have hFl : ∀ j, F j → j < wr.heap.size := fun j hj => by have := HF.out j hj; have := hK.size; omega
          have hnl := HNL.out wr l L' hR hFl hl1 hl2 (by omega)
          have hb := HBD.out l hl1 hl2
          have hst := hide (HST.out l L')
          have hbad := hide (fun e => hrow.bad e)
          have hgo := fun g L'' e => hrow.step (g := g) (L' := L'') e
          have hmo := hide (getNum_more (min most maxNum - l - 1) (some L'))
          rw [HTop.out] at hnl hb
          obtain ⟨b1, b2, b3, b4, b5⟩ := hb
          clear hrow hl2
          generalize getNum (min most maxNum - l - 1) (some L') = gg at *
          obtain ⟨g, S2⟩ := gg
          have hgo' := hide hgo
          clear hgo
          simp only at hnl
          go_wp2_with fail
          refine hnl.mono ?_
          rintro e w2 ⟨rfl, hR2, hK2⟩
          have hok := ok_any (.pointer pa) F S2 w2 hR2
          have hK02 := hK.trans hK2 (fun _ _ h => h)
          clear hnl
          cases S2 with
          | none =>
            simp only [Option.isSome_none] at hok
            go_wp2_with fail
            refine hok.mono ?_
            rintro e w3 ⟨rfl, rfl⟩
            go_wp2_with fail
            rw [Exit.noGoto_ret]
            go_ret
            refine ⟨_, rfl, ?_⟩
            rw [HT.out, hbad.out (by trivial)]
            exact ⟨World.ownsRow_nil _ _ _ _, hR2, hK02⟩
          | some L2 =>
            simp only [Option.isSome_some] at hok
            have hs2 := hst.out L2 rfl
            have hm2 := hmo.out L2 rfl
            simp only [szO] at hm2 hs2
            have hgb : (g : Int) ≤ 1099511627776 := by have := hm2.2.2; unfold maxNum at this; omega
            have hg0 : (0 : Int) ≤ (g : Int) := by omega
            have hsz2 : done.length + 1 + L2.length ≤ 1000000 := by omega
            have hown2 : w2.ownsRow w.heap.size 3 1 u7 done.length (li done) := owns_kept hown hK2 (fun gg hgg h => by
              have h1 := (owns_cells hown gg hgg).2.1
              have h2 := HOW.out gg h
              omega)
            have hRow := hide (hgo'.out g L2 rfl)
            have hs2' := hide hs2
            clear hm2 hs2 hown hst hmo hgo' hbad
            have hsz9 := hK02.size
            go_wp2_with fail
            refine hok.mono ?_
            rintro e w3 ⟨rfl, rfl⟩
            go_wp2_with (at_builtin; go_must (refine wpList_append_foot _ rfl (.tmp 30) (.tmp 32) 49 rfl 3 i0 (.int .i64 0) 8 Tryz.underlying49 hi hq0 hq1 hq2 rfl w.heap.size u7 done.length (li done) rfl (owns_thru hown2 (below_alloc _ _)) (some ⟨w2.heap.size, 0, none⟩) 1 1 [.int .i64 (l + ((g : Int) + 1))] rfl rfl (fun e => by cases e) (fun ad e => by cases e; exact cell_one_new _ _ _) (by simp [Value.oneCell']) (by unfold maxLen; omega) (by omega) (by simp; omega) ?_); intro A3 C3 w3 hown3 hg3)
            have hKa : Kept (fun _ => False) w2 (w2.alloc (.cells #[.int .i64 (l + ((g : Int) + 1))] 3)) := Kept.of_below (below_alloc _ _)
            have hKg := hg3.kept (F := fun j => u7.ownBlock = some j) (fun _ h => h)
            have hOw7 : ∀ j, u7.ownBlock = some j → w.heap.size ≤ j := fun j hj => (owns_cells hown2 j hj).2.1
            go_roundg q
            case measure => omega
            case rel =>
              refine ⟨k + 1, l + 1 + g, done ++ [l + 1 + (g : Int)], some L2, by omega, congrArg (Value.int .i64) (by omega), by go_num, by omega, .inr hs2'.out, ?_, ?_, ?_, .inr ⟨L2, rfl, hRow.out, by simp; omega⟩⟩
              · have e : l + ((g : Int) + 1) = l + 1 + g := by omega
                rw [e] at hown3
                rw [List.length_append, li_append]
                exact hown3
              · refine (hR2.kept hKa (fun _ _ h => h)).kept hKg (fun j hj h => ?_)
                have := hOw7 j h
                have := HF.out j hj
                omega
              · refine (hK02.trans hKa (fun _ _ h => h.elim)).trans hKg (fun j hj h => ?_)
                have := hOw7 j h
                omega
end Go.Proofs.YtppdbinppibjhaaGreatDoor
