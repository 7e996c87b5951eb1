/-
  mani.must; what Get does where it panics.
-/
import Derived.Test.YtppdbinppibjhaaGreatDoorMPut
import Derived.Test.YtppdbinppibjhaaGreatDoorRowP
import Derived.Test.YtppdbinppibjhaaGreatDoorRdAlls
import Derived.Test.YtppdbinppibjhaaGreatDoorFGet
import Derived.Test.YtppdbinppibjhaaGreatDoorRegC
import Derived.RecoverIn
import Derived.Lib.SmallJoins
import Derived.WalkLawsBesides
set_option maxHeartbeats 4000000
set_option maxRecDepth 100000
set_option linter.unusedVariables false
set_option linter.unusedSimpArgs false
namespace Go.Proofs.YtppdbinppibjhaaGreatDoor
open Go.RowKit Go.Shelf
attribute [local go_sem] Oper.semAt_some
def wrongV : PanicEntry := { v := .iface 106 (.agg #[.int .i64 9]), recovered := false }
theorem must_true (w : World) : Calls Tryz.prog 56 #[.bool true] w fun e w' => e = .returned (.tuple #[]) ∧ w = w' := by
 go_enter Tryz.func56, Tryz.ntmps56
 go_wp2
 go_end0
 exact ⟨rfl, rfl⟩
theorem must_false (w : World) : Calls Tryz.prog 56 #[.bool false] w fun e w' => e = .panicked [wrongV] ∧ w = w' := by
 go_enter Tryz.func56, Tryz.ntmps56
 go_wp2
 exact ⟨rfl, rfl, rfl⟩
theorem getD_idle (n : Nat) (bm be : Nat) (w : World) :
  CallsDIn Fence.wide n Tryz.prog 54 #[.pointer (some ⟨bm, 0, none⟩), .pointer (some ⟨be, 0, none⟩)] .returning w fun e u' w' => e = .returned (.tuple #[]) ∧ u' = .returning ∧ w' = w := by
 refine callsDIn_of_wpSIn Tryz.func54 rfl trivial fun c₀ cs hu => ?_
 apply wpSIn_seq
 apply wpSIn_region
 simp [wpOpsSIn, go_sem, recoverD, hu, Tryz.ntmps54, Exit.thenS, Fence.wide]
 refine wpSIn_of_wpIn rfl ?_
 gi_wp2
 cases c₀
 simp_all [bodyPostS, results, Tryz.results54]
theorem getD_panic (n : Nat) (bm be : Nat) (x y z : Value) (w : World) (hne : bm ≠ be) (hm : w.heap[bm]? = some (.cells #[x, y] 24 (0, 0))) (he : w.heap[be]? = some (.cells #[z] 29 (0, 0))) :
  CallsDIn Fence.wide n Tryz.prog 54 #[.pointer (some ⟨bm, 0, none⟩), .pointer (some ⟨be, 0, none⟩)] (.panicking [wrongV]) w fun e u' w' => e = .returned (.tuple #[]) ∧ u' = .panicking [{ wrongV with recovered := true }] ∧
   w'.heap[bm]? = some (.cells #[.int .i64 0, .slice none 0 0] 24 (0, 0)) ∧ w'.heap[be]? = some (.cells #[.int .i64 9] 29 (0, 0)) ∧ Kept (fun k => k = bm ∨ k = be) w w' := by
 refine callsDIn_of_wpSIn Tryz.func54 rfl trivial fun c₀ cs hu => ?_
 apply wpSIn_seq
 apply wpSIn_region
 simp [wpOpsSIn, go_sem, recoverD, hu, Tryz.ntmps54, Exit.thenS, Fence.wide, wrongV]
 refine wpSIn_of_wpIn rfl ?_
 have hmix : Tryz.prog.follows .mixedOrders = true := by kernel_rfl
 have hta : ∀ W : World, (Instr.typeAssert (.iface 106 (.agg #[.int .i64 9])) 20 106 false).run Tryz.prog W = .ok (.agg #[.int .i64 9]) W := fun W => rfl
 have hfd : ∀ W : World, (Instr.field 106 (.agg #[.int .i64 9]) 0).run Tryz.prog W = .ok (.int .i64 9) W := fun W => rfl
 obtain ⟨c0, c1⟩ := cells2_at hm
 have f0 := frozen_of_row w bm 0 _ _ hm
 have f1 := frozen_of_row w bm 1 _ _ hm
 obtain ⟨d0, g0⟩ := hcell1 he
 have hne' : be ≠ bm := fun e => hne e.symm
 show Code.wpIn Fence.wide n _ _ _ _ _
 simp only [Array.replicate_succ, Array.replicate_zero, List.push_toArray, List.append_toArray, List.nil_append, List.cons_append, List.setIfInBounds_toArray, List.set_cons_succ, List.set_cons_zero]
 gi_wp2
 gi_region_o
 have b1 := Go.Joins.block_setCell (i := 1) (Go.Joins.block_setCell (i := 0) hm (.int .i64 0)) (.slice none 0 0)
 have e1 : ((w.setCell ⟨bm, 0, none⟩ (.int .i64 0)).setCell ⟨bm, 1, none⟩ (.slice none 0 0)).heap[be]? = some (.cells #[z] 29 (0, 0)) := by
  rw [Below.heap_setCell _ _ _ _ hne', Below.heap_setCell _ _ _ _ hne']; exact he
 refine ⟨rfl, _, rfl, .tuple #[], results_none rfl _ _ _, rfl, rfl, ?_, ?_, ?_⟩
 ·show (World.setCell _ _ _).heap[bm]? = _
  rw [Below.heap_setCell _ _ _ _ hne]
  exact b1
 ·show (World.setCell _ _ _).heap[be]? = _
  exact Go.Joins.block_setCell (i := 0) e1 (.int .i64 9)
 ·exact ((((Kept.refl (fun k => k = bm ∨ k = be) w).setCell (p := ⟨bm, 0, none⟩) (.inl (.inl rfl)) _).setCell (p := ⟨bm, 1, none⟩) (.inl (.inl rfl)) _).setCell (p := ⟨be, 0, none⟩) (.inl (.inr rfl)) _).drew
end Go.Proofs.YtppdbinppibjhaaGreatDoor
/-
  Shards, one by one (plain Lean); how much is left.
-/
namespace Go.Proofs.YtppdbinppibjhaaGreatDoor
def oneG (M : List Nat) : ST × Option (List Nat) :=
 (⟨((getNum maxNum (some M)).1 : Int), ((getNum 67108864 (getNum maxNum (some M)).2).1 : Int), (getFix (getNum 67108864 (getNum maxNum (some M)).2).2).1, (getRising 4000 3999 (getFix (getNum 67108864 (getNum maxNum (some M)).2).2).2).1⟩, (getRising 4000 3999 (getFix (getNum 67108864 (getNum maxNum (some M)).2).2).2).2)
theorem shardsG_cons (k : Nat) (M : List Nat) : shardsG (k + 1) (some M) = ((oneG M).1 :: (shardsG k (oneG M).2).1, (shardsG k (oneG M).2).2) := rfl
theorem shardsG_zero (S : Option (List Nat)) : shardsG 0 S = ([], S) := rfl
theorem shardsG_snoc : ∀ (k : Nat) (S : Option (List Nat)) (M : List Nat), (shardsG k S).2 = some M → shardsG (k + 1) S = ((shardsG k S).1 ++ [(oneG M).1], (oneG M).2)
 | 0, S, M, h => by
   rw [shardsG_zero] at h
   simp only at h
   subst h
   rw [shardsG_cons, shardsG_zero, shardsG_zero]
   rfl
 | k + 1, none, M, h => by rw [shardsG_none] at h; cases h
 | k + 1, some M0, M, h => by
   rw [shardsG_cons] at h
   simp only at h
   have ih := shardsG_snoc k (oneG M0).2 M h
   rw [shardsG_cons (k + 1), ih, shardsG_cons k]
   rfl
theorem shardsG_bad : ∀ (k : Nat) (S : Option (List Nat)), (shardsG k S).2 = none → (shardsG (k + 1) S).2 = none
 | 0, S, h => by
   rw [shardsG_zero] at h
   simp only at h
   subst h
   rfl
 | k + 1, none, _ => shardsG_none _
 | k + 1, some M0, h => by
   rw [shardsG_cons] at h
   simp only at h
   have ih := shardsG_bad k (oneG M0).2 h
   rw [shardsG_cons (k + 1)]
   exact ih
theorem shardsG_bads {k : Nat} {S : Option (List Nat)} (h : (shardsG k S).2 = none) : ∀ m, (shardsG (k + m) S).2 = none
 | 0 => h
 | m + 1 => shardsG_bad (k + m) S (shardsG_bads h m)
theorem getFixS (S : Option (List Nat)) : szO (getFix S).2 ≤ szO S := by
 cases S with
 | none => exact Nat.le_refl _
 | some L =>
   unfold getFix
   simp only
   split
   ·simp [szO]
   ·simp [szO]
theorem getRowS (most : Int) : ∀ (k : Nat) (l : Int) (M R : List Nat) (D : List Int), getRow most k l (some M) = some (D, R) → R.length ≤ M.length ∧ D.length = k
 | 0, l, M, R, D, h => by
   simp [getRow] at h
   obtain ⟨rfl, rfl⟩ := h
   exact ⟨Nat.le_refl _, rfl⟩
 | k + 1, l, M, R, D, h => by
   unfold getRow at h
   have hs := (getNum_lt (min most maxNum - l - 1) (some M)).2
   cases hn : getNum (min most maxNum - l - 1) (some M) with
   | mk g S =>
     rw [hn] at h hs
     cases S with
     | none => simp at h
     | some L' =>
       simp only at h
       obtain ⟨x, hx, hxe⟩ := Option.map_eq_some_iff.1 h
       obtain ⟨D', R'⟩ := x
       simp only [Prod.mk.injEq] at hxe
       obtain ⟨rfl, rfl⟩ := hxe
       have ih := getRowS most k _ L' R' D' hx
       simp only [szO] at hs
       exact ⟨by omega, by simp [ih.2]⟩
theorem getRisingS (many most : Int) (S : Option (List Nat)) : szO (getRising many most S).2 ≤ szO S ∧ ((getRising many most S).1.length : Int) ≤ max 0 many := by
 have hs := (getNum_lt many S).2
 unfold getRising
 cases hn : getNum many S with
 | mk n S' =>
   rw [hn] at hs
   simp only
   cases S' with
   | none => cases n <;> simp [getRow, szO] <;> omega
   | some L =>
     cases hg : getRow most n (-1) (some L) with
     | none => simp [szO]; omega
     | some x =>
       obtain ⟨D, R⟩ := x
       have := getRowS most n (-1) L R D hg
       simp only [szO] at hs ⊢
       refine ⟨by omega, ?_⟩
       cases S with
       | none => simp [getNum] at hn
       | some M =>
         obtain ⟨_, _, _, h2, _⟩ := getNum_some hn
         omega
theorem oneG_sz (M : List Nat) : szO (oneG M).2 ≤ M.length := by
 have h1 := (getNum_lt maxNum (some M)).2
 have h2 := (getNum_lt 67108864 (getNum maxNum (some M)).2).2
 have h3 := getFixS (getNum 67108864 (getNum maxNum (some M)).2).2
 have h4 := (getRisingS 4000 3999 (getFix (getNum 67108864 (getNum maxNum (some M)).2).2).2).1
 have h0 : szO (some M) = M.length := rfl
 unfold oneG
 simp only
 omega
theorem shardsG_sz : ∀ (k : Nat) (S : Option (List Nat)), szO (shardsG k S).2 ≤ szO S ∧ (shardsG k S).1.length ≤ k
 | 0, S => ⟨Nat.le_refl _, Nat.zero_le _⟩
 | k + 1, none => by rw [shardsG_none]; exact ⟨Nat.zero_le _, Nat.zero_le _⟩
 | k + 1, some M => by
   have h1 := shardsG_sz k (oneG M).2
   have h2 := oneG_sz M
   rw [shardsG_cons]
   simp only [szO, List.length_cons] at h1 h2 ⊢
   exact ⟨by omega, by omega⟩
open Go.RowKit Go.Shelf
abbrev mshr_o0 : Oper := ⟨some 9, .fieldAddr 113 (.tmp 1) 0, 0, "mani.go:104", #[], none⟩
abbrev mshr_o1 : Oper := ⟨some 10, .load 110 (.tmp 9), 110, "mani.go:104", #[⟨0, .data⟩], none⟩
abbrev mshr_o2 : Oper := ⟨some 11, .call ⟨.value (.func 58), #[.tmp 10, .const (.int .i64 1099511627776)], #[110, 3]⟩, 3, "mani.go:104", #[⟨1, .data⟩], none⟩
abbrev mshr_o3 : Oper := ⟨some 12, .fieldAddr 113 (.tmp 1) 0, 0, "mani.go:104", #[], none⟩
abbrev mshr_o4 : Oper := ⟨some 13, .load 110 (.tmp 12), 110, "mani.go:104", #[⟨3, .data⟩], none⟩
abbrev mshr_o5 : Oper := ⟨some 14, .call ⟨.value (.func 58), #[.tmp 13, .const (.int .i64 67108864)], #[110, 3]⟩, 3, "mani.go:104", #[⟨4, .data⟩, ⟨2, .chain⟩], none⟩
abbrev mshr_o6 : Oper := ⟨some 15, .fieldAddr 54 (.tmp 3) 0, 0, "mani.go:104", #[⟨0, .phase⟩, ⟨1, .phase⟩, ⟨2, .phase⟩, ⟨3, .textOnly .lateStores⟩, ⟨4, .textOnly .lateStores⟩, ⟨5, .textOnly .lateStoresUnsure⟩], none⟩
abbrev mshr_o7 : Oper := ⟨none, .store 3 (.tmp 15) (.tmp 11), 0, "mani.go:104", #[⟨6, .data⟩, ⟨2, .data⟩, ⟨5, .chain⟩, ⟨0, .phase⟩, ⟨1, .phase⟩, ⟨2, .phase⟩, ⟨3, .textOnly .lateStores⟩, ⟨4, .textOnly .lateStores⟩, ⟨5, .textOnly .lateStoresUnsure⟩], none⟩
abbrev mshr_o8 : Oper := ⟨some 16, .fieldAddr 54 (.tmp 3) 1, 0, "mani.go:104", #[⟨0, .phase⟩, ⟨1, .phase⟩, ⟨2, .phase⟩, ⟨3, .phase⟩, ⟨4, .phase⟩, ⟨5, .phase⟩, ⟨6, .phase⟩, ⟨7, .phase⟩], none⟩
abbrev mshr_o9 : Oper := ⟨none, .store 3 (.tmp 16) (.tmp 14), 0, "mani.go:104", #[⟨8, .data⟩, ⟨5, .data⟩, ⟨7, .chain⟩, ⟨0, .phase⟩, ⟨1, .phase⟩, ⟨2, .phase⟩, ⟨3, .phase⟩, ⟨4, .phase⟩, ⟨5, .phase⟩, ⟨6, .phase⟩, ⟨7, .phase⟩], none⟩
def mshr_ops : Array Oper := #[mshr_o0, mshr_o1, mshr_o2, mshr_o3, mshr_o4, mshr_o5, mshr_o6, mshr_o7, mshr_o8, mshr_o9]
abbrev mshr_mem (s : Nat) : Prop := s ∈ [9, 10, 11, 12, 13, 14, 15]
theorem mshr_slots : ∀ j, j < 7 → mshr_mem (slotOf mshr_ops j) := by
 intro j hj
 match j, hj with
 | 0, _ => exact (by decide : mshr_mem 9)
 | 1, _ => exact (by decide : mshr_mem 10)
 | 2, _ => exact (by decide : mshr_mem 11)
 | 3, _ => exact (by decide : mshr_mem 12)
 | 4, _ => exact (by decide : mshr_mem 13)
 | 5, _ => exact (by decide : mshr_mem 14)
 | 6, _ => exact (by decide : mshr_mem 15)
 | k + 7, hj => omega
def mshr_val (b1 q : Nat) (pv : Value) (G : Nat → Prop) (S : Option (List Nat)) : Nat → Value → World → Prop
 | 0, v, w => v = .pointer (some ⟨b1, 0, none⟩)
 | 1, v, w => v = pv
 | 2, v, w => v = .int .i64 ((getNum maxNum S).1 : Nat)
 | 3, v, w => v = .pointer (some ⟨b1, 0, none⟩)
 | 4, v, w => v = pv
 | 5, v, w => v = .int .i64 ((getNum 67108864 (getNum maxNum S).2).1 : Nat)
 | 6, v, w => v = .pointer (some ⟨q, 0, none⟩)
 | _, _, _ => True
theorem mshr_below (b1 q : Nat) (pv : Value) (G : Nat → Prop) (S : Option (List Nat)) (w w' : World) (hb : Kept (own1 pv) w w') : ∀ j v, mshr_val b1 q pv G S j v w → mshr_val b1 q pv G S j v w' := by
 intro j v h
 match j, h with
 | 0, h | 1, h | 2, h | 3, h | 4, h | 5, h | 6, h => exact h
 | _ + 7, h => exact h
def mshr_T (b1 q : Nat) (pv : Value) (G : Nat → Prop) (S : Option (List Nat)) : Nat → World → Prop
 | 0, w => RP w pv G S
 | 1, w => RP w pv G (getNum maxNum S).2
 | 2, w => RP w pv G (getNum 67108864 (getNum maxNum S).2).2
 | _, _ => True
theorem mshr_T_below (b1 q : Nat) (pv : Value) (G : Nat → Prop) (S : Option (List Nat)) (w w' : World) (hb : Below w.heap.size w w') : ∀ k, mshr_T b1 q pv G S k w → mshr_T b1 q pv G S k w' := by
 intro k h
 match k, h with
 | 0, h | 1, h | 2, h => exact h.kept (Kept.of_below (F := fun _ => False) hb) (fun _ _ h => h)
 | _ + 3, h => trivial
theorem mshr_s0 {Fc : Fence} (hF : Wide Fc) {nC : Nat} (b1 q : Nat) (pv : Value) (G : Nat → Prop) (S : Option (List Nat)) (Q : Exit → Act → World → Prop) (df : List Deferred) (w0 : World)
  (h1 : w0.cell? ⟨b1, 0, none⟩ = some pv) (hne : ¬ own1 pv b1) (hG : ∀ k, G k → k < w0.heap.size) (hS : szO S ≤ 9223372036854775807) (hS2 : szO (getNum maxNum S).2 ≤ 9223372036854775807)
  (x : Act) (w : World) (hB : Kept (own1 pv) w0 w) (hdef : x.defers = df) (u1 : x.tmps.getD 1 undef = .pointer (some ⟨b1, 0, none⟩)) (u3 : x.tmps.getD 3 undef = .pointer (some ⟨q, 0, none⟩))
  : wpOpIn Fc nC Tryz.prog mshr_ops Q 0 (fun a' w' => ∃ v, a' = x.put (some 9) v ∧ (v = .pointer (some ⟨b1, 0, none⟩)) ∧ Below w.heap.size w w') x w := by
 have ho : mshr_ops[0]? = some mshr_o0 := rfl
 simp only [Array.getD_eq_getD_getElem?] at u1 u3
 refine wpOpIn_plain ho rfl (oper_inK hF.fn (fun K hK => ?_))
 clear ho
 rw [Oper.semAt_plain Fc _ _ (by intro c h; cases h)]
 simp only [mshr_o0]
 go_simp
 exact hK _ _ ⟨_, act_putD x hdef _ _, rfl, Below.refl _ _⟩
theorem mshr_s1 {Fc : Fence} (hF : Wide Fc) {nC : Nat} (b1 q : Nat) (pv : Value) (G : Nat → Prop) (S : Option (List Nat)) (Q : Exit → Act → World → Prop) (df : List Deferred) (w0 : World)
  (h1 : w0.cell? ⟨b1, 0, none⟩ = some pv) (hne : ¬ own1 pv b1) (hG : ∀ k, G k → k < w0.heap.size) (hS : szO S ≤ 9223372036854775807) (hS2 : szO (getNum maxNum S).2 ≤ 9223372036854775807)
  (x : Act) (w : World) (hB : Kept (own1 pv) w0 w) (hdef : x.defers = df) (u1 : x.tmps.getD 1 undef = .pointer (some ⟨b1, 0, none⟩)) (u3 : x.tmps.getD 3 undef = .pointer (some ⟨q, 0, none⟩))
  (p0 : mshr_val b1 q pv G S 0 (x.tmps.getD 9 undef) w)
  : wpOpIn Fc nC Tryz.prog mshr_ops Q 1 (fun a' w' => ∃ v, a' = x.put (some 10) v ∧ (v = pv) ∧ Below w.heap.size w w') x w := by
 have ho : mshr_ops[1]? = some mshr_o1 := rfl
 simp only [Array.getD_eq_getD_getElem?] at u1 u3
 have q0 : x.tmps.getD 9 undef = .pointer (some ⟨b1, 0, none⟩) := p0
 simp only [Array.getD_eq_getD_getElem?] at q0
 have m := hB.cell h1 hne
 refine wpOpIn_plain ho rfl (oper_inK hF.fn (fun K hK => ?_))
 clear ho
 rw [Oper.semAt_plain Fc _ _ (by intro c h; cases h)]
 simp only [mshr_o1]
 go_simp
 exact hK _ _ ⟨_, act_putD x hdef _ _, rfl, Below.refl _ _⟩
theorem mshr_s2 {Fc : Fence} (hF : Wide Fc) {nC : Nat} (b1 q : Nat) (pv : Value) (G : Nat → Prop) (S : Option (List Nat)) (Q : Exit → Act → World → Prop) (df : List Deferred) (w0 : World)
  (h1 : w0.cell? ⟨b1, 0, none⟩ = some pv) (hne : ¬ own1 pv b1) (hG : ∀ k, G k → k < w0.heap.size) (hS : szO S ≤ 9223372036854775807) (hS2 : szO (getNum maxNum S).2 ≤ 9223372036854775807)
  (x : Act) (w : World) (hB : Kept (own1 pv) w0 w) (hdef : x.defers = df) (hT : mshr_T b1 q pv G S 0 w) (u1 : x.tmps.getD 1 undef = .pointer (some ⟨b1, 0, none⟩)) (u3 : x.tmps.getD 3 undef = .pointer (some ⟨q, 0, none⟩))
  (p1 : mshr_val b1 q pv G S 1 (x.tmps.getD 10 undef) w)
  : wpOpIn Fc nC Tryz.prog mshr_ops Q 2 (fun a' w' => ∃ v, a' = x.put (some 11) v ∧ (v = .int .i64 ((getNum maxNum S).1 : Nat)) ∧ Kept (own1 pv) w w' ∧ mshr_T b1 q pv G S 1 w') x w := by
 have ho : mshr_ops[2]? = some mshr_o2 := rfl
 simp only [Array.getD_eq_getD_getElem?] at u1 u3
 have q1 : x.tmps.getD 10 undef = pv := p1
 simp only [Array.getD_eq_getD_getElem?] at q1
 refine wpOpIn_plain ho rfl (oper_inK hF.fn (fun K hK => ?_))
 clear ho
 rw [Oper.semAt_plain Fc _ _ (by intro c h; cases h)]
 simp only [mshr_o2]
 go_simp
 refine ⟨hF.deep, (hF.call (rdNumber_any pv G S maxNum w hT (fun k hk => Nat.lt_of_lt_of_le (hG k hk) hB.size) (by decide) hS)).mono ?_⟩
 rintro e w' ⟨rfl, hr, hk⟩
 exact hK _ _ ⟨_, act_putD x hdef _ _, rfl, hk.mono (fun _ _ h => h), hr⟩
theorem mshr_s3 {Fc : Fence} (hF : Wide Fc) {nC : Nat} (b1 q : Nat) (pv : Value) (G : Nat → Prop) (S : Option (List Nat)) (Q : Exit → Act → World → Prop) (df : List Deferred) (w0 : World)
  (h1 : w0.cell? ⟨b1, 0, none⟩ = some pv) (hne : ¬ own1 pv b1) (hG : ∀ k, G k → k < w0.heap.size) (hS : szO S ≤ 9223372036854775807) (hS2 : szO (getNum maxNum S).2 ≤ 9223372036854775807)
  (x : Act) (w : World) (hB : Kept (own1 pv) w0 w) (hdef : x.defers = df) (u1 : x.tmps.getD 1 undef = .pointer (some ⟨b1, 0, none⟩)) (u3 : x.tmps.getD 3 undef = .pointer (some ⟨q, 0, none⟩))
  : wpOpIn Fc nC Tryz.prog mshr_ops Q 3 (fun a' w' => ∃ v, a' = x.put (some 12) v ∧ (v = .pointer (some ⟨b1, 0, none⟩)) ∧ Below w.heap.size w w') x w := by
 have ho : mshr_ops[3]? = some mshr_o3 := rfl
 simp only [Array.getD_eq_getD_getElem?] at u1 u3
 refine wpOpIn_plain ho rfl (oper_inK hF.fn (fun K hK => ?_))
 clear ho
 rw [Oper.semAt_plain Fc _ _ (by intro c h; cases h)]
 simp only [mshr_o3]
 go_simp
 exact hK _ _ ⟨_, act_putD x hdef _ _, rfl, Below.refl _ _⟩
theorem mshr_s4 {Fc : Fence} (hF : Wide Fc) {nC : Nat} (b1 q : Nat) (pv : Value) (G : Nat → Prop) (S : Option (List Nat)) (Q : Exit → Act → World → Prop) (df : List Deferred) (w0 : World)
  (h1 : w0.cell? ⟨b1, 0, none⟩ = some pv) (hne : ¬ own1 pv b1) (hG : ∀ k, G k → k < w0.heap.size) (hS : szO S ≤ 9223372036854775807) (hS2 : szO (getNum maxNum S).2 ≤ 9223372036854775807)
  (x : Act) (w : World) (hB : Kept (own1 pv) w0 w) (hdef : x.defers = df) (u1 : x.tmps.getD 1 undef = .pointer (some ⟨b1, 0, none⟩)) (u3 : x.tmps.getD 3 undef = .pointer (some ⟨q, 0, none⟩))
  (p3 : mshr_val b1 q pv G S 3 (x.tmps.getD 12 undef) w)
  : wpOpIn Fc nC Tryz.prog mshr_ops Q 4 (fun a' w' => ∃ v, a' = x.put (some 13) v ∧ (v = pv) ∧ Below w.heap.size w w') x w := by
 have ho : mshr_ops[4]? = some mshr_o4 := rfl
 simp only [Array.getD_eq_getD_getElem?] at u1 u3
 have q3 : x.tmps.getD 12 undef = .pointer (some ⟨b1, 0, none⟩) := p3
 simp only [Array.getD_eq_getD_getElem?] at q3
 have m := hB.cell h1 hne
 refine wpOpIn_plain ho rfl (oper_inK hF.fn (fun K hK => ?_))
 clear ho
 rw [Oper.semAt_plain Fc _ _ (by intro c h; cases h)]
 simp only [mshr_o4]
 go_simp
 exact hK _ _ ⟨_, act_putD x hdef _ _, rfl, Below.refl _ _⟩
theorem mshr_s5 {Fc : Fence} (hF : Wide Fc) {nC : Nat} (b1 q : Nat) (pv : Value) (G : Nat → Prop) (S : Option (List Nat)) (Q : Exit → Act → World → Prop) (df : List Deferred) (w0 : World)
  (h1 : w0.cell? ⟨b1, 0, none⟩ = some pv) (hne : ¬ own1 pv b1) (hG : ∀ k, G k → k < w0.heap.size) (hS : szO S ≤ 9223372036854775807) (hS2 : szO (getNum maxNum S).2 ≤ 9223372036854775807)
  (x : Act) (w : World) (hB : Kept (own1 pv) w0 w) (hdef : x.defers = df) (hT : mshr_T b1 q pv G S 1 w) (u1 : x.tmps.getD 1 undef = .pointer (some ⟨b1, 0, none⟩)) (u3 : x.tmps.getD 3 undef = .pointer (some ⟨q, 0, none⟩))
  (p4 : mshr_val b1 q pv G S 4 (x.tmps.getD 13 undef) w)
  : wpOpIn Fc nC Tryz.prog mshr_ops Q 5 (fun a' w' => ∃ v, a' = x.put (some 14) v ∧ (v = .int .i64 ((getNum 67108864 (getNum maxNum S).2).1 : Nat)) ∧ Kept (own1 pv) w w' ∧ mshr_T b1 q pv G S 2 w') x w := by
 have ho : mshr_ops[5]? = some mshr_o5 := rfl
 simp only [Array.getD_eq_getD_getElem?] at u1 u3
 have q4 : x.tmps.getD 13 undef = pv := p4
 simp only [Array.getD_eq_getD_getElem?] at q4
 refine wpOpIn_plain ho rfl (oper_inK hF.fn (fun K hK => ?_))
 clear ho
 rw [Oper.semAt_plain Fc _ _ (by intro c h; cases h)]
 simp only [mshr_o5]
 go_simp
 refine ⟨hF.deep, (hF.call (rdNumber_any pv G (getNum maxNum S).2 67108864 w hT (fun k hk => Nat.lt_of_lt_of_le (hG k hk) hB.size) (by decide) hS2)).mono ?_⟩
 rintro e w' ⟨rfl, hr, hk⟩
 exact hK _ _ ⟨_, act_putD x hdef _ _, rfl, hk.mono (fun _ _ h => h), hr⟩
theorem mshr_s6 {Fc : Fence} (hF : Wide Fc) {nC : Nat} (b1 q : Nat) (pv : Value) (G : Nat → Prop) (S : Option (List Nat)) (Q : Exit → Act → World → Prop) (df : List Deferred) (w0 : World)
  (h1 : w0.cell? ⟨b1, 0, none⟩ = some pv) (hne : ¬ own1 pv b1) (hG : ∀ k, G k → k < w0.heap.size) (hS : szO S ≤ 9223372036854775807) (hS2 : szO (getNum maxNum S).2 ≤ 9223372036854775807)
  (x : Act) (w : World) (hB : Kept (own1 pv) w0 w) (hdef : x.defers = df) (u1 : x.tmps.getD 1 undef = .pointer (some ⟨b1, 0, none⟩)) (u3 : x.tmps.getD 3 undef = .pointer (some ⟨q, 0, none⟩))
  : wpOpIn Fc nC Tryz.prog mshr_ops Q 6 (fun a' w' => ∃ v, a' = x.put (some 15) v ∧ (v = .pointer (some ⟨q, 0, none⟩)) ∧ Below w.heap.size w w') x w := by
 have ho : mshr_ops[6]? = some mshr_o6 := rfl
 simp only [Array.getD_eq_getD_getElem?] at u1 u3
 refine wpOpIn_plain ho rfl (oper_inK hF.fn (fun K hK => ?_))
 clear ho
 rw [Oper.semAt_plain Fc _ _ (by intro c h; cases h)]
 simp only [mshr_o6]
 go_simp
 exact hK _ _ ⟨_, act_putD x hdef _ _, rfl, Below.refl _ _⟩
theorem mshr {Fc : Fence} (hF : Wide Fc) {nC : Nat} (b1 q : Nat) (pv : Value) (G : Nat → Prop) (S : Option (List Nat)) (Q : Exit → Act → World → Prop) (t0 : Array Value) (df : List Deferred) (w0 : World) (ht : t0.size = 34)
  (hs1 : t0.getD 1 undef = .pointer (some ⟨b1, 0, none⟩)) (hs3 : t0.getD 3 undef = .pointer (some ⟨q, 0, none⟩))
  (h1 : w0.cell? ⟨b1, 0, none⟩ = some pv) (hne : ¬ own1 pv b1) (hG : ∀ k, G k → k < w0.heap.size) (hS : szO S ≤ 9223372036854775807) (hS2 : szO (getNum maxNum S).2 ≤ 9223372036854775807)
  (hT0 : mshr_T b1 q pv G S 0 w0)
  (hQ : ∀ (vs : Nat → Value) (w : World), Kept (own1 pv) w0 w → mshr_T b1 q pv G S 2 w → (vs 11 = .int .i64 ((getNum maxNum S).1 : Nat)) → (vs 14 = .int .i64 ((getNum 67108864 (getNum maxNum S).2).1 : Nat)) → (vs 15 = .pointer (some ⟨q, 0, none⟩)) → wpOpIn Fc nC Tryz.prog mshr_ops Q 7 (fun a' w' => wpOpIn Fc nC Tryz.prog mshr_ops Q 8 (fun a' w' => wpOpIn Fc nC Tryz.prog mshr_ops Q 9 (Q .normal) a' w') a' w') { tmps := [9, 10, 11, 12, 13, 14, 15].foldl (fun y d => y.setIfInBounds d (vs d)) t0, defers := df } w) :
  (Code.region 3 mshr_ops true).wpIn Fc nC Tryz.prog Q { tmps := t0, defers := df } w0 := by
 refine wpIn_region_chain 7 (by decide) (by kernel_rfl) [2, 5] (fun a b => Kept (own1 pv) a b) (fun a b => Below a.heap.size a b) (mshr_T b1 q pv G S) (mshr_val b1 q pv G S) t0 df w0 (by rw [ht]; kernel_rfl) (by kernel_rfl) (by kernel_rfl) (by kernel_rfl) (by kernel_rfl) ((Below.refl _ _).drew) hT0 (fun _ _ h => Kept.of_below h) (fun a b h k => mshr_T_below b1 q pv G S a b h k) (fun _ _ _ h k => h.trans k (fun _ _ h => h)) (mshr_below b1 q pv G S) ?_ ?_ ?_
 ·intro j o ho hj hnC x w hB hdef hsz hs hdeps
  have hs' : ∀ s, ¬ mshr_mem s → x.tmps.getD s undef = t0.getD s undef := fun s hn => hs s (fun j hj e => hn (by rw [e]; exact mshr_slots j hj))
  have u1 := (hs' 1 (by decide)).trans hs1
  have u3 := (hs' 3 (by decide)).trans hs3
  match j, ho, hj with
  | 0, ho, _ =>
    have e : o = mshr_o0 := (Option.some.inj ho).symm
    subst e
    exact mshr_s0 hF b1 q pv G S Q df w0 h1 hne hG hS hS2 x w hB hdef u1 u3 
  | 1, ho, _ =>
    have e : o = mshr_o1 := (Option.some.inj ho).symm
    subst e
    exact mshr_s1 hF b1 q pv G S Q df w0 h1 hne hG hS hS2 x w hB hdef u1 u3 (hdeps ⟨0, .data⟩ (by simp) rfl)
  | 2, ho, _ => exact absurd (by decide) hnC
  | 3, ho, _ =>
    have e : o = mshr_o3 := (Option.some.inj ho).symm
    subst e
    exact mshr_s3 hF b1 q pv G S Q df w0 h1 hne hG hS hS2 x w hB hdef u1 u3 
  | 4, ho, _ =>
    have e : o = mshr_o4 := (Option.some.inj ho).symm
    subst e
    exact mshr_s4 hF b1 q pv G S Q df w0 h1 hne hG hS hS2 x w hB hdef u1 u3 (hdeps ⟨3, .data⟩ (by simp) rfl)
  | 5, ho, _ => exact absurd (by decide) hnC
  | 6, ho, _ =>
    have e : o = mshr_o6 := (Option.some.inj ho).symm
    subst e
    exact mshr_s6 hF b1 q pv G S Q df w0 h1 hne hG hS hS2 x w hB hdef u1 u3 
  | k + 7, _, hj => omega
 ·intro k j o hk ho x w hT hB hdef hsz hs hdeps
  have hs' : ∀ s, ¬ mshr_mem s → x.tmps.getD s undef = t0.getD s undef := fun s hn => hs s (fun j hj e => hn (by rw [e]; exact mshr_slots j hj))
  have u1 := (hs' 1 (by decide)).trans hs1
  have u3 := (hs' 3 (by decide)).trans hs3
  match k, hk with
  | 0, hk =>
    obtain rfl : 2 = j := Option.some.inj hk
    have e : o = mshr_o2 := (Option.some.inj ho).symm
    subst e
    exact mshr_s2 hF b1 q pv G S Q df w0 h1 hne hG hS hS2 x w hB hdef hT u1 u3 (hdeps ⟨1, .data⟩ (by simp) rfl)
  | 1, hk =>
    obtain rfl : 5 = j := Option.some.inj hk
    have e : o = mshr_o5 := (Option.some.inj ho).symm
    subst e
    exact mshr_s5 hF b1 q pv G S Q df w0 h1 hne hG hS hS2 x w hB hdef hT u1 u3 (hdeps ⟨4, .data⟩ (by simp) rfl)
  | k + 2, hk => simp at hk
 ·intro x w hB hT hdef hsz hs hv
  have hx := frame_sets x.tmps t0 hsz [9, 10, 11, 12, 13, 14, 15] (fun s hn => hs s (fun j hj e => hn (by rw [e]; exact mshr_slots j hj)))
  have hq := hQ (fun d => x.tmps.getD d undef) w hB hT (hv 2 (by decide)) (hv 5 (by decide)) (hv 6 (by decide))
  obtain ⟨T, Df⟩ := x
  dsimp only at hx hdef hq
  subst hdef
  rw [← hx] at hq
  exact hq
open Go.RowKit Go.Shelf
attribute [local go_sem] Oper.semAt_some
abbrev MV := ST × Value
def encMV (x : MV) : Array Value := #[.agg #[.int .i64 x.1.N, .int .i64 x.1.Z, .int .u32 (x.1.S : Nat), x.2]]
def GShd (pv : Value) (S : Option (List Nat)) (c : Nat) (_ : Nat) (pre : List MV) (A : World) (x : MV) (B : World) : Prop :=
 Kept (own1 pv) A B ∧ pre.length < c ∧ (∃ M R, (shardsG pre.length S).2 = some M ∧ oneG M = (x.1, some R)) ∧ B.ownsRow A.heap.size 3 1 x.2 x.1.D.length (li x.1.D)
def SShd (pv : Value) (F : Nat → Prop) (S : Option (List Nat)) (c : Nat) (_ : Nat) (xs : List MV) (A B : World) : Prop := Kept (own1 pv) A B ∧ xs.length = c ∧ RP B pv F (shardsG c S).2
def SpShd (_ : Nat) (pre : List MV) (A B : World) : Prop := A = B
def PShd (pv : Value) (S : Option (List Nat)) (c : Nat) (_ : Nat) (xs : List MV) (ch : List PanicEntry) (A B : World) : Prop := Kept (own1 pv) A B ∧ ch = [wrongV] ∧ (shardsG c S).2 = none
theorem RP.keptO {w w' : World} {pv : Value} {F O : Nat → Prop} {S : Option (List Nat)} (h : RP w pv F S) (hk : KeptO O w w') (hd : ∀ k, F k → ¬ O k) : RP w' pv F S := by
 rcases h with h | ⟨p, h1, hp, h2⟩
 ·exact .inl h
 ·refine .inr ⟨p, h1, hp, ?_⟩
  cases S with
  | none => exact hk.cells _ _ _ _ (hd p hp) h2
  | some L =>
    obtain ⟨A, C, a1, a2, a3, a4, a5, a6, a7⟩ := h2
    refine ⟨A, C, hk.cells _ _ _ _ (hd p hp) a1, a2, a3, a4, a5, ?_, a7⟩
    rcases Nat.eq_zero_or_pos L.length with h0 | h0
    ·exact BL.mk a6.lt (.inl h0)
    ·obtain ⟨b, o, e, hc⟩ := a6.cell h0
     exact BL.mk a6.lt (.inr ⟨b, o, e, fun i hi => hk.cell (hd b (a7 b o none e).1) (hc i hi)⟩)
theorem own1_ne {pv : Value} {F : Nat → Prop} (hpF : ∀ k, own1 pv k → F k) {N : Nat} (hF : ∀ k, F k → k < N) {k : Nat} (hk : N ≤ k) : ¬ own1 pv k := fun h => by have := hF _ (hpF _ h); omega
theorem frz {w : World} {g : Nat} {cs : Array Value} {t : TypeId} (h : w.heap[g]? = some (.cells cs t (0, 0))) (i : Nat) : w.frozen? ⟨g, i, none⟩ = false := frozen_of_row w g i _ _ h
theorem blk_set {w : World} {g i : Nat} {cs : Array Value} {t : TypeId} {fr : Nat × Nat} (h : w.heap[g]? = some (.cells cs t fr)) (v : Value) : (w.setCell ⟨g, i, none⟩ v).heap[g]? = some (.cells (cs.setIfInBounds i v) t fr) := Go.Joins.block_setCell h v
theorem shards1_in (nn l b1 N c : Nat) (pv : Value) (F : Nat → Prop) (S0 : Option (List Nat)) (hsz : szO S0 ≤ 1000000) (hc : (getNum 40 S0).1 = c) (J : List MV × (Nat → Prop) → World → Prop) (Jx : List MV → World → Prop)
  (hY : ∀ pre O x A B, J (pre, O) A → GShd pv (getNum 40 S0).2 c N pre A x B → YieldAt Fence.wide (nn - 1) Tryz.prog l (encMV x) B fun e W' =>
   (e = .returned (.bool true) ∧ (∃ O', J (pre ++ [x], O') W' ∧ KeptO O B W' ∧ ∀ k, O' k → (O k ∨ B.heap.size ≤ k) ∧ k < W'.heap.size) ∧ KeepsFrom (l + 1) B W') ∨ (e = .returned (.bool false) ∧ Jx (pre ++ [x]) W' ∧ KeepsFrom (l + 1) B W'))
  (W : World) (O0 : Nat → Prop) (hO0 : ∀ k, O0 k → ¬ (F k ∨ k = b1) ∧ k < W.heap.size) (hb1 : W.cell? ⟨b1, 0, none⟩ = some pv) (hnF : ¬ F b1) (hF : ∀ k, F k → k < W.heap.size) (hR : RP W pv F S0) (h0 : J ([], O0) W) :
  CallsIn Fence.wide nn Tryz.prog 113 #[.func (.yield l) #[] #[], .pointer (some ⟨b1, 0, none⟩)] W fun e W' => ((∃ v, e = .returned v) ∧
   ((∃ xs O A, J (xs, O) A ∧ SShd pv F (getNum 40 S0).2 c N xs A W') ∨ (∃ pre A, Jx pre A ∧ SpShd N pre A W'))) ∨ (∃ ch xs O A, e = .panicked ch ∧ J (xs, O) A ∧ PShd pv (getNum 40 S0).2 c N xs ch A W') := by
 have hpF := hR.own
 have hne : ¬ own1 pv b1 := fun h => hnF (hpF _ h)
 have hlb := block_lt_of_cell hb1
 simp only at hlb
 have hnum := rdNumber_any pv F S0 40 W hR hF (by decide) (by omega)
 have hsz1 := (getNum_lt 40 S0).2
 have hcS : 0 < c → ∃ M, (getNum 40 S0).2 = some M := fun h => by
  cases hS : (getNum 40 S0).2 with
  | some M => exact ⟨M, rfl⟩
  | none =>
    exfalso
    rw [getNum_none0 40 S0 hS] at hc
    omega
 have hc40 : c ≤ 40 := by
  cases S0 with
  | none => simp [getNum] at hc; omega
  | some L =>
    rcases Nat.eq_zero_or_pos c with h | h
    ·omega
    ·obtain ⟨M, hM⟩ := hcS h
     obtain ⟨_, _, _, h2, _⟩ := getNum_some (show getNum 40 (some L) = (c, some M) by rw [← hc, ← hM])
     omega
 rw [hc] at hnum
 obtain ⟨S, hS⟩ : ∃ S, (getNum 40 S0).2 = S := ⟨_, rfl⟩
 rw [hS] at hY hnum hsz1 hcS ⊢
 have HY := hide hY
 have HJ := hide h0
 have HF := hide (And.intro hF hpF)
 have HSZ := hide (And.intro hsz hsz1)
 clear hY h0 hc hS hR hsz hsz1
 refine callsIn_of_wp Tryz.func113 rfl trivial ?_ rfl
 simp only [Tryz.ntmps113, List.size_toArray, List.length_cons, List.length_nil, Nat.reduceAdd, Nat.reduceSub, Array.replicate_succ, Array.replicate_zero, List.push_toArray, List.append_toArray, List.nil_append, List.cons_append]
 gi_wp2
 refine ⟨trivial, wide_deep, (wide_plain.call hnum).mono ?_⟩
 rintro e w1 ⟨rfl, hr1, hk1⟩
 have hb11 := hk1.cell hb1 hne
 have hs1 := hk1.size
 clear hnum
 gi_wp2
 gi_loopg [7] c (fun q s7 wr => ∃ (k : Nat) (xs : List MV) (O : Nat → Prop) (A : World), k + q = c ∧ s7 = .int .i64 k ∧ xs.length = k ∧ J (xs, O) A ∧ Kept (own1 pv) A wr ∧ RP wr pv F (shardsG k S).2 ∧ (k < c → ∃ M, (shardsG k S).2 = some M) ∧ wr.cell? ⟨b1, 0, none⟩ = some pv ∧ W.heap.size ≤ A.heap.size ∧ ∀ j, j < W.heap.size → O j → ¬ (F j ∨ j = b1))
 case atStart => exact ⟨0, [], O0, W, by omega, rfl, rfl, HJ.out, hk1, hr1, fun h => hcS h, hb11, Nat.le_refl _, fun j _ h => (hO0 j h).1⟩
 case round =>
  clear hr1 hk1 hb11 hO0 hb1
  obtain ⟨k, xs, O, A, hkq, rfl, hxl, hJ, hkA, hr, hsome, hb, hWA, hO⟩ := hrel
  have hAs := hkA.size
  cases gk with
  | zero =>
    obtain rfl : k = c := by omega
    have HH := hide (And.intro hJ (And.intro hkA hr))
    clear hJ hkA hr hsome hb hO
    gi_wp2
    go_end0
    exact .inl ⟨⟨_, rfl⟩, .inl ⟨xs, O, A, HH.out.1, HH.out.2.1, hxl, HH.out.2.2⟩⟩
  | succ q =>
    have hkc : k < c := by omega
    have hk1' : (k : Int) < (c : Int) := by omega
    obtain ⟨M, hM⟩ := hsome hkc
    have hMsz : M.length ≤ 1000000 := by
     have h1 := (shardsG_sz k S).1
     rw [hM] at h1
     have h2 := HSZ.out
     have h3 : szO (some M) = M.length := rfl
     omega
    rw [hM] at hr
    have hs1 := (getNum_lt maxNum (some M)).2
    have hs2 := (getNum_lt 67108864 (getNum maxNum (some M)).2).2
    have hs3 := getFixS (getNum 67108864 (getNum maxNum (some M)).2).2
    have hsM : szO (some M) = M.length := rfl
    have hone : oneG M = (⟨((getNum maxNum (some M)).1 : Int), ((getNum 67108864 (getNum maxNum (some M)).2).1 : Int), (getFix (getNum 67108864 (getNum maxNum (some M)).2).2).1, (getRising 4000 3999 (getFix (getNum 67108864 (getNum maxNum (some M)).2).2).2).1⟩, (getRising 4000 3999 (getFix (getNum 67108864 (getNum maxNum (some M)).2).2).2).2) := rfl
    obtain ⟨W1, hW1⟩ : ∃ W1, wr.alloc (.cells #[.int .i64 0, .int .i64 0, .int .u32 0, .slice none 0 0] 54) = W1 := ⟨_, rfl⟩
    have hbw1 : Below wr.heap.size wr W1 := by rw [← hW1]; exact below_alloc _ _
    have hq1 : W1.heap[wr.heap.size]? = some (.cells #[.int .i64 0, .int .i64 0, .int .u32 0, .slice none 0 0] 54 (0, 0)) := by rw [← hW1]; exact heap_alloc_new _ _
    have hr1 : RP W1 pv F (some M) := hr.kept (Kept.of_below (F := fun _ => False) hbw1) (fun _ _ h => h)
    have hb1 := cell_thru hb hbw1
    have hnq : ¬ own1 pv wr.heap.size := own1_ne HF.out.2 HF.out.1 (by omega)
    have hFlt : ∀ j, F j → j < W1.heap.size := fun j hj => by have := HF.out.1 j hj; have := hbw1.size; omega
    have HA := hide (And.intro hJ (And.intro hkA hO))
    have HW1 := hide hW1
    have hbs := hbw1.size
    clear hr hJ hkA hO hsome hW1
    gi_wp2
    rw [HW1.out]
    refine mshr wide_plain b1 wr.heap.size pv F (some M) _ _ _ _ rfl rfl rfl hb1 hne hFlt (by omega) (by omega) hr1 ?_
    intro vs w2 hk2 hT2 h11 h14 h15
    have hT2 : RP w2 pv F (getNum 67108864 (getNum maxNum (some M)).2).2 := hT2
    simp only [List.foldl_cons, List.foldl_nil, List.setIfInBounds_toArray, List.set_cons_succ, List.set_cons_zero]
    rw [h11, h14, h15]
    generalize vs 9 = z9
    generalize vs 10 = z10
    generalize vs 12 = z12
    generalize vs 13 = z13
    have g2 := hk2.heap hq1 hnq
    obtain ⟨n1, hn1⟩ : ∃ v : Nat, (getNum maxNum (some M)).1 = v := ⟨_, rfl⟩
    obtain ⟨n2, hn2⟩ : ∃ v : Nat, (getNum 67108864 (getNum maxNum (some M)).2).1 = v := ⟨_, rfl⟩
    obtain ⟨T2, hT2e⟩ : ∃ T, (getNum 67108864 (getNum maxNum (some M)).2).2 = T := ⟨_, rfl⟩
    rw [hn1, hn2, hT2e] at hone
    rw [hT2e] at hT2 hs2 hs3
    rw [hn1, hn2]
    have g3 : (w2.setCell ⟨wr.heap.size, 0, none⟩ (.int .i64 (n1 : Nat))).heap[wr.heap.size]? = some (.cells #[.int .i64 (n1 : Nat), .int .i64 0, .int .u32 0, .slice none 0 0] 54 (0, 0)) := blk_set g2 _
    have g4 : ((w2.setCell ⟨wr.heap.size, 0, none⟩ (.int .i64 (n1 : Nat))).setCell ⟨wr.heap.size, 1, none⟩ (.int .i64 (n2 : Nat))).heap[wr.heap.size]? = some (.cells #[.int .i64 (n1 : Nat), .int .i64 (n2 : Nat), .int .u32 0, .slice none 0 0] 54 (0, 0)) := blk_set g3 _
    obtain ⟨a0, _, _, _⟩ := cells4_at g2
    have af := frz g2 0
    obtain ⟨_, a1, _, _⟩ := cells4_at g3
    have af1 := frz g3 1
    refine wpOpIn_plain (o := mshr_ops[7]) rfl rfl (oper_inK (fun _ => trivial) (fun K hK => ?_))
    rw [Oper.semAt_plain Fence.wide _ _ (by intro c h; cases h)]
    simp only [mshr_ops, mshr_o7]
    go_simp
    refine hK _ _ ?_
    clear hK K
    refine wpOpIn_plain (o := mshr_ops[8]) rfl rfl (oper_inK (fun _ => trivial) (fun K hK => ?_))
    rw [Oper.semAt_plain Fence.wide _ _ (by intro c h; cases h)]
    simp only [mshr_ops, mshr_o8]
    go_simp
    refine hK _ _ ?_
    clear hK K
    refine wpOpIn_plain (o := mshr_ops[9]) rfl rfl (oper_inK (fun _ => trivial) (fun K hK => ?_))
    rw [Oper.semAt_plain Fence.wide _ _ (by intro c h; cases h)]
    simp only [mshr_ops, mshr_o9]
    go_simp
    refine hK _ _ ?_
    clear hK K
    have hkw2 : Kept (own1 pv) wr w2 := ((Kept.of_below (F := fun _ => False) hbw1).mono (fun _ _ h => h.elim)).trans hk2 (fun _ _ h => h)
    obtain ⟨w3, hw3⟩ : ∃ w3, ((w2.setCell ⟨wr.heap.size, 0, none⟩ (.int .i64 (n1 : Nat))).setCell ⟨wr.heap.size, 1, none⟩ (.int .i64 (n2 : Nat))) = w3 := ⟨_, rfl⟩
    have hk23 : Kept (fun y => y = wr.heap.size) w2 w3 := by rw [← hw3]; exact ((Kept.refl (fun y => y = wr.heap.size) w2).setCell (p := ⟨wr.heap.size, 0, none⟩) (.inl rfl) _).setCell (p := ⟨wr.heap.size, 1, none⟩) (.inl rfl) _
    have hkw3 : Kept (own1 pv) wr w3 := hkw2.trans hk23 (fun y hy e => by omega)
    have hFq : ∀ y, F y → ¬ y = wr.heap.size := fun y hy e => by have := HF.out.1 y hy; omega
    have hr3 : RP w3 pv F T2 := hT2.kept hk23 hFq
    have hFl3 : ∀ j, F j → j < w3.heap.size := fun j hj => by have := HF.out.1 j hj; have := hkw3.size; omega
    have b3 := hkw3.cell hb hne
    rw [hw3]
    rw [hw3] at g4
    have hfx := rdFixed_any pv F T2 w3 hr3
    have HK3 := hide hkw3
    have HG4 := hide g4
    clear hw3 hk23 hkw2 hkw3 g3 g2 hr3 hT2 hk2 h11 h14 h15 hr1 hq1 a0 a1 af af1 hb1
    gi_wp2
    refine ⟨trivial, wide_deep, (wide_plain.call hfx).mono ?_⟩
    rintro e w4 ⟨rfl, hr4, hk4⟩
    have hkw4 : Kept (own1 pv) wr w4 := HK3.out.trans hk4 (fun _ _ h => h)
    have g5 := hk4.heap HG4.out hnq
    have b4 := hkw4.cell hb hne
    have d2 := (cells4_at g5).2.2.1
    have f2 := frz g5 2
    obtain ⟨n3, hn3⟩ : ∃ v : Nat, (getFix T2).1 = v := ⟨_, rfl⟩
    obtain ⟨T3, hT3e⟩ : ∃ T, (getFix T2).2 = T := ⟨_, rfl⟩
    rw [hn3, hT3e] at hone
    rw [hT3e] at hr4 hs3
    rw [hn3]
    obtain ⟨w5, hw5⟩ : ∃ w5, w4.setCell ⟨wr.heap.size, 2, none⟩ (.int .u32 (n3 : Nat)) = w5 := ⟨_, rfl⟩
    have g6 : w5.heap[wr.heap.size]? = some (.cells #[.int .i64 (n1 : Nat), .int .i64 (n2 : Nat), .int .u32 (n3 : Nat), .slice none 0 0] 54 (0, 0)) := by rw [← hw5]; exact blk_set g5 _
    have hk45 : Kept (fun y => y = wr.heap.size) w4 w5 := by rw [← hw5]; exact (Kept.refl (fun y => y = wr.heap.size) w4).setCell (p := ⟨wr.heap.size, 2, none⟩) (.inl rfl) _
    have hkw5 : Kept (own1 pv) wr w5 := hkw4.trans hk45 (fun y hy e => by omega)
    have hr5 : RP w5 pv F T3 := hr4.kept hk45 hFq
    have hFl5 : ∀ j, F j → j < w5.heap.size := fun j hj => by have := HF.out.1 j hj; have := hkw5.size; omega
    have hrs := rdRising_any pv F T3 4000 3999 w5 hr5 hFl5 (by decide) (by decide) (by omega)
    have l5 : (w4.setCell ⟨wr.heap.size, 2, none⟩ (.int .u32 (n3 : Nat))).cell? ⟨b1, 0, none⟩ = some pv := by rw [hw5]; exact hkw5.cell hb hne
    have HK5 := hide hkw5
    have HG6 := hide g6
    have HW5 := hide hw5
    clear hfx hr4 hk4 hkw4 g5 hw5 g6 hk45 hkw5 hr5 hFl3 hFl5 b3 b4
    gi_wp2
    rw [HW5.out]
    refine ⟨trivial, wide_deep, (wide_plain.call hrs).mono ?_⟩
    rintro e w6 ⟨v6, rfl, ho6, hr6, hk6⟩
    have hkw6 : Kept (own1 pv) wr w6 := HK5.out.trans hk6 (fun _ _ h => h)
    have g7 := hk6.heap HG6.out hnq
    have d3 := (cells4_at g7).2.2.2
    have f3 := frz g7 3
    obtain ⟨A6, C6, rfl⟩ := owns_slice ho6
    obtain ⟨T4, hT4e⟩ : ∃ T, (getRising 4000 3999 T3).2 = T := ⟨_, rfl⟩
    obtain ⟨D, hDe⟩ : ∃ D, (getRising 4000 3999 T3).1 = D := ⟨_, rfl⟩
    rw [hT4e, hDe] at hone
    rw [hT4e] at hr6
    rw [hDe] at ho6
    rw [hDe]
    obtain ⟨lD, hlD⟩ : ∃ v, D.length = v := ⟨_, rfl⟩
    rw [hlD] at ho6
    rw [hlD]
    obtain ⟨w7, hw7⟩ : ∃ w7, w6.setCell ⟨wr.heap.size, 3, none⟩ (.slice A6 lD C6) = w7 := ⟨_, rfl⟩
    have g8 : w7.heap[wr.heap.size]? = some (.cells #[.int .i64 (n1 : Nat), .int .i64 (n2 : Nat), .int .u32 (n3 : Nat), .slice A6 lD C6] 54 (0, 0)) := by rw [← hw7]; exact blk_set g7 _
    have hk67 : Kept (fun y => y = wr.heap.size) w6 w7 := by rw [← hw7]; exact (Kept.refl (fun y => y = wr.heap.size) w6).setCell (p := ⟨wr.heap.size, 3, none⟩) (.inl rfl) _
    have hkw7 : Kept (own1 pv) wr w7 := hkw6.trans hk67 (fun y hy e => by omega)
    have hr7 : RP w7 pv F T4 := hr6.kept hk67 hFq
    have ho7 := owns_kept ho6 hk67 (fun g hg e => by subst e; exact owns_tyne ho6 g7 (by decide) hg)
    have l7 : (w6.setCell ⟨wr.heap.size, 3, none⟩ (.slice A6 lD C6)).cell? ⟨b1, 0, none⟩ = some pv := by rw [hw7]; exact hkw7.cell hb hne
    have hok := ok_any pv F T4 w7 hr7
    have h75 := HK5.out.size
    have HK7 := hide (And.intro hkw7 (And.intro hr7 (And.intro (owns_lower ho7 (show A.heap.size ≤ w5.heap.size by omega)) g8)))
    obtain ⟨m0, m1, m2, m3⟩ := cells4_at g8
    have HW7 := hide hw7
    clear hrs ho6 hr6 hk6 hkw6 g7 hw7 hk67 hkw7 hr7 ho7 l5 d2 f2 g8
    gi_wp2
    rw [HW7.out]
    refine ⟨trivial, wide_deep, (wide_plain.call hok).mono ?_⟩
    rintro e w8 ⟨rfl, rfl⟩
    clear hok d3 f3 l7
    cases T4 with
    | none =>
      have hmu := must_false w7
      gi_wp2
      refine ⟨trivial, wide_deep, (wide_plain.call hmu).mono ?_⟩
      rintro e w9 ⟨rfl, rfl⟩
      have hbad : (shardsG c S).2 = none := by
       have h1 : (shardsG (k + 1) S).2 = none := by rw [shardsG_snoc k S M hM, hone]
       have h2 := shardsG_bads h1 q
       rwa [show k + 1 + q = c by omega] at h2
      refine ⟨rfl, .inr ⟨_, xs, O, A, rfl, HA.out.1, HA.out.2.1.trans HK7.out.1 (fun _ _ h => h), rfl, hbad⟩⟩
    | some R =>
      have hmu := must_true w7
      obtain ⟨fn, tmps, assign, body, hy, hR⟩ := HY.out xs O (⟨(n1 : Int), (n2 : Int), n3, D⟩, .slice A6 lD C6) A w7 HA.out.1 ⟨HA.out.2.1.trans HK7.out.1 (fun _ _ h => h), by omega, ⟨M, R, by rw [hxl]; exact hM, hone⟩, by simp only; rw [hlD]; exact HK7.out.2.2.1⟩
      have HR := hide hR
      clear hR
      simp only [encMV] at hy
      gi_wp2
      refine ⟨trivial, wide_deep, (wide_plain.call hmu).mono ?_⟩
      rintro e w9 ⟨rfl, rfl⟩
      clear hmu
      gi_wp2
      refine ⟨wide_deep, HR.out.mono ?_⟩
      rintro e W3 (⟨rfl, ⟨O', hJ3, hk3, hO3⟩, _⟩ | ⟨rfl, hJx3, _⟩)
      ·gi_wp2
       gi_roundg q
       case measure => omega
       case rel =>
        have hsn := shardsG_snoc k S M hM
        have hs3 := hk3.size
        have hs7 := HK7.out.1.size
        have hFO : ∀ j, F j → ¬ O j := fun j hj hOj => HA.out.2.2 j (HF.out.1 j hj) hOj (.inl hj)
        have hbO : ¬ O b1 := fun h => HA.out.2.2 b1 hlb h (.inr rfl)
        refine ⟨k + 1, xs ++ [(⟨(n1 : Int), (n2 : Int), n3, D⟩, .slice A6 lD C6)], O', W3, by omega, by go_num, by simp [hxl], hJ3, Kept.refl _ _, ?_, fun _ => ⟨R, by rw [hsn, hone]⟩, hk3.cell hbO (HK7.out.1.cell hb hne), by omega, fun j hj hOj => ?_⟩
        ·rw [hsn, hone]
         exact HK7.out.2.1.keptO hk3 hFO
        ·rcases (hO3 j hOj).1 with h | h
         ·exact HA.out.2.2 j hj h
         ·omega
      ·gi_wp2
       refine bodyPost_ret (results_none rfl _ _ _) rfl ?_
       exact .inl ⟨⟨_, rfl⟩, .inr ⟨_, W3, hJx3, rfl⟩⟩
theorem shards_seq (nn b1 c : Nat) (pv : Value) (F : Nat → Prop) (S0 : Option (List Nat)) (hsz : szO S0 ≤ 1000000) (hc : (getNum 40 S0).1 = c) (w : World) (hb1 : w.cell? ⟨b1, 0, none⟩ = some pv) (hnF : ¬ F b1) (hF : ∀ k, F k → k < w.heap.size) (hR : RP w pv F S0) :
  SeqP Fence.wide nn Tryz.prog 113 #[.pointer (some ⟨b1, 0, none⟩)] encMV (GShd pv (getNum 40 S0).2 c) (fun k => F k ∨ k = b1) (SShd pv F (getNum 40 S0).2 c) SpShd (PShd pv (getNum 40 S0).2 c) w := fun l J Jx W O0 hW _ hO0 hY h0 =>
 shards1_in nn l b1 W.heap.size c pv F S0 hsz hc J Jx hY W O0 hO0 (cell_thru hb1 hW) hnF (fun k hk => Nat.lt_of_lt_of_le (hF k hk) hW.size) (hR.kept (Kept.of_below (F := fun _ => False) hW) (fun _ _ h => h)) h0
end Go.Proofs.YtppdbinppibjhaaGreatDoor
/-
  Shards of the call's own, with the rows of their dead ones: all lie apart.
-/
namespace Go.Proofs.YtppdbinppibjhaaGreatDoor
open Go.RowKit Go.Shelf
def scells : List MV → List Value
 | [] => []
 | x :: r => .int .i64 x.1.N :: .int .i64 x.1.Z :: .int .u32 (x.1.S : Nat) :: x.2 :: scells r
theorem scells_append (a b : List MV) : scells (a ++ b) = scells a ++ scells b := by
 induction a with
 | nil => rfl
 | cons x a ih => simp [scells, ih]
def OwnSh (w : World) (B : Nat) (v : Value) (xs : List MV) : Prop :=
 w.ownsRow B 54 4 v xs.length (scells xs) ∧ (∀ x ∈ xs, w.ownsRow B 3 1 x.2 x.1.D.length (li x.1.D)) ∧
  xs.Pairwise (fun x y => ∀ g, x.2.ownBlock = some g → y.2.ownBlock ≠ some g)
theorem OwnSh.kept {w w' : World} {B : Nat} {v : Value} {xs : List MV} {F : Nat → Prop} (h : OwnSh w B v xs) (hk : Kept F w w') (hF : ∀ k, F k → v.ownBlock ≠ some k ∧ ∀ x ∈ xs, x.2.ownBlock ≠ some k) : OwnSh w' B v xs :=
 ⟨owns_keptS h.1 hk (fun g hg hf => (hF g hf).1 hg), fun x hx => owns_kept (h.2.1 x hx) hk (fun g hg hf => (hF g hf).2 x hx hg), h.2.2⟩
theorem OwnSh.nil (w : World) (B : Nat) : OwnSh w B (.slice none 0 0) [] := ⟨World.ownsRow_nil _ _ _ _, (by intro x h; cases h), List.Pairwise.nil⟩
theorem OwnSh.lower {w : World} {B B' : Nat} {v : Value} {xs : List MV} (h : OwnSh w B v xs) (hB : B' ≤ B) : OwnSh w B' v xs :=
 ⟨owns_lower h.1 hB, fun x hx => owns_lower (h.2.1 x hx) hB, h.2.2⟩
theorem OwnSh.cells {w w' : World} {B : Nat} {v : Value} {xs : List MV} (h : OwnSh w B v xs) (hk : CellsKept w w') : OwnSh w' B v xs :=
 ⟨hk.own h.1, fun x hx => hk.own (h.2.1 x hx), h.2.2⟩
theorem OwnSh.ge {w : World} {B : Nat} {v : Value} {xs : List MV} (h : OwnSh w B v xs) {k : Nat} (hk : k < B) : v.ownBlock ≠ some k ∧ ∀ x ∈ xs, x.2.ownBlock ≠ some k :=
 ⟨fun e => by have := (owns_cells h.1 k e).2.1; omega, fun x hx e => by have := (owns_cells (h.2.1 x hx) k e).2.1; omega⟩
theorem OwnSh.below {w w' : World} {B : Nat} {v : Value} {xs : List MV} (h : OwnSh w B v xs) (hb : Below w.heap.size w w') : OwnSh w' B v xs := h.kept (Kept.of_below (F := fun _ => False) hb) (fun _ h => h.elim)
theorem info_shard : (Tryz.prog.info? 54).map (fun i => (i.zero, i.size, i.bytes)) = some (some (.agg #[.int .i64 0, .int .i64 0, .int .u32 0, .slice none 0 0]), 4, 48) := by kernel_rfl
theorem shard_news (w : World) (g : Nat) (a b c d : Value) (fr : Nat × Nat) (hg : w.heap[g]? = some (.cells #[a, b, c, d] 54 fr)) : ∀ j u, [a, b, c, d][j]? = some u → w.cell? ((⟨g, 0, none⟩ : Addr).add j) = some u := by
 intro j u hj
 match j, hj with
 | 0, hj => cases hj; exact cell_of_row _ g 0 _ _ _ hg
 | 1, hj => cases hj; exact cell_of_row _ g 1 _ _ _ hg
 | 2, hj => cases hj; exact cell_of_row _ g 2 _ _ _ hg
 | 3, hj => cases hj; exact cell_of_row _ g 3 _ _ _ hg
 | j + 4, hj => simp at hj
def shdOf (x : MV) : Shd := ⟨x.1.N, x.1.Z, x.1.S, x.1.D, adrOf x.2, capOf x.2⟩
def shdAt (xs : List MV) (i : Nat) : Shd := match xs[i]? with
 | some x => shdOf x
 | none => ⟨0, 0, 0, [], none, 0⟩
theorem shdAt_lt {xs : List MV} {i : Nat} (h : i < xs.length) : shdAt xs i = shdOf xs[i] := by
 unfold shdAt
 rw [List.getElem?_eq_getElem h]
theorem stsN_shdAt (xs : List MV) : stsN (shdAt xs) xs.length = xs.map (fun x : MV => x.1) := by
 apply List.ext_getElem
 ·simp [stsN]
 ·intro i h1 h2
  simp only [stsN, List.getElem_map, List.getElem_range]
  have : i < xs.length := by simpa using h2
  rw [shdAt_lt this]
  rfl
theorem scells_get : ∀ (xs : List MV) (i : Nat) (h : i < xs.length), (scells xs)[i * 4]? = some (.int .i64 xs[i].1.N) ∧ (scells xs)[i * 4 + 1]? = some (.int .i64 xs[i].1.Z) ∧ (scells xs)[i * 4 + 2]? = some (.int .u32 (xs[i].1.S : Nat)) ∧ (scells xs)[i * 4 + 3]? = some xs[i].2
 | [], i, h => by simp at h
 | x :: r, 0, _ => ⟨rfl, rfl, rfl, rfl⟩
 | x :: r, i + 1, h => by
   have := scells_get r i (by simpa using h)
   simp only [scells, List.getElem_cons_succ]
   rw [show (i + 1) * 4 = i * 4 + 1 + 1 + 1 + 1 from by omega]
   simpa using this
theorem okST_wf {s : ST} (h : okST s) : (Lit.int .i64 s.N).wf = true ∧ (Lit.int .i64 s.Z).wf = true ∧ s.S < 4294967296 ∧ ∀ d ∈ s.D, (Lit.int .i64 d).wf = true := by
 obtain ⟨h1, h2, h3, h4, h5, h6⟩ := h
 unfold maxNum at h2
 refine ⟨wf64 (by omega) (by omega), wf64 (by omega) (by omega), h5, fun d hd => ?_⟩
 obtain ⟨i, hi, rfl⟩ := List.getElem_of_mem hd
 rw [upToR_split, Bool.and_eq_true] at h6
 have h7 := betZ_iff.1 h6.1 i hi
 simp only [List.getD_eq_getElem?_getD, List.getElem?_eq_getElem hi, Option.getD_some] at h7
 exact wf64 (by omega) (by omega)
theorem owns_li {w : World} {B n : Nat} {v : Value} {D : List Int} (h : w.ownsRow B 3 1 v n (li D)) : n = D.length ∧ ∃ a cap, v = .slice a n cap ∧ n ≤ cap ∧ cap ≤ 9223372036854775807 ∧ (a = none → cap = 0) ∧ (cap = 0 ∨ ∃ b off, a = some ⟨b, off, none⟩) ∧ Ints w a n (fun i => D.getD i 0) := by
 obtain ⟨hl, hh⟩ := h
 have hn : n = D.length := by rw [li_length] at hl; omega
 refine ⟨hn, ?_⟩
 rcases hh with ⟨hv, h0⟩ | ⟨g, cap, cur, hv, hB, hg, hnc, hcm, hcs, hx⟩
 ·exact ⟨none, 0, by rw [hv, h0], by omega, by omega, fun _ => rfl, .inl rfl, .inl h0⟩
 ·unfold maxLen at hcm
  refine ⟨some ⟨g, 0, none⟩, cap, hv, hnc, hcm, (fun e => by cases e), .inr ⟨g, 0, rfl⟩, .inr ⟨g, 0, rfl, fun i hi => ?_⟩⟩
  have h1 : (li D)[i]? = some (.int .i64 (D.getD i 0)) := by simp [li, List.getD_eq_getElem?_getD, show i < D.length by omega]
  rw [← hx, List.getElem?_take_of_lt (by omega)] at h1
  rw [Nat.zero_add, cell_of_row _ _ _ _ _ _ hg]
  simpa using h1
theorem OwnSh.shds {w : World} {B : Nat} {v : Value} {xs : List MV} (h : OwnSh w B v xs) (hok : ∀ x ∈ xs, okST x.1) : ∃ A C, v = .slice A xs.length C ∧ Shds w A xs.length (shdAt xs) ∧ xs.length ≤ C ∧ C ≤ 9223372036854775807 ∧ (A = none → C = 0) := by
 obtain ⟨h1, h2, h3⟩ := h
 have h1' := h1
 obtain ⟨hl, ⟨rfl, h0⟩ | ⟨g, cap, cur, rfl, hB, hg, hnc, hcm, hcs, ht⟩⟩ := h1
 ·refine ⟨none, 0, ?_, .inl h0, by omega, by omega, fun _ => rfl⟩
  rw [h0]
 ·have hc := h1'.cells (g := g) rfl
  unfold maxLen at hcm
  refine ⟨some ⟨g, 0, none⟩, cap, rfl, .inr ⟨g, 0, rfl, fun i hi => ?_⟩, hnc, hcm, fun e => by cases e⟩
  obtain ⟨e0, e1, e2, e3⟩ := scells_get xs i hi
  have c0 := hc _ _ e0
  have c1 := hc _ _ e1
  have c2 := hc _ _ e2
  have c3 := hc _ _ e3
  rw [add_none' _ rfl] at c0 c1 c2 c3
  have ho := h2 xs[i] (List.getElem_mem hi)
  obtain ⟨_, A, C, hv, hAC, hCm, hAn, hA0, hbl⟩ := owns_li ho
  obtain ⟨w1, w2, w3, w4⟩ := okST_wf (hok xs[i] (List.getElem_mem hi))
  rw [shdAt_lt hi]
  unfold shdOf
  simp only [hv, adrOf, capOf]
  rw [hv] at c3
  simp only [Nat.zero_add] at c0 c1 c2 c3
  exact ⟨⟨by simpa using c0, by simpa [Nat.add_assoc] using c1, by simpa [Nat.add_assoc] using c2, by simpa [Nat.add_assoc] using c3⟩, ⟨w1, w2, w3, hAC, hCm, hAn, hA0, w4, hbl⟩⟩
end Go.Proofs.YtppdbinppibjhaaGreatDoor
