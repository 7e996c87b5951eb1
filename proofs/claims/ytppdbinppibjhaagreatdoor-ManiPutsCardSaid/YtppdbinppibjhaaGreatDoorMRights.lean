/-
  mani.rise, mani.between (slices.ContainsFunc at numbers).
-/
import Derived.Test.YtppdbinppibjhaaGreatDoorMBases
import Derived.Test.YtppdbinppibjhaaGreatDoorRegT
import Derived.Test.YtppdbinppibjhaaGreatDoorRowP
import Derived.Shelf.Abstract
import Derived.Shelf.RegionOpen
import Derived.WalkKit
set_option maxHeartbeats 4000000
set_option maxRecDepth 100000
set_option linter.unusedVariables false
set_option linter.unusedSimpArgs false
namespace Go.Proofs.YtppdbinppibjhaaGreatDoor
open Go.RowKit Go.Shelf
theorem rise_any (a : Option Addr) (n cap : Nat) (z : Nat → Int) (w : World) (hn : n ≤ 140737488355328) (hz : Ints w a n z) :
  Calls Tryz.prog 47 #[.slice a n cap] w fun e w' => e = .returned (.bool (riseZ z n)) ∧ Below w.heap.size w w' := by
 have HZ := hide hz
 clear hz
 go_enter Tryz.func47, Tryz.ntmps47
 go_wp2_with fail
 go_loopg [6] n (fun q s6 wr => ∃ k : Nat, k + q = n ∧ s6 = .int .i64 k ∧ (∀ i, i < k → i = 0 ∨ z (i - 1) < z i) ∧ Below w.heap.size w wr)
 case atStart => exact ⟨0, by omega, rfl, fun i h => by omega, Below.refl _ _⟩
 case round =>
  obtain ⟨k, hkq, rfl, hno, hB⟩ := hrel
  have HNO := hide hno
  have HB := hide hB
  clear hno
  cases gk with
  | zero =>
    obtain rfl : k = n := by omega
    clear hB
    have ht : riseZ z k = true := riseZ_iff.2 HNO.out
    go_wp2_with fail
    go_ret
    exact ⟨by rw [ht]; rfl, HB.out⟩
  | succ q =>
    have hkn : k < n := by omega
    have hkz : (k : Int) < (n : Int) := by omega
    cases k with
    | zero =>
      clear hB
      go_upto_region 4 with fail
      go_cut [22] (fun s wx => s = .bool false ∧ Below w.heap.size w wx)
      case first =>
       go_quiet (fail)
       all_goals
        go_wp2_with fail
        go_meet
        exact ⟨rfl, below_drewN HB.out _⟩
      case rest =>
       obtain ⟨rfl, hbc⟩ := hcut
       have HC := hide hbc
       clear hbc
       go_wp2_with fail
       go_roundg q
       case measure => omega
       case rel => exact ⟨1, by omega, by go_num, fun i hi => .inl (by omega), HC.out⟩
    | succ m =>
      obtain ⟨b, off, rfl, hc⟩ := (HZ.out.below hB).cell (by omega)
      have c1 := hc (m + 1) hkn
      have c0 := hc m (by omega)
      have hm0 : (0 : Int) < ((m + 1 : Nat) : Int) := by omega
      have hmm : ((m + 1 : Nat) : Int) - 1 = (m : Int) := by omega
      obtain ⟨x, hx⟩ : ∃ x, z (m + 1) = x := ⟨_, rfl⟩
      obtain ⟨y, hy⟩ : ∃ y, z m = y := ⟨_, rfl⟩
      rw [hx] at c1
      rw [hy] at c0
      have HX := hide (And.intro hx hy)
      clear hc hx hy hB
      go_upto_region 4 with fail
      go_cut [22] (fun s wx => s = .bool (decide (x ≤ y)) ∧ Below w.heap.size w wx)
      case first =>
       go_quiet (fail)
       all_goals
        go_wp2_with fail
        go_meet
        exact ⟨rfl, below_drewN HB.out _⟩
      case rest =>
       obtain ⟨rfl, hbc⟩ := hcut
       have HC := hide hbc
       clear hbc c0 c1
       by_cases hxy : x ≤ y
       ·have hf : riseZ z n = false := by
         cases hr : riseZ z n with
         | false => rfl
         | true =>
           have := riseZ_iff.1 hr (m + 1) hkn
           simp only [Nat.add_sub_cancel, HX.out.1, HX.out.2] at this
           omega
        go_wp2_with fail
        go_ret
        exact ⟨by rw [hf]; rfl, HC.out⟩
       ·have HXY := hide hxy
        go_wp2_with fail
        go_roundg q
        case measure => omega
        case rel =>
         refine ⟨m + 1 + 1, by omega, by go_num, fun i hi => ?_, HC.out⟩
         rcases Nat.lt_or_ge i (m + 1) with h | h
         ·exact HNO.out i h
         ·obtain rfl : i = m + 1 := by omega
          refine .inr ?_
          have := HXY.out
          simp only [Nat.add_sub_cancel, HX.out.1, HX.out.2]
          omega
def firstI (p : Nat → Bool) (len : Nat) (r : Int) : Prop := (r = -1 ∧ ∀ i, i < len → p i = false) ∨ ((0 : Int) ≤ r ∧ ∃ i, i < len ∧ p i = true)
theorem firstI_any {p : Nat → Bool} {len : Nat} {r : Int} (h : firstI p len r) : decide ((0 : Int) ≤ r) = (List.range len).any p := by
 rcases h with ⟨rfl, h⟩ | ⟨h0, i, hi, hp⟩
 ·have : (List.range len).any p = false := by
   rw [List.any_eq_false]
   intro x hx
   rw [h x (List.mem_range.1 hx)]
   decide
  rw [this]
  rfl
 ·have : (List.range len).any p = true := List.any_eq_true.2 ⟨i, List.mem_range.2 hi, hp⟩
  rw [this]
  exact decide_eq_true h0
theorem between1_any (x lo hi : Int) (pl pm : Addr) (w : World) (hl : w.cell? pl = some (.int .i64 lo)) (hm : w.cell? pm = some (.int .i64 hi)) :
  Calls Tryz.prog 80 #[.int .i64 x, .pointer (some pl), .pointer (some pm)] w fun e w' => e = .returned (.bool (decide (x < lo) || decide (hi < x))) ∧ w = w' := by
 go_enter Tryz.func80, Tryz.ntmps80
 by_cases h1 : x < lo
 ·go_wp2_with fail
  go_ret
  exact ⟨by simp [h1], rfl⟩
 ·by_cases h2 : hi < x
  ·go_wp2_with fail
   go_ret
   exact ⟨by simp [h2], rfl⟩
  ·go_wp2_with fail
   go_ret
   exact ⟨by simp [h1, h2], rfl⟩
theorem indexFuncI_any (a : Option Addr) (len cap g : Nat) (cs : Array Value) (z : Nat → Int) (p : Nat → Bool) (w : World) (hlen : len ≤ 140737488355328) (hz : Ints w a len z) (eg : ∀ args w, (callFunc g args).run Tryz.prog w = .ok (.enter g args) w)
  (hp : ∀ W i, i < len → Below w.heap.size w W → Calls Tryz.prog g (#[.int .i64 (z i)] ++ cs) W fun e w' => e = .returned (.bool (p i)) ∧ W = w') :
  Calls Tryz.prog 130 #[.slice a len cap, .func (.func g) #[] cs] w fun e w' => (∃ r, e = .returned (.int .i64 r) ∧ firstI p len r ∧ r ≤ len) ∧ Below w.heap.size w w' := by
 have HR := hide hz
 have HP := hide hp
 clear hz hp
 go_enter Tryz.func130, Tryz.ntmps130
 go_wp2_with fail
 go_loopg [8] len (fun q s8 wr => ∃ k : Nat, k + q = len ∧ s8 = .int .i64 k ∧ (∀ i, i < k → p i = false) ∧ Below w.heap.size w wr)
 case atStart => exact ⟨0, by omega, rfl, fun i h => by omega, Below.refl _ _⟩
 case round =>
  obtain ⟨k, hkq, rfl, hno, hB⟩ := hrel
  have HNO := hide hno
  have HB := hide hB
  clear hno
  cases gk with
  | zero =>
    obtain rfl : k = len := by omega
    clear hB
    go_wp2_with fail
    go_ret
    exact ⟨⟨_, rfl, .inl ⟨rfl, HNO.out⟩, by omega⟩, HB.out⟩
  | succ q =>
    have hkl : k < len := by omega
    have hk1 : (k : Int) < (len : Int) := by omega
    obtain ⟨b, off, rfl, hcz⟩ := (HR.out.below hB).cell (by omega)
    have q0 := hcz k hkl
    have hc := HP.out wr k hkl hB
    clear hB hcz
    go_wp2_with fail
    refine hc.mono ?_
    rintro e w2 ⟨rfl, rfl⟩
    clear hc q0
    cases hpk : p k with
    | true =>
      have H1 := hide hpk
      clear hpk
      go_wp2_with fail
      go_ret
      exact ⟨⟨_, rfl, .inr ⟨by omega, k, hkl, H1.out⟩, by omega⟩, HB.out⟩
    | false =>
      have H1 := hide hpk
      clear hpk
      go_wp2_with fail
      go_roundg q
      case measure => omega
      case rel =>
       refine ⟨k + 1, by omega, by go_num, fun i hi => ?_, HB.out⟩
       rcases Nat.lt_or_ge i k with h | h
       ·exact HNO.out i h
       ·obtain rfl : i = k := by omega
        exact H1.out
theorem containsFuncI_any (a : Option Addr) (len cap g : Nat) (cs : Array Value) (z : Nat → Int) (p : Nat → Bool) (w : World) (hlen : len ≤ 140737488355328) (hz : Ints w a len z) (eg : ∀ args w, (callFunc g args).run Tryz.prog w = .ok (.enter g args) w)
  (hp : ∀ W i, i < len → Below w.heap.size w W → Calls Tryz.prog g (#[.int .i64 (z i)] ++ cs) W fun e w' => e = .returned (.bool (p i)) ∧ W = w') :
  Calls Tryz.prog 79 #[.slice a len cap, .func (.func g) #[] cs] w fun e w' => e = .returned (.bool ((List.range len).any p)) ∧ Below w.heap.size w w' := by
 have hix := indexFuncI_any a len cap g cs z p w hlen hz eg hp
 clear hz hp eg
 go_enter Tryz.func79, Tryz.ntmps79
 go_wp2_with fail
 refine hix.mono ?_
 rintro e w2 ⟨⟨r, rfl, hr, _⟩, hb⟩
 have HR := hide (firstI_any hr)
 have HB := hide hb
 clear hix hr hb
 go_wp2_with fail
 go_ret
 exact ⟨by rw [← HR.out]; rfl, HB.out⟩
theorem between_any (lo hi : Int) (a : Option Addr) (n cap : Nat) (z : Nat → Int) (w : World) (hn : n ≤ 140737488355328) (hz : Ints w a n z) :
  Calls Tryz.prog 45 #[.int .i64 lo, .int .i64 hi, .slice a n cap] w fun e w' => e = .returned (.bool (betZ lo hi z n)) ∧ Below w.heap.size w w' := by
 have hmf : ∀ (fn : Fn) (first cap : Array Value) (w : World), (Instr.makeFunc fn first cap).run Tryz.prog w = .ok (.func fn first cap) w := fun _ _ _ _ => rfl
 obtain ⟨W1, hW1⟩ : ∃ W1, w.alloc (.cells #[.int .i64 lo] 3) = W1 := ⟨_, rfl⟩
 have hs1 : W1.heap.size = w.heap.size + 1 := by rw [← hW1]; simp
 obtain ⟨W2, hW2⟩ : ∃ W2, W1.alloc (.cells #[.int .i64 hi] 3) = W2 := ⟨_, rfl⟩
 have hb1 : Below w.heap.size w W1 := by rw [← hW1]; exact below_alloc _ _
 have hb2 : Below W1.heap.size W1 W2 := by rw [← hW2]; exact below_alloc _ _
 have c1 : W2.cell? ⟨w.heap.size, 0, none⟩ = some (.int .i64 lo) := cell_thru (by rw [← hW1]; exact (cell_new_l w _ _).1) hb2
 have c2 : W2.cell? ⟨w.heap.size + 1, 0, none⟩ = some (.int .i64 hi) := by rw [← hs1, ← hW2]; exact (cell_new_l W1 _ _).1
 have hb : Below w.heap.size w W2 := below_thru hb1 hb2
 have hcf := containsFuncI_any a n cap 80 #[.pointer (some ⟨w.heap.size, 0, none⟩), .pointer (some ⟨w.heap.size + 1, 0, none⟩)] z (fun i => decide (z i < lo) || decide (hi < z i)) W2 hn (hz.below hb) (enters_of Tryz.func80 (by kernel_rfl) rfl)
  (fun W i _ hW => between1_any (z i) lo hi _ _ W (cell_thru c1 hW) (cell_thru c2 hW))
 have HB := hide hb
 have HW := hide (And.intro hW1 (And.intro hs1 hW2))
 clear hz c1 c2 hb hb1 hb2 hW1 hW2 hs1
 go_enter Tryz.func45, Tryz.ntmps45
 go_wp2_with fail
 rw [HW.out.1, HW.out.2.2]
 try rw [HW.out.2.1]
 refine hcf.mono ?_
 rintro e w3 ⟨rfl, hb3⟩
 have HB3 := hide (HB.out.trans (hb3.mono HB.out.size))
 clear hcf hb3
 go_wp2_with fail
 go_ret
 exact ⟨rfl, HB3.out⟩
open Go.RowKit Go.Shelf
attribute [local go_sem] Oper.semAt_some
def cellS (P : Shd) : List Value := [.int .i64 P.N, .int .i64 P.Z, .int .u32 (P.S : Nat), .slice P.pD P.D.length P.cD]
theorem Shds.row {w : World} {a : Option Addr} {n : Nat} {P : Nat → Shd} (h : Shds w a n P) : RowC w a 4 n (fun i => cellS (P i)) := by
 rcases h with h | ⟨b, off, e, hc⟩
 ·exact .inl h
 ·refine .inr ⟨b, off, e, fun i hi j u hu => ?_⟩
  obtain ⟨⟨h0, h1, h2, h3⟩, _⟩ := hc i hi
  match j, hu with
  | 0, hu => simp [cellS] at hu; subst hu; exact h0
  | 1, hu => simp [cellS] at hu; subst hu; rw [← Nat.add_assoc]; exact h1
  | 2, hu => simp [cellS] at hu; subst hu; rw [← Nat.add_assoc]; exact h2
  | 3, hu => simp [cellS] at hu; subst hu; rw [← Nat.add_assoc]; exact h3
theorem RowC.atS {w : World} {a : Option Addr} {n : Nat} {P : Nat → Shd} (h : RowC w a 4 n (fun i => cellS (P i))) {k : Nat} (hk : k < n) :
  ∃ b off, a = some ⟨b, off, none⟩ ∧ w.cell? ⟨b, off + k * 4, none⟩ = some (.int .i64 (P k).N) ∧ w.cell? ⟨b, off + k * 4 + 1, none⟩ = some (.int .i64 (P k).Z) ∧ w.cell? ⟨b, off + k * 4 + 2, none⟩ = some (.int .u32 ((P k).S : Nat)) ∧ w.cell? ⟨b, off + k * 4 + 3, none⟩ = some (.slice (P k).pD (P k).D.length (P k).cD) := by
 rcases h with h | ⟨b, off, e, hc⟩
 ·omega
 ·have h0 := hc k hk 0 _ rfl
  have h1 := hc k hk 1 _ rfl
  have h2 := hc k hk 2 _ rfl
  have h3 := hc k hk 3 _ rfl
  exact ⟨b, off, e, by simpa using h0, by simpa [Nat.add_assoc] using h1, by simpa [Nat.add_assoc] using h2, by simpa [Nat.add_assoc] using h3⟩
theorem cellS_ne (P : Shd) : cellS P ≠ [] := by simp [cellS]
def encSh (P : Nat → Shd) (k : Nat) : Array Value := #[.agg #[.int .i64 (P k).N, .int .i64 (P k).Z, .int .u32 ((P k).S : Nat), .slice (P k).pD (P k).D.length (P k).cD]]
def GSh (n : Nat) (_ : Nat) (pre : List Nat) (A : World) (x : Nat) (B : World) : Prop := Kept (fun _ => False) A B ∧ pre = List.range x ∧ x < n
def SSh (n : Nat) (_ : Nat) (xs : List Nat) (A B : World) : Prop := A = B ∧ xs = List.range n
def SpSh (n : Nat) (_ : Nat) (pre : List Nat) (A B : World) : Prop := A = B ∧ ∃ x, x < n ∧ pre = List.range (x + 1)
theorem valuesS_in (F : Fence) (n : Nat) (hF : F.fn 46) (hro : F.round = none) (a : Option Addr) (len cap : Nat) (w : World) :
  CallsIn F n Tryz.prog 46 #[.slice a len cap] w fun e w' => e = .returned (.func (.func 81) #[] #[.pointer (some ⟨w.heap.size, 0, none⟩)]) ∧ w' = w.alloc (.cells #[.slice a len cap] 22) := by
 refine callsIn_of_wp Tryz.func46 rfl hF ?_ hro
 simp only [Tryz.ntmps46, List.size_toArray, List.length_cons, List.length_nil, Nat.reduceAdd, Nat.reduceSub, Array.replicate_succ, Array.replicate_zero, List.push_toArray, List.append_toArray, List.nil_append, List.cons_append]
 gi_wp2
 go_ret
 exact ⟨rfl, rfl⟩
theorem valuesS1_in (n l B1 N : Nat) (a : Option Addr) (len cap : Nat) (f : Nat → Shd) (hlen : len ≤ 140737488355328) (J : List Nat × (Nat → Prop) → World → Prop) (Jx : List Nat → World → Prop)
  (hY : ∀ pre O x A B, J (pre, O) A → GSh len N pre A x B → YieldAt Fence.wide (n - 1) Tryz.prog l (encSh f x) B fun e W' =>
   (e = .returned (.bool true) ∧ (∃ O', J (pre ++ [x], O') W' ∧ KeptO O B W' ∧ ∀ k, O' k → (O k ∨ B.heap.size ≤ k) ∧ k < W'.heap.size) ∧ KeepsFrom (l + 1) B W') ∨ (e = .returned (.bool false) ∧ Jx (pre ++ [x]) W' ∧ KeepsFrom (l + 1) B W'))
  (W : World) (O0 : Nat → Prop) (hO0 : ∀ k, O0 k → ¬ ksC B1 a len k ∧ k < W.heap.size) (hB1 : W.cell? ⟨B1, 0, none⟩ = some (.slice a len cap)) (hz : RowC W a 4 len (fun i => cellS (f i))) (h0 : J ([], O0) W) :
  CallsIn Fence.wide n Tryz.prog 81 #[.func (.yield l) #[] #[], .pointer (some ⟨B1, 0, none⟩)] W fun e W' => (∃ v, e = .returned v) ∧
   ((∃ xs O A, J (xs, O) A ∧ SSh len N xs A W') ∨ (∃ pre A, Jx pre A ∧ SpSh len N pre A W')) := by
 have hO1 : ∀ k, k < W.heap.size → O0 k → ¬ ksC B1 a len k := fun k _ hk => (hO0 k hk).1
 clear hO0
 refine callsIn_of_wp Tryz.func81 rfl trivial ?_ rfl
 simp only [Tryz.ntmps81, List.size_toArray, List.length_cons, List.length_nil, Nat.reduceAdd, Nat.reduceSub, Array.replicate_succ, Array.replicate_zero, List.push_toArray, List.append_toArray, List.nil_append, List.cons_append]
 gi_wp2
 gi_loopg [7] len (fun q s7 wr => ∃ (k : Nat) (O : Nat → Prop), k + q = len ∧ s7 = .int .i64 k ∧ RowC wr a 4 len (fun i => cellS (f i)) ∧ J (List.range k, O) wr ∧ W.heap.size ≤ wr.heap.size ∧ (∀ k, k < W.heap.size → O k → ¬ ksC B1 a len k) ∧ ∀ g o s, a = some ⟨g, o, s⟩ → 0 < len → g < W.heap.size)
 case atStart =>
  exact ⟨0, O0, by omega, rfl, hz, h0, Nat.le_refl _, hO1, fun g o s e hl => hz.lt (fun i _ => cellS_ne _) hl g ⟨o, s, e⟩⟩
 case round =>
  obtain ⟨k, O, hkq, rfl, hzr, hJ, hsz, hO, hlt⟩ := hrel
  have HO := hide hO
  have HLT := hide hlt
  clear hz h0 hO1 hO hlt hB1
  cases gk with
  | zero =>
    obtain rfl : k = len := by omega
    clear hzr hY
    gi_wp2
    go_end0
    exact ⟨⟨_, rfl⟩, .inl ⟨_, O, wr, hJ, rfl, rfl⟩⟩
  | succ q =>
    have hkl : k < len := by omega
    have hk1 : (k : Int) < (len : Int) := by omega
    obtain ⟨b, off, rfl, q0, q1, q2, q3⟩ := hzr.atS hkl
    have HZ := hide hzr
    have HY := hide hY
    obtain ⟨vN, hN⟩ : ∃ v, (f k).N = v := ⟨_, rfl⟩
    obtain ⟨vZ, hZ⟩ : ∃ v, (f k).Z = v := ⟨_, rfl⟩
    obtain ⟨vS, hS⟩ : ∃ v : Int, ((f k).S : Int) = v := ⟨_, rfl⟩
    obtain ⟨pD, hpD⟩ : ∃ v, (f k).pD = v := ⟨_, rfl⟩
    obtain ⟨lD, hlD⟩ : ∃ v, (f k).D.length = v := ⟨_, rfl⟩
    obtain ⟨cD, hcD⟩ : ∃ v, (f k).cD = v := ⟨_, rfl⟩
    have HE := hide (And.intro hN (And.intro hZ (And.intro hS (And.intro hpD (And.intro hlD hcD)))))
    rw [hN] at q0
    rw [hZ] at q1
    rw [hS] at q2
    rw [hpD, hlD, hcD] at q3
    obtain ⟨W1, hW1⟩ : ∃ W1, wr.alloc (.cells #[.int .i64 vN, .int .i64 vZ, .int .u32 vS, .slice pD lD cD] 54) = W1 := ⟨_, rfl⟩
    have hb1 : Below wr.heap.size wr W1 := by rw [← hW1]; exact below_alloc _ _
    have HB1 := hide hb1
    obtain ⟨fn, tmps, assign, body, hy, hR⟩ := HY.out _ O k wr W1 hJ ⟨Kept.of_below hb1, rfl, hkl⟩
    simp only [encSh, hN, hZ, hS, hpD, hlD, hcD] at hy
    have HW := hide hW1
    clear hzr hY hN hZ hS hpD hlD hcD hb1 hW1
    gi_wp2
    rw [HW.out, hy]
    refine ⟨wide_deep, hR.mono ?_⟩
    rintro e W3 (⟨rfl, ⟨O', hJ3, hk3, hO3⟩, _⟩ | ⟨rfl, hJx3, _⟩)
    ·gi_wp2
     gi_roundg q
     case measure => omega
     case rel =>
      have hs3 := hk3.size
      have hs1 := HB1.out.size
      refine ⟨k + 1, O', by omega, by go_num, RowC.keptO hk3 (HZ.out.below HB1.out) (fun g o s e h0 hg hOg => HO.out g (HLT.out g o s e h0) hOg (.inr ⟨h0, o, s, e⟩)), by rw [List.range_succ]; exact hJ3, by omega, fun i hi hOi => ?_, HLT.out⟩
      rcases (hO3 i hOi).1 with h | h
      ·exact HO.out i hi h
      ·omega
    ·gi_wp2
     refine bodyPost_ret (results_none rfl _ _ _) rfl ?_
     exact ⟨⟨_, rfl⟩, .inr ⟨_, W3, hJx3, rfl, k, hkl, by rw [List.range_succ]⟩⟩
theorem valuesS_seq (n : Nat) (B1 : Nat) (a : Option Addr) (len cap : Nat) (f : Nat → Shd) (hlen : len ≤ 140737488355328) (w : World) (hB1 : w.cell? ⟨B1, 0, none⟩ = some (.slice a len cap)) (hz : RowC w a 4 len (fun i => cellS (f i))) :
  SeqN Fence.wide n Tryz.prog 81 #[.pointer (some ⟨B1, 0, none⟩)] (encSh f) (GSh len) (ksC B1 a len) (SSh len) (SpSh len) w := fun l J Jx W O0 hW _ hO0 hY h0 =>
 valuesS1_in n l B1 W.heap.size a len cap f hlen J Jx hY W O0 hO0 (cell_thru hB1 hW) (hz.below hW) h0
end Go.Proofs.YtppdbinppibjhaaGreatDoor
/-
  mani.Right (written by tools/gen-mright.py).
-/
namespace Go.Proofs.YtppdbinppibjhaaGreatDoor
open Go.RowKit Go.Shelf
attribute [local go_sem] Oper.semAt_some
def MrI (w0 : World) (B1 B2 : Nat) (ok : Bool) (P : Nat → Shd) (G : Int) (s : List Nat × (Nat → Prop)) (X : World) : Prop :=
 Boxed X B1 4 (.bool ok) ∧ Boxed X B2 3 (.int .i64 (aheadS 0 P s.1.length)) ∧ (∀ k, s.2 k ↔ k = B1 ∨ k = B2) ∧ (ok = true → rightS G 0 (stsN P s.1.length) = true) ∧ Below w0.heap.size w0 X
theorem MrI.own {w0 : World} {B1 B2 : Nat} {ok : Bool} {P : Nat → Shd} {G : Int} {N : Nat} (hN : w0.heap.size ≤ N) : OwnFrom N (MrI w0 B1 B2 ok P G) := fun _ X _ _ ⟨h1, h2, h3, h4, h5⟩ hg hr => by
 have hs := (Still.refl N X).grown hg hr
 exact ⟨Boxed.still h1 hs, Boxed.still h2 hs, h3, h4, h5.trans (hs.below hN h5.size)⟩
def MrE (w0 : World) (B1 : Nat) (r : Bool) (X : World) : Prop := Boxed X B1 4 (.bool r) ∧ Below w0.heap.size w0 X
theorem MrE.own {w0 : World} {B1 : Nat} {r : Bool} {N : Nat} {β : Type} (hN : w0.heap.size ≤ N) : OwnFrom N (fun (_ : β) X => MrE w0 B1 r X) := fun _ X _ _ ⟨h1, h5⟩ hg hr => by
 have hs := (Still.refl N X).grown hg hr
 exact ⟨Boxed.still h1 hs, h5.trans (hs.below hN h5.size)⟩
theorem ints_one {w : World} {b : Nat} {x : Int} (h : w.cell? ⟨b, 0, none⟩ = some (.int .i64 x)) : Ints w (some ⟨b, 0, none⟩) 1 (fun _ => x) := .inr ⟨b, 0, rfl, fun i hi => by
 obtain rfl : i = 0 := by omega
 exact h⟩
theorem okS_four {gen last lo : Int} {P : Shd} (h : lo = last + 1) : okS gen last P.st = (betZ lo gen (fun _ => P.N) 1 && (betZ 0 67108864 (fun _ => P.Z) 1 && (betZ 0 3999 (fun i => P.D.getD i 0) P.D.length && riseZ (fun i => P.D.getD i 0) P.D.length))) := by
 rw [okS_is]
 have e1 : betZ lo gen (fun _ => P.N) 1 = (decide (last < P.N) && decide (P.N ≤ gen)) := by
  rw [Bool.eq_iff_iff, betZ_iff, Bool.and_eq_true, decide_eq_true_eq, decide_eq_true_eq]
  exact ⟨fun h' => by have := h' 0 (by omega); omega, fun h' i _ => by omega⟩
 have e2 : betZ 0 67108864 (fun _ => P.Z) 1 = (decide (0 ≤ P.Z) && decide (P.Z ≤ 67108864)) := by
  rw [Bool.eq_iff_iff, betZ_iff, Bool.and_eq_true, decide_eq_true_eq, decide_eq_true_eq]
  exact ⟨fun h' => by have := h' 0 (by omega); omega, fun h' i _ => by omega⟩
 rw [e1, e2, Bool.and_assoc]
theorem rightS_bad {gen l : Int} {P : Nat → Shd} {n x : Nat} (hx : x < n) (h : okS gen (aheadS l P x) (P x).st = false) : rightS gen l (stsN P n) = false := by
 cases hr : rightS gen l (stsN P n) with
 | false => rfl
 | true =>
   have := rightS_le (k := x + 1) hx hr
   rw [rightS_succ, h, Bool.and_false] at this
   cases this
theorem rightS_ahead {gen : Int} {P : Nat → Shd} {k : Nat} (h : rightS gen 0 (stsN P k) = true) (hg : 0 ≤ gen) : 0 ≤ aheadS 0 P k ∧ aheadS 0 P k ≤ gen := by
 induction k with
 | zero => exact ⟨Int.le_refl 0, hg⟩
 | succ k ih =>
   rw [rightS_succ, Bool.and_eq_true] at h
   have h1 := ih h.1
   have h2 := h.2
   simp only [okS, Bool.and_eq_true, decide_eq_true_eq] at h2
   have e : (P k).st.N = (P k).N := rfl
   rw [e] at h2
   exact ⟨by show 0 ≤ (P k).N; omega, by show (P k).N ≤ gen; omega⟩
theorem rightM_is (G : Int) (P : Nat → Shd) (n : Nat) : rightM ⟨G, stsN P n⟩ = ((betZ 0 1099511627776 (fun _ => G) 1 && decide ((n : Int) ≤ 40)) && rightS G 0 (stsN P n)) := by
 unfold rightM
 simp only [stsN_length]
 have e1 : betZ 0 1099511627776 (fun _ => G) 1 = (decide (0 ≤ G) && decide (G ≤ maxNum)) := by
  rw [Bool.eq_iff_iff, betZ_iff, Bool.and_eq_true, decide_eq_true_eq, decide_eq_true_eq]
  unfold maxNum
  exact ⟨fun h' => by have := h' 0 (by omega); omega, fun h' i _ => by omega⟩
 have e2 : decide ((n : Int) ≤ 40) = decide (n ≤ 40) := by rw [decide_eq_decide]; omega
 rw [e1, e2]
theorem mright_in (nn : Nat) (hnn : 40 ≤ nn) (G : Int) (a : Option Addr) (n cap : Nat) (P : Nat → Shd) (w : World) (hn : n ≤ 140737488355328) (hG : (Lit.int .i64 G).wf = true) (hP : Shds w a n P) (hD : ∀ i, i < n → (P i).D.length ≤ 140737488355328) :
  CallsIn Fence.wide nn Tryz.prog 15 #[.agg #[.int .i64 G, .slice a n cap]] w fun e w' => e = .returned (.bool (rightM ⟨G, stsN P n⟩)) ∧ Below w.heap.size w w' := by
 rw [rightM_is]
 obtain ⟨W0, hW0⟩ : ∃ W0, w.alloc (.cells #[.int .i64 G, .slice a n cap] 24) = W0 := ⟨_, rfl⟩
 have hs0 : W0.heap.size = w.heap.size + 1 := by rw [← hW0]; simp
 have hb0 : Below w.heap.size w W0 := by rw [← hW0]; exact below_alloc _ _
 obtain ⟨m0, m1⟩ := cells2_at (show W0.heap[w.heap.size]? = some (.cells #[.int .i64 G, .slice a n cap] 24 (0, 0)) by rw [← hW0]; exact heap_alloc_new _ _)
 obtain ⟨W1, hW1⟩ : ∃ W1, W0.alloc (.cells #[.int .i64 G] 3) = W1 := ⟨_, rfl⟩
 have hb1 : Below W0.heap.size W0 W1 := by rw [← hW1]; exact below_alloc _ _
 have hbt := between_any 0 1099511627776 (some ⟨w.heap.size + 1, 0, none⟩) 1 1 (fun _ => G) W1 (by omega) (ints_one (by rw [← hs0, ← hW1]; exact (cell_new_l W0 _ _).1))
 have HW := hide (And.intro hW0 (And.intro hs0 hW1))
 have HP := hide (hP.below hb0)
 clear hP hW0 hW1
 refine callsIn_of_wp_marks Tryz.func15 rfl trivial ?_ rfl
 simp only [Tryz.ntmps15, List.size_toArray, List.length_cons, List.length_nil, Nat.reduceAdd, Nat.reduceSub, Array.replicate_succ, Array.replicate_zero, List.push_toArray, List.append_toArray, List.nil_append, List.cons_append]
 gi_wp2
 apply wpIn_scope
 gi_wp2
 rw [HW.out.1]
 gi_wp2
 rw [HW.out.2.2]
 try rw [HW.out.2.1]
 refine ⟨trivial, wide_deep, (wide_plain.call hbt).mono ?_⟩
 rintro e w2 ⟨rfl, hb2⟩
 have hB2 : Below W0.heap.size W0 w2 := below_thru hb1 hb2
 have HM0 := hide (And.intro m0 m1)
 have mm1 := cell_thru m1 hB2
 have mm0 := cell_thru m0 hB2
 clear hbt m0 m1 hb1 hb2
 cases hb1v : betZ 0 1099511627776 (fun _ => G) 1
 case false =>
  obtain ⟨W3, hW3⟩ : ∃ W3, w2.alloc (.cells #[.bool false] 4) = W3 := ⟨_, rfl⟩
  obtain ⟨W4, hW4⟩ : ∃ W4, W3.alloc (.cells #[.int .i64 0] 3) = W4 := ⟨_, rfl⟩
  obtain ⟨W5, hW5⟩ : ∃ W5, W4.alloc (.cells #[.slice a n cap] 22) = W5 := ⟨_, rfl⟩
  have hs3 : W3.heap.size = w2.heap.size + 1 := by rw [← hW3]; simp
  have hs4 : W4.heap.size = w2.heap.size + 2 := by rw [← hW4]; simp; omega
  have hs5 : W5.heap.size = w2.heap.size + 3 := by rw [← hW5]; simp; omega
  have hb5 : Below w2.heap.size w2 W5 := by rw [← hW5, ← hW4, ← hW3]; exact below_step (below_step (below_alloc _ _) _) _
  have hB5 : Below W0.heap.size W0 W5 := below_thru hB2 hb5
  have m14 : W4.cell? ⟨w.heap.size, 1, none⟩ = some (.slice a n cap) := cell_thru mm1 (by rw [← hW4, ← hW3]; exact below_step (below_alloc _ _) _)
  have hok5 : Boxed W5 w2.heap.size 4 (.bool false) := by rw [← hW5, ← hW4, ← hW3]; exact ((Boxed.new w2 _ _).alloc _).alloc _
  have hah5 : Boxed W5 (w2.heap.size + 1) 3 (.int .i64 0) := by rw [← hW5, ← hW4, ← hs3]; exact (Boxed.new W3 _ _).alloc _
  have hv5 : W5.cell? ⟨w2.heap.size + 2, 0, none⟩ = some (.slice a n cap) := by rw [← hW5, ← hs4]; exact (cell_new_l W4 _ _).1
  have hseq := valuesS_seq (nn - 1) (w2.heap.size + 2) a n cap P hn W5 hv5 (HP.out.row.below hB5)
  have hI0 : MrI W0 w2.heap.size (w2.heap.size + 1) false P G ([], fun k => k = w2.heap.size ∨ k = w2.heap.size + 1) W5 := ⟨hok5, hah5, fun k => Iff.rfl, fun _ => rfl, hB5⟩
  have hks : ∀ k, k = w2.heap.size ∨ k = w2.heap.size + 1 → ¬ ksC (w2.heap.size + 2) a n k ∧ k < W5.heap.size := fun k hk => by
   refine ⟨?_, by omega⟩
   rintro (h | ⟨h0, h⟩)
   ·omega
   ·have := HP.out.row.lt (fun i _ => cellS_ne _) h0 k h
    have := hB2.size
    omega
  have hz2 := hB2.size
  have HS := hide (And.intro hs4 hs5)
  have HWW := hide (And.intro hW3 (And.intro hW4 hW5))
  clear hv5 hs3 hs4 hs5 hok5 hah5 hW3 hW4 hW5 hb5
  gi_wp2
  try rw [HWW.out.1]
  try rw [HWW.out.2.1]
  apply wpIn_label
  gi_wp2
  try rw [HWW.out.1]
  try rw [HWW.out.2.1]
  refine ⟨trivial, wide_deep, (valuesS_in Fence.wide (nn - 1) trivial rfl a n cap W4).mono ?_⟩
  rintro e w5 ⟨rfl, rfl⟩
  rw [HWW.out.2.2, HS.out.1]
  gi_wp2
  refine wpIn_rangeFunc_N rfl (by omega) (gf := 81) (lb := #[.pointer (some ⟨w2.heap.size + 2, 0, none⟩)]) rfl trivial (enters_of Tryz.func81 (by kernel_rfl) rfl)
   hseq (fun _ _ _ _ h => ⟨h.1.size, fun k o hk ho hc => h.1.others k o ho hc⟩) (fun _ _ _ h => by rw [h.1]; exact KeepsTo.refl _ _) (fun _ _ _ h => by rw [h.1]; exact KeepsTo.refl _ _) (Below.refl _ _) (fun _ => rfl)
   (MrI W0 w2.heap.size (w2.heap.size + 1) false P G) (fun c pre X => c = .exit 0 ∧ Boxed X w2.heap.size 4 (.bool false) ∧ (false = true → rightS G 0 (stsN P n) = false) ∧ Below W0.heap.size W0 X)
   (fun s x X => MrI W0 w2.heap.size (w2.heap.size + 1) false P G s X ∧ s.1 = List.range x ∧ x < n)
   (fun _ X => MrE W0 w2.heap.size (false && rightS G 0 (stsN P n)) X) (fun c _ X => c = .exit 0 ∧ MrE W0 w2.heap.size (false && rightS G 0 (stsN P n)) X)
   (MrI.own hB5.size) ?ix (MrE.own hB5.size) ?ex ?mid ?eend ?xend (fun k => k = w2.heap.size ∨ k = w2.heap.size + 1) hks hI0
   (fun s x a' X => (∃ t6 t7 t8 t9 t10 t11 t12 t13 t14 t15 t16 t17 t18 t19 : Value, ∃ q : Nat, a' = { tmps := #[.agg #[.int .i64 G, .slice a n cap], .pointer (some ⟨w.heap.size, 0, none⟩), .bool false, .pointer (some ⟨w2.heap.size, 0, none⟩), .pointer (some ⟨w2.heap.size + 1, 0, none⟩), .pointer (some ⟨q, 0, none⟩), t6, t7, t8, t9, t10, t11, t12, t13, t14, t15, t16, t17, t18, t19, undef, undef, undef, undef, undef, undef, undef, undef, undef, undef, undef, undef, undef, undef, undef, undef, undef, undef, undef, undef, undef, undef, undef, undef, undef, undef], defers := [] } ∧ X.heap[q]? = some (.cells #[.int .i64 (P x).N, .int .i64 (P x).Z, .int .u32 ((P x).S : Nat), .slice (P x).pD (P x).D.length (P x).cD] 54 (0, 0))) ∧
    MrI W0 w2.heap.size (w2.heap.size + 1) false P G s X ∧ s.1 = List.range x ∧ x < n) ?m2 ?assign ?body ?done ?stop
  case ix =>
   rintro c pre X Y row ⟨h0, h2, h3, h5⟩ hg hr
   have hs := (Still.refl W5.heap.size X).grown hg hr
   exact ⟨h0, Boxed.still h2 hs, h3, h5.trans (hs.below hB5.size h5.size)⟩
  case ex =>
   rintro c pre X Y row ⟨h0, h1⟩ hg hr
   exact ⟨h0, MrE.own (β := List Nat) hB5.size pre X Y row h1 hg hr⟩
  case mid =>
   rintro pre O x A B ⟨h1, h2, h3, h4, h5⟩ ⟨hk, hpre, hx⟩
   exact ⟨⟨hk.heap h1 (fun h => h), hk.heap h2 (fun h => h), h3, h4, below_keptN h5 hk h5.size⟩, hpre, hx⟩
  case eend =>
   rintro xs O A B ⟨h1, h2, h3, h4, h5⟩ ⟨rfl, rfl⟩
   simp only [List.length_range] at h4
   exact ⟨h1, h5⟩
  case xend =>
   rintro c pre A B ⟨h0, h1, h2, h5⟩ ⟨rfl, _⟩
   exact ⟨h0, h1, h5⟩
  case m2 =>
   rintro x a' s X Y row ⟨⟨t6, t7, t8, t9, t10, t11, t12, t13, t14, t15, t16, t17, t18, t19, q, h1, h4⟩, h2, h3⟩ hg hr
   have hs := (Still.refl W5.heap.size X).grown hg hr
   exact ⟨⟨t6, t7, t8, t9, t10, t11, t12, t13, t14, t15, t16, t17, t18, t19, q, h1, hs.cells _ _ _ _ h4⟩, MrI.own hB5.size s X Y row h2 hg hr, h3⟩
  case assign =>
   intro l' pre O x X K hM hK
   have HK := hide hK
   have HM := hide hM
   clear hK hseq hM hI0 hks mm0 mm1
   simp only [encSh]
   obtain ⟨vN, hN⟩ : ∃ v, (P x).N = v := ⟨_, rfl⟩
   obtain ⟨vZ, hZ⟩ : ∃ v, (P x).Z = v := ⟨_, rfl⟩
   obtain ⟨vS, hS⟩ : ∃ v : Int, ((P x).S : Int) = v := ⟨_, rfl⟩
   obtain ⟨pD, hpD⟩ : ∃ v, (P x).pD = v := ⟨_, rfl⟩
   obtain ⟨lD, hlD⟩ : ∃ v, (P x).D.length = v := ⟨_, rfl⟩
   obtain ⟨cD, hcD⟩ : ∃ v, (P x).cD = v := ⟨_, rfl⟩
   rw [hN, hZ, hS, hpD, hlD, hcD]
   have HE := hide (And.intro hN (And.intro hZ (And.intro hS (And.intro hpD (And.intro hlD hcD)))))
   clear hN hZ hS hpD hlD hcD
   gi_wp2
   have hal := below_alloc X (.cells #[.int .i64 vN, .int .i64 vZ, .int .u32 vS, .slice pD lD cD] 54)
   obtain ⟨⟨h1, h2, h3, h4, h5⟩, h6⟩ := HM.out
   refine HK.out _ _ (keepsFrom_below hal) (keptO_below hal _) ⟨⟨_, _, _, _, _, _, _, _, _, _, _, _, _, _, _, rfl, ?_⟩, ⟨Boxed.thru h1 hal, Boxed.thru h2 hal, h3, h4, h5.trans (hal.mono h5.size)⟩, h6⟩
   rw [HE.out.1, HE.out.2.1, HE.out.2.2.1, HE.out.2.2.2.1, HE.out.2.2.2.2.1, HE.out.2.2.2.2.2]
   exact heap_alloc_new _ _
  case body =>
   rintro l' pre O x a' X ⟨⟨t6, t7, t8, t9, t10, t11, t12, t13, t14, t15, t16, t17, t18, t19, q, rfl, hq⟩, ⟨hA, hA2, hO, hri, hB⟩, hpre, hx⟩
   simp only at hO hri hpre hA2
   subst hpre
   simp only [List.length_range] at hri hA2
   have hDx := hD x hx
   have hlo0 : false = true → 0 ≤ aheadS 0 P x ∧ aheadS 0 P x ≤ 1099511627776 := fun h => by cases h
   have hbad : okS G (aheadS 0 P x) (P x).st = false → rightS G 0 (stsN P n) = false := fun h => rightS_bad hx h
   have hgood := rightS_succ G 0 P x
   have hdx : Ints X (P x).pD (P x).D.length (fun i => (P x).D.getD i 0) := by
    rcases (HP.out.below hB) with h | ⟨b, off, e, hc⟩
    ·omega
    ·exact ((hc x hx).2).bD
   obtain ⟨h, hh⟩ : ∃ h, aheadS 0 P x = h := ⟨_, rfl⟩
   obtain ⟨lo, hlo⟩ : ∃ lo, wrap64 (h + 1) = lo := ⟨_, rfl⟩
   have hfour : false = true → okS G (aheadS 0 P x) (P x).st = (betZ lo G (fun _ => (P x).N) 1 && (betZ 0 67108864 (fun _ => (P x).Z) 1 && (betZ 0 3999 (fun i => (P x).D.getD i 0) (P x).D.length && riseZ (fun i => (P x).D.getD i 0) (P x).D.length))) := fun ho => okS_four (by
    have := hlo0 ho
    rw [hh] at this ⊢
    rw [← hlo]
    unfold wrap64
    omega)
   rw [hh] at hA2
   have hrow2 : ∀ X', Below X.heap.size X X' → Ints X' (P x).pD (P x).D.length (fun i => (P x).D.getD i 0) := fun X' hb => hdx.below hb
   obtain ⟨s0, s1, s2, s3⟩ := cells4_at hq
   have n0 := cell_thru HM0.out.1 hB
   have HA := hide hA
   have HA2 := hide hA2
   have HO := hide hO
   have HB := hide hB
   have c0 := hA.cell
   have f0 := hA.frozen
   have c1 := hA2.cell
   have f1 := hA2.frozen
   have hbd : ∀ (X' : World) (ac : Act), Below X.heap.size X X' → (false = true → okS G (aheadS 0 P x) (P x).st = false) → ownPostO W5.heap.size (MrI W0 w2.heap.size (w2.heap.size + 1) false P G) (fun c pre X => c = .exit 0 ∧ Boxed X w2.heap.size 4 (.bool false) ∧ (false = true → rightS G 0 (stsN P n) = false) ∧ Below W0.heap.size W0 X) (List.range x ++ [x]) O X (.exit 0) ac (X'.setCell ⟨w2.heap.size, 0, none⟩ (.bool false)) := by
    intro X' ac hk hx'
    exact ⟨(keepsFrom_below hk).trans ((KeepsOthers.setCell _ _ _).from _), rfl, Boxed.set (Value.bool false) (Boxed.thru HA.out hk), fun ho => rightS_bad hx (hx' ho), (HB.out.trans (hk.mono HB.out.size)).setCell (p := ⟨w2.heap.size, 0, none⟩) (by show W0.heap.size ≤ w2.heap.size; exact hz2) _⟩
   have hgd : ∀ (X' : World) (ac : Act), Below X.heap.size X X' → (false = true → okS G (aheadS 0 P x) (P x).st = true) → ownPostO W5.heap.size (MrI W0 w2.heap.size (w2.heap.size + 1) false P G) (fun c pre X => c = .exit 0 ∧ Boxed X w2.heap.size 4 (.bool false) ∧ (false = true → rightS G 0 (stsN P n) = false) ∧ Below W0.heap.size W0 X) (List.range x ++ [x]) O X .normal ac (X'.setCell ⟨w2.heap.size + 1, 0, none⟩ (.int .i64 (P x).N)) := by
    intro X' ac hk hx'
    have hs := hk.size
    refine ⟨(keepsFrom_below hk).trans ((KeepsOthers.setCell _ _ _).from _), O, ⟨Boxed.by_side (Boxed.thru HA.out hk) (by omega) _, ?_, HO.out, ?_, (HB.out.trans (hk.mono HB.out.size)).setCell (p := ⟨w2.heap.size + 1, 0, none⟩) (by show W0.heap.size ≤ w2.heap.size + 1; omega) _⟩, ?_, fun k hk' => ⟨.inl hk', ?_⟩⟩
    ·have h2 := Boxed.set (Value.int .i64 (P x).N) (Boxed.thru HA2.out hk)
     simp only [List.length_append, List.length_range, List.length_cons, List.length_nil, Nat.zero_add]
     exact h2
    ·intro ho
     simp only [List.length_append, List.length_range, List.length_cons, List.length_nil, Nat.zero_add]
     rw [hgood, hri ho, hx' ho]
     rfl
    ·exact (keptO_below hk _).trans (KeptO.of_kept ((Kept.refl O X').setCell (p := ⟨w2.heap.size + 1, 0, none⟩) (.inl ((HO.out _).2 (.inr rfl))) _))
    ·have h1 := (HO.out k).1 hk'
     have h2 := block_lt HA2.out
     simp
     omega
   have HBD := hide hbd
   have HGD := hide hgd
   have H4 := hide hfour
   have HR := hide hrow2
   clear hbd hgd hA hA2 hO hB hri hbad hgood hfour hrow2 hdx hq hseq hI0 hks hlo0
   obtain ⟨vN, hN⟩ : ∃ v, (P x).N = v := ⟨_, rfl⟩
   obtain ⟨vZ, hZ⟩ : ∃ v, (P x).Z = v := ⟨_, rfl⟩
   obtain ⟨vS, hS⟩ : ∃ v : Int, ((P x).S : Int) = v := ⟨_, rfl⟩
   obtain ⟨pD, hpD⟩ : ∃ v, (P x).pD = v := ⟨_, rfl⟩
   obtain ⟨lD, hlD⟩ : ∃ v, (P x).D.length = v := ⟨_, rfl⟩
   obtain ⟨cD, hcD⟩ : ∃ v, (P x).cD = v := ⟨_, rfl⟩
   rw [hN] at s0
   rw [hZ] at s1
   rw [hS] at s2
   rw [hpD, hlD, hcD] at s3
   rw [hlD] at hDx
   have HE := hide (And.intro hN (And.intro hZ (And.intro hpD hlD)))
   have HLO := hide (And.intro hh hlo)
   clear hN hZ hS hpD hlD hcD hh hlo s2
   obtain ⟨X1, hX1⟩ : ∃ X1, X.alloc (.cells #[.int .i64 vN] 3) = X1 := ⟨_, rfl⟩
   have hbX1 : Below X.heap.size X X1 := by rw [← hX1]; exact below_alloc _ _
   have hbt1 := between_any (wrap64 (h + 1)) G (some ⟨X.heap.size, 0, none⟩) 1 1 (fun _ => vN) X1 (by omega) (ints_one (by rw [← hX1]; exact (cell_new_l X _ _).1))
   have HX1 := hide hX1
   clear hX1
   gi_wp2
   rw [HX1.out]
   refine ⟨trivial, wide_deep, ((wide_round l').call hbt1).mono ?_⟩
   rintro e X2 ⟨rfl, hb2⟩
   have hbX2 := below_thru hbX1 hb2
   have u1 := cell_thru s1 hbX2
   have u3 := cell_thru s3 hbX2
   have v0 := cell_thru s0 hbX2
   have z0 := cell_thru c0 hbX2
   have z1 := cell_thru c1 hbX2
   have y0 := (Boxed.thru HA.out hbX2).frozen
   have y1 := (Boxed.thru HA2.out hbX2).frozen
   have HB2 := hide hbX2
   clear s0 s1 s3 c0 f0 c1 f1 n0 hbt1 hb2 hbX1 hbX2
   cases hc1 : betZ (wrap64 (h + 1)) G (fun _ => vN) 1 with
   | false =>
     have HC1 := hide hc1
     clear hc1
     gi_wp2
     exact HBD.out X2 _ HB2.out (fun ho => by rw [H4.out ho, ← HLO.out.2, HE.out.1, HC1.out]; rfl)
   | true =>
     have HC1 := hide hc1
     clear hc1
     obtain ⟨X3, hX3⟩ : ∃ X3, X2.alloc (.cells #[.int .i64 vZ] 3) = X3 := ⟨_, rfl⟩
     have hbX3 : Below X2.heap.size X2 X3 := by rw [← hX3]; exact below_alloc _ _
     have hbt2 := between_any 0 67108864 (some ⟨X2.heap.size, 0, none⟩) 1 1 (fun _ => vZ) X3 (by omega) (ints_one (by rw [← hX3]; exact (cell_new_l X2 _ _).1))
     have HX3 := hide hX3
     clear hX3
     gi_wp2
     rw [HX3.out]
     refine ⟨trivial, wide_deep, ((wide_round l').call hbt2).mono ?_⟩
     rintro e X4 ⟨rfl, hb4⟩
     have hbX4 := below_thru hbX3 hb4
     have w3 := cell_thru u3 hbX4
     have w0 := cell_thru v0 hbX4
     have b0 := cell_thru z0 hbX4
     have b1 := cell_thru z1 hbX4
     have hB4 := below_thru HB2.out hbX4
     have x0 := (Boxed.thru HA.out hB4).frozen
     have x1 := (Boxed.thru HA2.out hB4).frozen
     have HB4 := hide hB4
     clear u1 u3 v0 z0 z1 y0 y1 hbt2 hb4 hbX3 hbX4 hB4
     cases hc2 : betZ 0 67108864 (fun _ => vZ) 1 with
     | false =>
       have HC2 := hide hc2
       clear hc2
       gi_wp2
       exact HBD.out X4 _ HB4.out (fun ho => by rw [H4.out ho, HE.out.2.1, HC2.out]; simp)
     | true =>
       have HC2 := hide hc2
       clear hc2
       have hbt3 := between_any 0 3999 pD lD cD (fun i => (P x).D.getD i 0) X4 hDx (by have := HR.out X4 HB4.out; rw [HE.out.2.2.1, HE.out.2.2.2] at this; exact this)
       gi_wp2
       refine ⟨trivial, wide_deep, ((wide_round l').call hbt3).mono ?_⟩
       rintro e X5 ⟨rfl, hb5⟩
       have r3 := cell_thru w3 hb5
       have r0 := cell_thru w0 hb5
       have d0 := cell_thru b0 hb5
       have d1 := cell_thru b1 hb5
       have hB5 := below_thru HB4.out hb5
       have e0 := (Boxed.thru HA.out hB5).frozen
       have e1 := (Boxed.thru HA2.out hB5).frozen
       have HB5 := hide hB5
       clear w3 w0 b0 b1 x0 x1 hbt3 hb5 hB5
       cases hc3 : betZ 0 3999 (fun i => (P x).D.getD i 0) lD with
       | false =>
         have HC3 := hide hc3
         clear hc3
         gi_wp2
         exact HBD.out X5 _ HB5.out (fun ho => by rw [H4.out ho, HE.out.2.2.2, HC3.out]; simp)
       | true =>
         have HC3 := hide hc3
         clear hc3
         have hbt4 := rise_any pD lD cD (fun i => (P x).D.getD i 0) X5 hDx (by have := HR.out X5 HB5.out; rw [HE.out.2.2.1, HE.out.2.2.2] at this; exact this)
         gi_wp2
         refine ⟨trivial, wide_deep, ((wide_round l').call hbt4).mono ?_⟩
         rintro e X6 ⟨rfl, hb6⟩
         have p0 := cell_thru r0 hb6
         have k0 := cell_thru d0 hb6
         have k1 := cell_thru d1 hb6
         have hB6 := below_thru HB5.out hb6
         have g0 := (Boxed.thru HA.out hB6).frozen
         have g1 := (Boxed.thru HA2.out hB6).frozen
         have HB6 := hide hB6
         clear r3 r0 d0 d1 e0 e1 hbt4 hb6 hB6
         cases hc4 : riseZ (fun i => (P x).D.getD i 0) lD with
         | false =>
           have HC4 := hide hc4
           clear hc4
           gi_wp2
           exact HBD.out X6 _ HB6.out (fun ho => by rw [H4.out ho, HE.out.2.2.2, HC4.out]; simp)
         | true =>
           have HC4 := hide hc4
           clear hc4
           gi_wp2
           have hfin := HGD.out X6 (⟨#[], []⟩ : Act) HB6.out (fun ho => by rw [H4.out ho, ← HLO.out.2, HE.out.1, HE.out.2.1, HE.out.2.2.2, HC1.out, HC2.out, HC3.out, HC4.out]; rfl)
           rw [HE.out.1] at hfin
           exact hfin
  case done =>
   rintro D xs X hD ⟨h1, h3⟩ hKD
   have c0 := h1.cell
   have H3 := hide h3
   clear h1 h3 hseq hI0 hks
   gi_wp2
   rw [Exit.noGoto_ret]
   refine ⟨by simp, .inl ⟨D, _, rfl, run_takeDeferred hKD, ?_⟩⟩
   exact ⟨_, results_tmp rfl _ _ _, by rw [hb1v]; rfl, below_thru hb0 (H3.out.trans (belowK_b (w := W0) (Nat.le_refl _) X D _ _ (by have := hB5.size; omega) hKD rfl rfl))⟩
  case stop =>
   rintro D c pre X hD ⟨rfl, h1, h3⟩ hKD
   have c0 := h1.cell
   have H3 := hide h3
   clear h1 h3 hseq hI0 hks
   gi_wp2
   rw [Exit.noGoto_ret]
   refine ⟨by simp, .inl ⟨D, _, rfl, run_takeDeferred hKD, ?_⟩⟩
   exact ⟨_, results_tmp rfl _ _ _, by rw [hb1v]; rfl, below_thru hb0 (H3.out.trans (belowK_b (w := W0) (Nat.le_refl _) X D _ _ (by have := hB5.size; omega) hKD rfl rfl))⟩
 case true =>
  have hGr : 0 ≤ G ∧ G ≤ 1099511627776 := betZ_iff.1 hb1v 0 (by omega)
  obtain ⟨okv, hokv⟩ : ∃ okv : Bool, decide ((n : Int) ≤ 40) = okv := ⟨_, rfl⟩
  obtain ⟨W3, hW3⟩ : ∃ W3, w2.alloc (.cells #[.bool okv] 4) = W3 := ⟨_, rfl⟩
  obtain ⟨W4, hW4⟩ : ∃ W4, W3.alloc (.cells #[.int .i64 0] 3) = W4 := ⟨_, rfl⟩
  obtain ⟨W5, hW5⟩ : ∃ W5, W4.alloc (.cells #[.slice a n cap] 22) = W5 := ⟨_, rfl⟩
  have hs3 : W3.heap.size = w2.heap.size + 1 := by rw [← hW3]; simp
  have hs4 : W4.heap.size = w2.heap.size + 2 := by rw [← hW4]; simp; omega
  have hs5 : W5.heap.size = w2.heap.size + 3 := by rw [← hW5]; simp; omega
  have hb5 : Below w2.heap.size w2 W5 := by rw [← hW5, ← hW4, ← hW3]; exact below_step (below_step (below_alloc _ _) _) _
  have hB5 : Below W0.heap.size W0 W5 := below_thru hB2 hb5
  have m14 : W4.cell? ⟨w.heap.size, 1, none⟩ = some (.slice a n cap) := cell_thru mm1 (by rw [← hW4, ← hW3]; exact below_step (below_alloc _ _) _)
  have hok5 : Boxed W5 w2.heap.size 4 (.bool okv) := by rw [← hW5, ← hW4, ← hW3]; exact ((Boxed.new w2 _ _).alloc _).alloc _
  have hah5 : Boxed W5 (w2.heap.size + 1) 3 (.int .i64 0) := by rw [← hW5, ← hW4, ← hs3]; exact (Boxed.new W3 _ _).alloc _
  have hv5 : W5.cell? ⟨w2.heap.size + 2, 0, none⟩ = some (.slice a n cap) := by rw [← hW5, ← hs4]; exact (cell_new_l W4 _ _).1
  have hseq := valuesS_seq (nn - 1) (w2.heap.size + 2) a n cap P hn W5 hv5 (HP.out.row.below hB5)
  have hI0 : MrI W0 w2.heap.size (w2.heap.size + 1) okv P G ([], fun k => k = w2.heap.size ∨ k = w2.heap.size + 1) W5 := ⟨hok5, hah5, fun k => Iff.rfl, fun _ => rfl, hB5⟩
  have hks : ∀ k, k = w2.heap.size ∨ k = w2.heap.size + 1 → ¬ ksC (w2.heap.size + 2) a n k ∧ k < W5.heap.size := fun k hk => by
   refine ⟨?_, by omega⟩
   rintro (h | ⟨h0, h⟩)
   ·omega
   ·have := HP.out.row.lt (fun i _ => cellS_ne _) h0 k h
    have := hB2.size
    omega
  have hz2 := hB2.size
  have HOK := hide hokv
  have HS := hide (And.intro hs4 hs5)
  have HWW := hide (And.intro hW3 (And.intro hW4 hW5))
  clear hv5 hs3 hs4 hs5 hok5 hah5 hW3 hW4 hW5 hb5
  gi_wp2
  try rw [HWW.out.1]
  try rw [HWW.out.2.1]
  apply wpIn_label
  gi_wp2
  try rw [HWW.out.1]
  try rw [HWW.out.2.1]
  refine ⟨trivial, wide_deep, (valuesS_in Fence.wide (nn - 1) trivial rfl a n cap W4).mono ?_⟩
  rintro e w5 ⟨rfl, rfl⟩
  rw [HWW.out.2.2, HS.out.1]
  gi_wp2
  refine wpIn_rangeFunc_N rfl (by omega) (gf := 81) (lb := #[.pointer (some ⟨w2.heap.size + 2, 0, none⟩)]) rfl trivial (enters_of Tryz.func81 (by kernel_rfl) rfl)
   hseq (fun _ _ _ _ h => ⟨h.1.size, fun k o hk ho hc => h.1.others k o ho hc⟩) (fun _ _ _ h => by rw [h.1]; exact KeepsTo.refl _ _) (fun _ _ _ h => by rw [h.1]; exact KeepsTo.refl _ _) (Below.refl _ _) (fun _ => rfl)
   (MrI W0 w2.heap.size (w2.heap.size + 1) okv P G) (fun c pre X => c = .exit 0 ∧ Boxed X w2.heap.size 4 (.bool false) ∧ (okv = true → rightS G 0 (stsN P n) = false) ∧ Below W0.heap.size W0 X)
   (fun s x X => MrI W0 w2.heap.size (w2.heap.size + 1) okv P G s X ∧ s.1 = List.range x ∧ x < n)
   (fun _ X => MrE W0 w2.heap.size (okv && rightS G 0 (stsN P n)) X) (fun c _ X => c = .exit 0 ∧ MrE W0 w2.heap.size (okv && rightS G 0 (stsN P n)) X)
   (MrI.own hB5.size) ?ix (MrE.own hB5.size) ?ex ?mid ?eend ?xend (fun k => k = w2.heap.size ∨ k = w2.heap.size + 1) hks hI0
   (fun s x a' X => (∃ t6 t7 t8 t9 t10 t11 t12 t13 t14 t15 t16 t17 t18 t19 : Value, ∃ q : Nat, a' = { tmps := #[.agg #[.int .i64 G, .slice a n cap], .pointer (some ⟨w.heap.size, 0, none⟩), .bool false, .pointer (some ⟨w2.heap.size, 0, none⟩), .pointer (some ⟨w2.heap.size + 1, 0, none⟩), .pointer (some ⟨q, 0, none⟩), t6, t7, t8, t9, t10, t11, t12, t13, t14, t15, t16, t17, t18, t19, undef, undef, undef, undef, undef, undef, undef, undef, undef, undef, undef, undef, undef, undef, undef, undef, undef, undef, undef, undef, undef, undef, undef, undef, undef, undef], defers := [] } ∧ X.heap[q]? = some (.cells #[.int .i64 (P x).N, .int .i64 (P x).Z, .int .u32 ((P x).S : Nat), .slice (P x).pD (P x).D.length (P x).cD] 54 (0, 0))) ∧
    MrI W0 w2.heap.size (w2.heap.size + 1) okv P G s X ∧ s.1 = List.range x ∧ x < n) ?m2 ?assign ?body ?done ?stop
  case ix =>
   rintro c pre X Y row ⟨h0, h2, h3, h5⟩ hg hr
   have hs := (Still.refl W5.heap.size X).grown hg hr
   exact ⟨h0, Boxed.still h2 hs, h3, h5.trans (hs.below hB5.size h5.size)⟩
  case ex =>
   rintro c pre X Y row ⟨h0, h1⟩ hg hr
   exact ⟨h0, MrE.own (β := List Nat) hB5.size pre X Y row h1 hg hr⟩
  case mid =>
   rintro pre O x A B ⟨h1, h2, h3, h4, h5⟩ ⟨hk, hpre, hx⟩
   exact ⟨⟨hk.heap h1 (fun h => h), hk.heap h2 (fun h => h), h3, h4, below_keptN h5 hk h5.size⟩, hpre, hx⟩
  case eend =>
   rintro xs O A B ⟨h1, h2, h3, h4, h5⟩ ⟨rfl, rfl⟩
   simp only [List.length_range] at h4
   refine ⟨?_, h5⟩
   cases okv with
   | false => exact h1
   | true => rw [h4 rfl]; exact h1
  case xend =>
   rintro c pre A B ⟨h0, h1, h2, h5⟩ ⟨rfl, _⟩
   refine ⟨h0, ?_, h5⟩
   cases okv with
   | false => exact h1
   | true => rw [h2 rfl]; exact h1
  case m2 =>
   rintro x a' s X Y row ⟨⟨t6, t7, t8, t9, t10, t11, t12, t13, t14, t15, t16, t17, t18, t19, q, h1, h4⟩, h2, h3⟩ hg hr
   have hs := (Still.refl W5.heap.size X).grown hg hr
   exact ⟨⟨t6, t7, t8, t9, t10, t11, t12, t13, t14, t15, t16, t17, t18, t19, q, h1, hs.cells _ _ _ _ h4⟩, MrI.own hB5.size s X Y row h2 hg hr, h3⟩
  case assign =>
   intro l' pre O x X K hM hK
   have HK := hide hK
   have HM := hide hM
   clear hK hseq hM hI0 hks mm0 mm1
   simp only [encSh]
   obtain ⟨vN, hN⟩ : ∃ v, (P x).N = v := ⟨_, rfl⟩
   obtain ⟨vZ, hZ⟩ : ∃ v, (P x).Z = v := ⟨_, rfl⟩
   obtain ⟨vS, hS⟩ : ∃ v : Int, ((P x).S : Int) = v := ⟨_, rfl⟩
   obtain ⟨pD, hpD⟩ : ∃ v, (P x).pD = v := ⟨_, rfl⟩
   obtain ⟨lD, hlD⟩ : ∃ v, (P x).D.length = v := ⟨_, rfl⟩
   obtain ⟨cD, hcD⟩ : ∃ v, (P x).cD = v := ⟨_, rfl⟩
   rw [hN, hZ, hS, hpD, hlD, hcD]
   have HE := hide (And.intro hN (And.intro hZ (And.intro hS (And.intro hpD (And.intro hlD hcD)))))
   clear hN hZ hS hpD hlD hcD
   gi_wp2
   have hal := below_alloc X (.cells #[.int .i64 vN, .int .i64 vZ, .int .u32 vS, .slice pD lD cD] 54)
   obtain ⟨⟨h1, h2, h3, h4, h5⟩, h6⟩ := HM.out
   refine HK.out _ _ (keepsFrom_below hal) (keptO_below hal _) ⟨⟨_, _, _, _, _, _, _, _, _, _, _, _, _, _, _, rfl, ?_⟩, ⟨Boxed.thru h1 hal, Boxed.thru h2 hal, h3, h4, h5.trans (hal.mono h5.size)⟩, h6⟩
   rw [HE.out.1, HE.out.2.1, HE.out.2.2.1, HE.out.2.2.2.1, HE.out.2.2.2.2.1, HE.out.2.2.2.2.2]
   exact heap_alloc_new _ _
  case body =>
   rintro l' pre O x a' X ⟨⟨t6, t7, t8, t9, t10, t11, t12, t13, t14, t15, t16, t17, t18, t19, q, rfl, hq⟩, ⟨hA, hA2, hO, hri, hB⟩, hpre, hx⟩
   simp only at hO hri hpre hA2
   subst hpre
   simp only [List.length_range] at hri hA2
   have hDx := hD x hx
   have hlo0 : okv = true → 0 ≤ aheadS 0 P x ∧ aheadS 0 P x ≤ 1099511627776 := fun h => by have := rightS_ahead (hri h) hGr.1; omega
   have hbad : okS G (aheadS 0 P x) (P x).st = false → rightS G 0 (stsN P n) = false := fun h => rightS_bad hx h
   have hgood := rightS_succ G 0 P x
   have hdx : Ints X (P x).pD (P x).D.length (fun i => (P x).D.getD i 0) := by
    rcases (HP.out.below hB) with h | ⟨b, off, e, hc⟩
    ·omega
    ·exact ((hc x hx).2).bD
   obtain ⟨h, hh⟩ : ∃ h, aheadS 0 P x = h := ⟨_, rfl⟩
   obtain ⟨lo, hlo⟩ : ∃ lo, wrap64 (h + 1) = lo := ⟨_, rfl⟩
   have hfour : okv = true → okS G (aheadS 0 P x) (P x).st = (betZ lo G (fun _ => (P x).N) 1 && (betZ 0 67108864 (fun _ => (P x).Z) 1 && (betZ 0 3999 (fun i => (P x).D.getD i 0) (P x).D.length && riseZ (fun i => (P x).D.getD i 0) (P x).D.length))) := fun ho => okS_four (by
    have := hlo0 ho
    rw [hh] at this ⊢
    rw [← hlo]
    unfold wrap64
    omega)
   rw [hh] at hA2
   have hrow2 : ∀ X', Below X.heap.size X X' → Ints X' (P x).pD (P x).D.length (fun i => (P x).D.getD i 0) := fun X' hb => hdx.below hb
   obtain ⟨s0, s1, s2, s3⟩ := cells4_at hq
   have n0 := cell_thru HM0.out.1 hB
   have HA := hide hA
   have HA2 := hide hA2
   have HO := hide hO
   have HB := hide hB
   have c0 := hA.cell
   have f0 := hA.frozen
   have c1 := hA2.cell
   have f1 := hA2.frozen
   have hbd : ∀ (X' : World) (ac : Act), Below X.heap.size X X' → (okv = true → okS G (aheadS 0 P x) (P x).st = false) → ownPostO W5.heap.size (MrI W0 w2.heap.size (w2.heap.size + 1) okv P G) (fun c pre X => c = .exit 0 ∧ Boxed X w2.heap.size 4 (.bool false) ∧ (okv = true → rightS G 0 (stsN P n) = false) ∧ Below W0.heap.size W0 X) (List.range x ++ [x]) O X (.exit 0) ac (X'.setCell ⟨w2.heap.size, 0, none⟩ (.bool false)) := by
    intro X' ac hk hx'
    exact ⟨(keepsFrom_below hk).trans ((KeepsOthers.setCell _ _ _).from _), rfl, Boxed.set (Value.bool false) (Boxed.thru HA.out hk), fun ho => rightS_bad hx (hx' ho), (HB.out.trans (hk.mono HB.out.size)).setCell (p := ⟨w2.heap.size, 0, none⟩) (by show W0.heap.size ≤ w2.heap.size; exact hz2) _⟩
   have hgd : ∀ (X' : World) (ac : Act), Below X.heap.size X X' → (okv = true → okS G (aheadS 0 P x) (P x).st = true) → ownPostO W5.heap.size (MrI W0 w2.heap.size (w2.heap.size + 1) okv P G) (fun c pre X => c = .exit 0 ∧ Boxed X w2.heap.size 4 (.bool false) ∧ (okv = true → rightS G 0 (stsN P n) = false) ∧ Below W0.heap.size W0 X) (List.range x ++ [x]) O X .normal ac (X'.setCell ⟨w2.heap.size + 1, 0, none⟩ (.int .i64 (P x).N)) := by
    intro X' ac hk hx'
    have hs := hk.size
    refine ⟨(keepsFrom_below hk).trans ((KeepsOthers.setCell _ _ _).from _), O, ⟨Boxed.by_side (Boxed.thru HA.out hk) (by omega) _, ?_, HO.out, ?_, (HB.out.trans (hk.mono HB.out.size)).setCell (p := ⟨w2.heap.size + 1, 0, none⟩) (by show W0.heap.size ≤ w2.heap.size + 1; omega) _⟩, ?_, fun k hk' => ⟨.inl hk', ?_⟩⟩
    ·have h2 := Boxed.set (Value.int .i64 (P x).N) (Boxed.thru HA2.out hk)
     simp only [List.length_append, List.length_range, List.length_cons, List.length_nil, Nat.zero_add]
     exact h2
    ·intro ho
     simp only [List.length_append, List.length_range, List.length_cons, List.length_nil, Nat.zero_add]
     rw [hgood, hri ho, hx' ho]
     rfl
    ·exact (keptO_below hk _).trans (KeptO.of_kept ((Kept.refl O X').setCell (p := ⟨w2.heap.size + 1, 0, none⟩) (.inl ((HO.out _).2 (.inr rfl))) _))
    ·have h1 := (HO.out k).1 hk'
     have h2 := block_lt HA2.out
     simp
     omega
   have HBD := hide hbd
   have HGD := hide hgd
   have H4 := hide hfour
   have HR := hide hrow2
   clear hbd hgd hA hA2 hO hB hri hbad hgood hfour hrow2 hdx hq hseq hI0 hks hlo0
   obtain ⟨vN, hN⟩ : ∃ v, (P x).N = v := ⟨_, rfl⟩
   obtain ⟨vZ, hZ⟩ : ∃ v, (P x).Z = v := ⟨_, rfl⟩
   obtain ⟨vS, hS⟩ : ∃ v : Int, ((P x).S : Int) = v := ⟨_, rfl⟩
   obtain ⟨pD, hpD⟩ : ∃ v, (P x).pD = v := ⟨_, rfl⟩
   obtain ⟨lD, hlD⟩ : ∃ v, (P x).D.length = v := ⟨_, rfl⟩
   obtain ⟨cD, hcD⟩ : ∃ v, (P x).cD = v := ⟨_, rfl⟩
   rw [hN] at s0
   rw [hZ] at s1
   rw [hS] at s2
   rw [hpD, hlD, hcD] at s3
   rw [hlD] at hDx
   have HE := hide (And.intro hN (And.intro hZ (And.intro hpD hlD)))
   have HLO := hide (And.intro hh hlo)
   clear hN hZ hS hpD hlD hcD hh hlo s2
   obtain ⟨X1, hX1⟩ : ∃ X1, X.alloc (.cells #[.int .i64 vN] 3) = X1 := ⟨_, rfl⟩
   have hbX1 : Below X.heap.size X X1 := by rw [← hX1]; exact below_alloc _ _
   have hbt1 := between_any (wrap64 (h + 1)) G (some ⟨X.heap.size, 0, none⟩) 1 1 (fun _ => vN) X1 (by omega) (ints_one (by rw [← hX1]; exact (cell_new_l X _ _).1))
   have HX1 := hide hX1
   clear hX1
   gi_wp2
   rw [HX1.out]
   refine ⟨trivial, wide_deep, ((wide_round l').call hbt1).mono ?_⟩
   rintro e X2 ⟨rfl, hb2⟩
   have hbX2 := below_thru hbX1 hb2
   have u1 := cell_thru s1 hbX2
   have u3 := cell_thru s3 hbX2
   have v0 := cell_thru s0 hbX2
   have z0 := cell_thru c0 hbX2
   have z1 := cell_thru c1 hbX2
   have y0 := (Boxed.thru HA.out hbX2).frozen
   have y1 := (Boxed.thru HA2.out hbX2).frozen
   have HB2 := hide hbX2
   clear s0 s1 s3 c0 f0 c1 f1 n0 hbt1 hb2 hbX1 hbX2
   cases hc1 : betZ (wrap64 (h + 1)) G (fun _ => vN) 1 with
   | false =>
     have HC1 := hide hc1
     clear hc1
     gi_wp2
     exact HBD.out X2 _ HB2.out (fun ho => by rw [H4.out ho, ← HLO.out.2, HE.out.1, HC1.out]; rfl)
   | true =>
     have HC1 := hide hc1
     clear hc1
     obtain ⟨X3, hX3⟩ : ∃ X3, X2.alloc (.cells #[.int .i64 vZ] 3) = X3 := ⟨_, rfl⟩
     have hbX3 : Below X2.heap.size X2 X3 := by rw [← hX3]; exact below_alloc _ _
     have hbt2 := between_any 0 67108864 (some ⟨X2.heap.size, 0, none⟩) 1 1 (fun _ => vZ) X3 (by omega) (ints_one (by rw [← hX3]; exact (cell_new_l X2 _ _).1))
     have HX3 := hide hX3
     clear hX3
     gi_wp2
     rw [HX3.out]
     refine ⟨trivial, wide_deep, ((wide_round l').call hbt2).mono ?_⟩
     rintro e X4 ⟨rfl, hb4⟩
     have hbX4 := below_thru hbX3 hb4
     have w3 := cell_thru u3 hbX4
     have w0 := cell_thru v0 hbX4
     have b0 := cell_thru z0 hbX4
     have b1 := cell_thru z1 hbX4
     have hB4 := below_thru HB2.out hbX4
     have x0 := (Boxed.thru HA.out hB4).frozen
     have x1 := (Boxed.thru HA2.out hB4).frozen
     have HB4 := hide hB4
     clear u1 u3 v0 z0 z1 y0 y1 hbt2 hb4 hbX3 hbX4 hB4
     cases hc2 : betZ 0 67108864 (fun _ => vZ) 1 with
     | false =>
       have HC2 := hide hc2
       clear hc2
       gi_wp2
       exact HBD.out X4 _ HB4.out (fun ho => by rw [H4.out ho, HE.out.2.1, HC2.out]; simp)
     | true =>
       have HC2 := hide hc2
       clear hc2
       have hbt3 := between_any 0 3999 pD lD cD (fun i => (P x).D.getD i 0) X4 hDx (by have := HR.out X4 HB4.out; rw [HE.out.2.2.1, HE.out.2.2.2] at this; exact this)
       gi_wp2
       refine ⟨trivial, wide_deep, ((wide_round l').call hbt3).mono ?_⟩
       rintro e X5 ⟨rfl, hb5⟩
       have r3 := cell_thru w3 hb5
       have r0 := cell_thru w0 hb5
       have d0 := cell_thru b0 hb5
       have d1 := cell_thru b1 hb5
       have hB5 := below_thru HB4.out hb5
       have e0 := (Boxed.thru HA.out hB5).frozen
       have e1 := (Boxed.thru HA2.out hB5).frozen
       have HB5 := hide hB5
       clear w3 w0 b0 b1 x0 x1 hbt3 hb5 hB5
       cases hc3 : betZ 0 3999 (fun i => (P x).D.getD i 0) lD with
       | false =>
         have HC3 := hide hc3
         clear hc3
         gi_wp2
         exact HBD.out X5 _ HB5.out (fun ho => by rw [H4.out ho, HE.out.2.2.2, HC3.out]; simp)
       | true =>
         have HC3 := hide hc3
         clear hc3
         have hbt4 := rise_any pD lD cD (fun i => (P x).D.getD i 0) X5 hDx (by have := HR.out X5 HB5.out; rw [HE.out.2.2.1, HE.out.2.2.2] at this; exact this)
         gi_wp2
         refine ⟨trivial, wide_deep, ((wide_round l').call hbt4).mono ?_⟩
         rintro e X6 ⟨rfl, hb6⟩
         have p0 := cell_thru r0 hb6
         have k0 := cell_thru d0 hb6
         have k1 := cell_thru d1 hb6
         have hB6 := below_thru HB5.out hb6
         have g0 := (Boxed.thru HA.out hB6).frozen
         have g1 := (Boxed.thru HA2.out hB6).frozen
         have HB6 := hide hB6
         clear r3 r0 d0 d1 e0 e1 hbt4 hb6 hB6
         cases hc4 : riseZ (fun i => (P x).D.getD i 0) lD with
         | false =>
           have HC4 := hide hc4
           clear hc4
           gi_wp2
           exact HBD.out X6 _ HB6.out (fun ho => by rw [H4.out ho, HE.out.2.2.2, HC4.out]; simp)
         | true =>
           have HC4 := hide hc4
           clear hc4
           gi_wp2
           have hfin := HGD.out X6 (⟨#[], []⟩ : Act) HB6.out (fun ho => by rw [H4.out ho, ← HLO.out.2, HE.out.1, HE.out.2.1, HE.out.2.2.2, HC1.out, HC2.out, HC3.out, HC4.out]; rfl)
           rw [HE.out.1] at hfin
           exact hfin
  case done =>
   rintro D xs X hD ⟨h1, h3⟩ hKD
   have c0 := h1.cell
   have H3 := hide h3
   clear h1 h3 hseq hI0 hks
   gi_wp2
   rw [Exit.noGoto_ret]
   refine ⟨by simp, .inl ⟨D, _, rfl, run_takeDeferred hKD, ?_⟩⟩
   exact ⟨_, results_tmp rfl _ _ _, by rw [hb1v, ← HOK.out]; rfl, below_thru hb0 (H3.out.trans (belowK_b (w := W0) (Nat.le_refl _) X D _ _ (by have := hB5.size; omega) hKD rfl rfl))⟩
  case stop =>
   rintro D c pre X hD ⟨rfl, h1, h3⟩ hKD
   have c0 := h1.cell
   have H3 := hide h3
   clear h1 h3 hseq hI0 hks
   gi_wp2
   rw [Exit.noGoto_ret]
   refine ⟨by simp, .inl ⟨D, _, rfl, run_takeDeferred hKD, ?_⟩⟩
   exact ⟨_, results_tmp rfl _ _ _, by rw [hb1v, ← HOK.out]; rfl, below_thru hb0 (H3.out.trans (belowK_b (w := W0) (Nat.le_refl _) X D _ _ (by have := hB5.size; omega) hKD rfl rfl))⟩
theorem mright_any (G : Int) (a : Option Addr) (n cap : Nat) (P : Nat → Shd) (w : World) (hn : n ≤ 140737488355328) (hG : (Lit.int .i64 G).wf = true) (hP : Shds w a n P) (hD : ∀ i, i < n → (P i).D.length ≤ 140737488355328) :
  Calls Tryz.prog 15 #[.agg #[.int .i64 G, .slice a n cap]] w fun e w' => e = .returned (.bool (rightM ⟨G, stsN P n⟩)) ∧ Below w.heap.size w w' := callsIn_wide.1 (mright_in 40 (by omega) G a n cap P w hn hG hP hD)
end Go.Proofs.YtppdbinppibjhaaGreatDoor
