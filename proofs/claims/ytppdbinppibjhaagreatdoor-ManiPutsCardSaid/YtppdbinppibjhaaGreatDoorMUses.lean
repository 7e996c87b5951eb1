/-
  mani.Get.
-/
import Derived.Test.YtppdbinppibjhaaGreatDoorMShAll
import Derived.Test.YtppdbinppibjhaaGreatDoorFOwn
import Derived.Test.YtppdbinppibjhaaGreatDoorMBases
import Derived.Test.YtppdbinppibjhaaGreatDoorMPut
set_option maxHeartbeats 2000000
set_option maxRecDepth 100000
set_option linter.unusedVariables false
set_option linter.unusedSimpArgs false
namespace Go.Proofs.YtppdbinppibjhaaGreatDoor
open Go.RowKit Go.Shelf
attribute [local go_sem] Oper.semAt_some
def GotM (w : World) (o : Option MT) (e : Ending) (w' : World) : Prop :=
 match o with
 | none => e = .returned (.tuple #[.agg #[.int .i64 0, .slice none 0 0], .int .i64 9])
 | some m => ∃ v xs, e = .returned (.tuple #[.agg #[.int .i64 m.G, v], .int .i64 0]) ∧ OwnSh w' w.heap.size v xs ∧ xs.map (fun x : MV => x.1) = m.L ∧ ∀ x ∈ xs, okST x.1
theorem get_results (tmps : Array Value) (bm be : Nat) (x y z : Value) (w : World) (h2 : tmps.getD 2 undef = .pointer (some ⟨bm, 0, none⟩)) (h3 : tmps.getD 3 undef = .pointer (some ⟨be, 0, none⟩))
  (hm : w.heap[bm]? = some (.cells #[x, y] 24 (0, 0))) (he : w.heap[be]? = some (.cells #[z] 29 (0, 0))) :
  (results Tryz.f21 tmps).run Tryz.prog w = .ok (.tuple #[.agg #[x, y], z]) w := by
 obtain ⟨c0, c1⟩ := cells2_at hm
 obtain ⟨d0, _⟩ := hcell1 he
 simp only [Array.getD_eq_getD_getElem?] at h2 h3
 simp [results, Tryz.results21, go_sem, h2, h3, c0, c1, d0]
abbrev getD_d (bm be : Nat) : Deferred := { target := .fn (.func 54) #[.pointer (some ⟨bm, 0, none⟩), .pointer (some ⟨be, 0, none⟩)], args := #[] }
theorem bad_end (nn : Nat) (tmps : Array Value) (bm be : Nat) (x y z : Value) (w X : World) (h2 : tmps.getD 2 undef = .pointer (some ⟨bm, 0, none⟩)) (h3 : tmps.getD 3 undef = .pointer (some ⟨be, 0, none⟩)) (hne : bm ≠ be) (hb1 : w.heap.size ≤ bm) (hb2 : w.heap.size ≤ be)
  (hm : X.heap[bm]? = some (.cells #[x, y] 24 (0, 0))) (he : X.heap[be]? = some (.cells #[z] 29 (0, 0))) (hB : Below w.heap.size w X) :
  LeavesInM Fence.wide nn Tryz.prog Tryz.f21 tmps (fun e w' => GotM w none e w' ∧ Below w.heap.size w w') [getD_d bm be] (.panicking [wrongV]) X := by
 refine ⟨(by simp), .inr ⟨wide_deep, .func 54, _, 54, #[.pointer (some ⟨bm, 0, none⟩), .pointer (some ⟨be, 0, none⟩)], rfl, ?_, fun _ _ => trivial, ?_⟩⟩
 ·simp [invoke, go_sem, enters_of Tryz.func54 (by kernel_rfl) rfl]
 ·refine (getD_panic (nn - 1) bm be x y z X hne hm he).mono ?_
  rintro e u' w' ⟨rfl, rfl, h4, h5, h6⟩
  exact ⟨_, get_results tmps bm be _ _ _ w' h2 h3 h4 h5, rfl, hB.trans (h6.below (fun k hk => by rcases hk with rfl | rfl <;> omega) hB.size)⟩
theorem bad_endM (nn D : Nat) (tmps : Array Value) (bm be : Nat) (x y z : Value) (w X : World) (h2 : tmps.getD 2 undef = .pointer (some ⟨bm, 0, none⟩)) (h3 : tmps.getD 3 undef = .pointer (some ⟨be, 0, none⟩)) (hne : bm ≠ be) (hb1 : w.heap.size ≤ bm) (hb2 : w.heap.size ≤ be) (hD : w.heap.size ≤ D)
  (hm : X.heap[bm]? = some (.cells #[x, y] 24 (0, 0))) (he : X.heap[be]? = some (.cells #[z] 29 (0, 0))) (hKD : X.heap[D]? = some (.deferred (some []))) (hB : Below w.heap.size w X) :
  LeavesInM Fence.wide nn Tryz.prog Tryz.f21 tmps (fun e w' => GotM w none e w' ∧ Below w.heap.size w w') [{ target := .collected D, args := #[] }, getD_d bm be] (.panicking [wrongV]) X := by
 have hM : Marks w.heap.size [{ target := .collected D, args := #[] }] X := ⟨⟨D, rfl, hD, hKD, fun _ h => by cases h⟩, trivial⟩
 refine ⟨(by simp), .inl ⟨D, _, rfl, run_takeDeferred hKD, ?_⟩⟩
 have hDm : D ≠ bm := fun e => by subst e; rw [hm] at hKD; cases hKD
 have hDe : D ≠ be := fun e => by subst e; rw [he] at hKD; cases hKD
 refine bad_end nn tmps bm be x y z w _ h2 h3 hne hb1 hb2 ((World.putObj_heap_other hDm.symm).trans hm) ((World.putObj_heap_other hDe.symm).trans he) (hB.trans (belowK_b (w := w) (Nat.le_refl _) X D _ _ (by omega) hKD rfl rfl))
theorem shardsF_in (F : Fence) (n : Nat) (hF : F.fn 59) (hro : F.round = none) (pv : Value) (w : World) :
  CallsIn F n Tryz.prog 59 #[.agg #[pv]] w fun e w' => e = .returned (.func (.func 113) #[] #[.pointer (some ⟨w.heap.size, 0, none⟩)]) ∧ w' = w.alloc (.cells #[pv] 113) := by
 have hmf : ∀ (fn : Fn) (first cap : Array Value) (w : World), (Instr.makeFunc fn first cap).run Tryz.prog w = .ok (.func fn first cap) w := fun _ _ _ _ => rfl
 refine callsIn_of_wp Tryz.func59 rfl hF ?_ hro
 simp only [Tryz.ntmps59, List.size_toArray, List.length_cons, List.length_nil, Nat.reduceAdd, Nat.reduceSub, Array.replicate_succ, Array.replicate_zero, List.push_toArray, List.append_toArray, List.nil_append, List.cons_append]
 gi_wp2
 go_ret
 exact ⟨rfl, rfl⟩
theorem good_endM (nn D : Nat) (tmps : Array Value) (bm be : Nat) (x y z : Value) (X : World) (R : Ending → World → Prop) (h2 : tmps.getD 2 undef = .pointer (some ⟨bm, 0, none⟩)) (h3 : tmps.getD 3 undef = .pointer (some ⟨be, 0, none⟩))
  (hm : X.heap[bm]? = some (.cells #[x, y] 24 (0, 0))) (he : X.heap[be]? = some (.cells #[z] 29 (0, 0))) (hKD : X.heap[D]? = some (.deferred (some []))) (hR : R (.returned (.tuple #[.agg #[x, y], z])) (X.putObj D (.deferred none))) :
  LeavesInM Fence.wide nn Tryz.prog Tryz.f21 tmps R [{ target := .collected D, args := #[] }, getD_d bm be] .returning X := by
 have hDm : D ≠ bm := fun e => by subst e; rw [hm] at hKD; cases hKD
 have hDe : D ≠ be := fun e => by subst e; rw [he] at hKD; cases hKD
 refine ⟨(by simp), .inl ⟨D, _, rfl, run_takeDeferred hKD, ?_⟩⟩
 refine ⟨(by simp), .inr ⟨wide_deep, .func 54, _, 54, #[.pointer (some ⟨bm, 0, none⟩), .pointer (some ⟨be, 0, none⟩)], rfl, ?_, fun _ _ => trivial, ?_⟩⟩
 ·simp [invoke, go_sem, enters_of Tryz.func54 (by kernel_rfl) rfl]
 ·refine (getD_idle (nn - 1) bm be _).mono ?_
  rintro e u' w' ⟨rfl, rfl, rfl⟩
  exact ⟨_, get_results tmps bm be _ _ _ _ h2 h3 ((World.putObj_heap_other hDm.symm).trans hm) ((World.putObj_heap_other hDe.symm).trans he), hR⟩
def finM (g : Nat) : List ST × Option (List Nat) → Option MT
 | (L, some []) => if rightM ⟨(g : Int), L⟩ = true then some ⟨(g : Int), L⟩ else none
 | _ => none
theorem getMP_fin (P : List Nat) : getMP P = finM (getNum maxNum (some P)).1 (shardsG (getNum 40 (getNum maxNum (some P)).2).1 (getNum 40 (getNum maxNum (some P)).2).2) := by
 unfold getMP finM
 rfl
theorem finM_none {g : Nat} {r : List ST × Option (List Nat)} (h : r.2 ≠ some []) : finM g r = none := by
 obtain ⟨L, S⟩ := r
 match S, h with
 | none, _ => rfl
 | some [], h => exact absurd rfl h
 | some (_ :: _), _ => rfl
def MgI (W8 : World) (bm : Nat) (pv : Value) (G : Int) (S : Option (List Nat)) (s : List MV × (Nat → Prop)) (X : World) : Prop :=
 ∃ v, X.heap[bm]? = some (.cells #[.int .i64 G, v] 24 (0, 0)) ∧ (∀ k, s.2 k ↔ k = bm ∨ v.ownBlock = some k) ∧ OwnSh X W8.heap.size v s.1 ∧ (shardsG s.1.length S).1 = s.1.map (fun x : MV => x.1) ∧ Kept (fun k => k = bm ∨ own1 pv k) W8 X
def MgM (W8 : World) (bm : Nat) (pv : Value) (G : Int) (S : Option (List Nat)) (s : List MV × (Nat → Prop)) (x : MV) (X : World) : Prop :=
 ∃ v N, X.heap[bm]? = some (.cells #[.int .i64 G, v] 24 (0, 0)) ∧ (∀ k, s.2 k ↔ k = bm ∨ v.ownBlock = some k) ∧ OwnSh X W8.heap.size v s.1 ∧ (shardsG (s.1.length + 1) S).1 = s.1.map (fun x : MV => x.1) ++ [x.1] ∧ Kept (fun k => k = bm ∨ own1 pv k) W8 X ∧
   W8.heap.size ≤ N ∧ N ≤ X.heap.size ∧ (∀ g, v.ownBlock = some g → g < N) ∧ (∀ y ∈ s.1, ∀ g, y.2.ownBlock = some g → g < N) ∧ X.ownsRow N 3 1 x.2 x.1.D.length (li x.1.D) ∧ s.1.length < 40
def MgE (W8 : World) (bm : Nat) (pv : Value) (F : Nat → Prop) (G : Int) (S : Option (List Nat)) (c : Nat) (xs : List MV) (X : World) : Prop :=
 ∃ v, X.heap[bm]? = some (.cells #[.int .i64 G, v] 24 (0, 0)) ∧ OwnSh X W8.heap.size v xs ∧ (shardsG c S).1 = xs.map (fun x : MV => x.1) ∧ Kept (fun k => k = bm ∨ own1 pv k) W8 X ∧ RP X pv F (shardsG c S).2
theorem MgI.own {W8 : World} {bm : Nat} {pv : Value} {G : Int} {S : Option (List Nat)} : OwnFrom W8.heap.size (MgI W8 bm pv G S) := by
 rintro s X Y row ⟨v, h1, h2, h3, h4, h5⟩ hg hr
 have ck := CellsKept.of_grown hg (fun r e => (hr r e).2)
 exact ⟨v, ck _ _ _ _ h1, h2, h3.cells ck, h4, h5.grown hg (fun r e => .inr (hr r e).1)⟩
theorem MgM.own {W8 : World} {bm : Nat} {pv : Value} {G : Int} {S : Option (List Nat)} {x : MV} : OwnFrom W8.heap.size (fun s => MgM W8 bm pv G S s x) := by
 rintro s X Y row ⟨v, N, h1, h2, h3, h4, h5, h6, h7, h8, h9, h10, h11⟩ hg hr
 have ck := CellsKept.of_grown hg (fun r e => (hr r e).2)
 exact ⟨v, N, ck _ _ _ _ h1, h2, h3.cells ck, h4, h5.grown hg (fun r e => .inr (hr r e).1), h6, Nat.le_trans h7 hg.size, h8, h9, ck.own h10, h11⟩
theorem MgE.own {W8 : World} {bm : Nat} {pv : Value} {F : Nat → Prop} {G : Int} {S : Option (List Nat)} {c : Nat} : OwnFrom W8.heap.size (MgE W8 bm pv F G S c) := by
 rintro s X Y row ⟨v, h1, h3, h4, h5, h6⟩ hg hr
 have ck := CellsKept.of_grown hg (fun r e => (hr r e).2)
 exact ⟨v, ck _ _ _ _ h1, h3.cells ck, h4, h5.grown hg (fun r e => .inr (hr r e).1), h6.cells ck⟩
theorem MgI.mid {W8 : World} {bm c N : Nat} {pv : Value} {G : Int} {S : Option (List Nat)} (hbm : ¬ own1 pv bm) (hpv : ∀ k, own1 pv k → k < W8.heap.size) (hc : c ≤ 40) {pre : List MV} {O : Nat → Prop} {x : MV} {A B : World} (h : MgI W8 bm pv G S (pre, O) A) (hg : GShd pv S c N pre A x B) : MgM W8 bm pv G S (pre, O) x B := by
 obtain ⟨v, h1, h2, h3, h4, h5⟩ := h
 obtain ⟨g1, g2, ⟨M, R, g3, g4⟩, g5⟩ := hg
 have hs := g1.size
 refine ⟨v, A.heap.size, g1.heap h1 hbm, h2, h3.kept g1 (fun k hk => h3.ge (hpv k hk)), ?_, h5.trans g1 (fun _ _ h => .inr h), h5.size, hs, fun g hv => (owns_cells h3.1 g hv).1, fun y hy g hv => (owns_cells (h3.2.1 y hy) g hv).1, g5, by show pre.length < 40; omega⟩
 show (shardsG (pre.length + 1) S).1 = _
 rw [shardsG_snoc _ _ _ g3, g4]
 show (shardsG pre.length S).1 ++ [x.1] = _
 rw [show (shardsG pre.length S).1 = pre.map (fun x : MV => x.1) from h4]
theorem MgI.end {W8 : World} {bm c N : Nat} {pv : Value} {F : Nat → Prop} {G : Int} {S : Option (List Nat)} (hbm : ¬ own1 pv bm) (hpv : ∀ k, own1 pv k → k < W8.heap.size) {xs : List MV} {O : Nat → Prop} {A B : World} (h : MgI W8 bm pv G S (xs, O) A) (hs : SShd pv F S c N xs A B) : MgE W8 bm pv F G S c xs B := by
 obtain ⟨v, h1, h2, h3, h4, h5⟩ := h
 obtain ⟨s1, s2, s3⟩ := hs
 exact ⟨v, s1.heap h1 hbm, h3.kept s1 (fun k hk => h3.ge (hpv k hk)), by rw [← s2]; exact h4, h5.trans s1 (fun _ _ h => .inr h), s3⟩
theorem mget_in (nn : Nat) (hnn : 40 ≤ nn) (A : Option Addr) (C n : Nat) (L : List Nat) (w : World) (hn : n = L.length) (h : SB w A C L) (hsz : n ≤ 1000000) :
  CallsIn Fence.wide nn Tryz.prog 21 #[.slice A n C] w fun e w' => GotM w (getM L) e w' ∧ Below w.heap.size w w' := by
 have hmf : ∀ (fn : Fn) (first cap : Array Value) (w : World), (Instr.makeFunc fn first cap).run Tryz.prog w = .ok (.func fn first cap) w := fun _ _ _ _ => rfl
 subst hn
 obtain ⟨n, hn⟩ : ∃ n, L.length = n := ⟨_, rfl⟩
 rw [hn] at hsz ⊢
 have hlt := h.b.lt
 obtain ⟨W1, hW1⟩ : ∃ W1, w.alloc (.cells #[.int .i64 0, .slice none 0 0] 24) = W1 := ⟨_, rfl⟩
 obtain ⟨W2, hW2⟩ : ∃ W2, W1.alloc (.cells #[.int .i64 0] 29) = W2 := ⟨_, rfl⟩
 have hs1 : W1.heap.size = w.heap.size + 1 := by rw [← hW1]; simp
 have hs2 : W2.heap.size = w.heap.size + 2 := by rw [← hW2]; simp; omega
 have hb1 : Below w.heap.size w W1 := by rw [← hW1]; exact below_alloc _ _
 have hb12 : Below W1.heap.size W1 W2 := by rw [← hW2]; exact below_alloc _ _
 have hb2 := below_thru hb1 hb12
 have gm2 : W2.heap[w.heap.size]? = some (.cells #[.int .i64 0, .slice none 0 0] 24 (0, 0)) := (hb12.block _ (by omega)).trans (by rw [← hW1]; exact heap_alloc_new _ _)
 have ge2 : W2.heap[w.heap.size + 1]? = some (.cells #[.int .i64 0] 29 (0, 0)) := by rw [← hs1, ← hW2]; exact heap_alloc_new _ _
 have hfg := fget_any A C n L W2 hn.symm (h.kept (Kept.of_below (F := fun _ => False) hb2) (fun _ _ _ _ _ h => h)) hsz
 have HW := hide (And.intro hW1 (And.intro hW2 (And.intro hs1 hs2)))
 have HB2 := hide hb2
 have HN := hide hn
 clear hW1 hW2 hb1 hb12 hb2 hs1 hn
 refine callsIn_of_wp_marks Tryz.func21 rfl trivial ?_ rfl
 simp only [Tryz.ntmps21, List.size_toArray, List.length_cons, List.length_nil, Nat.reduceAdd, Nat.reduceSub, Array.replicate_succ, Array.replicate_zero, List.push_toArray, List.append_toArray, List.nil_append, List.cons_append]
 gi_wp2
 rw [HW.out.1, HW.out.2.1]
 refine ⟨trivial, wide_deep, (wide_plain.call hfg).mono ?_⟩
 rintro e w3 ⟨v3, ps, rfl, hO3, hps, hb3⟩
 have gm3 := (hb3.block _ (by omega)).trans gm2
 have ge3 := (hb3.block _ (by omega)).trans ge2
 have d3 := (hcell1 ge3).1
 have f3 := (hcell1 ge3).2
 clear hfg gm2 ge2
 have HB3 := hide (below_thru HB2.out hb3)
 have hs3 := hb3.size
 have hne : w.heap.size ≠ w.heap.size + 1 := by omega
 -- a panic ahead of the loop
 have hbad : ∀ (tmps : Array Value) (X : World), getM L = none → tmps.getD 2 undef = .pointer (some ⟨w.heap.size, 0, none⟩) → tmps.getD 3 undef = .pointer (some ⟨w.heap.size + 1, 0, none⟩) → Below w3.heap.size w3 X → LeavesInM Fence.wide nn Tryz.prog Tryz.f21 tmps (fun e w' => GotM w (getM L) e w' ∧ Below w.heap.size w w') [getD_d w.heap.size (w.heap.size + 1)] (.panicking [wrongV]) X := by
  intro tmps X h1 h2 h3 hX
  rw [h1]
  exact bad_end nn tmps _ _ _ _ _ w X h2 h3 hne (Nat.le_refl _) (by omega) ((hX.block _ (by omega)).trans gm3) ((hX.block _ (by omega)).trans ge3) (below_thru HB3.out hX)
 have hbad1 : ∀ (tmps : Array Value) (v : Value), getM L = none → tmps.getD 2 undef = .pointer (some ⟨w.heap.size, 0, none⟩) → tmps.getD 3 undef = .pointer (some ⟨w.heap.size + 1, 0, none⟩) → LeavesInM Fence.wide nn Tryz.prog Tryz.f21 tmps (fun e w' => GotM w (getM L) e w' ∧ Below w.heap.size w w') [getD_d w.heap.size (w.heap.size + 1)] (.panicking [wrongV]) (w3.setCell ⟨w.heap.size + 1, 0, none⟩ v) := by
  intro tmps v h1 h2 h3
  rw [h1]
  exact bad_end nn tmps _ _ _ _ _ w _ h2 h3 hne (Nat.le_refl _) (by omega) ((Below.heap_setCell _ _ _ _ hne).trans gm3) (blk_set ge3 v) (HB3.out.setCell (p := ⟨w.heap.size + 1, 0, none⟩) (by show w.heap.size ≤ w.heap.size + 1; omega) _)
 have HBD := hide (And.intro hbad hbad1)
 have HGE := hide (And.intro gm3 ge3)
 clear hbad hbad1 gm3 ge3 hb3 hne
 cases hg : getFile L with
 | none =>
   have hM : getM L = none := by unfold getM; rw [hg]
   have HM := hide hM
   have hmu := must_false (w3.setCell ⟨w.heap.size + 1, 0, none⟩ (.int .i64 9))
   rw [show errG none = 9 from rfl]
   clear hO3 hps hg hM hs2
   gi_wp2
   refine ⟨trivial, wide_deep, (wide_plain.call hmu).mono ?_⟩
   rintro e w4 ⟨rfl, rfl⟩
   exact HBD.out.2 _ _ HM.out rfl rfl
 | some l =>
   rw [hg] at hps
   rw [show errG (some l) = 0 from rfl]
   have hps : ps.map (fun x : PV => x.1) = l := hps
   obtain ⟨A3, C3, rfl, hP3, hA3, hC3⟩ := hO3.prts
   by_cases h1 : ps.length = 1
   ·obtain ⟨x, rfl⟩ := List.length_eq_one_iff.1 h1
    have hl : l = [x.1] := by rw [← hps]; rfl
    obtain ⟨b3, o3, rfl, ⟨c0, c1⟩, hOk⟩ := hP3.cells 0 (by simp)
    have hpx : prtAt [x] 0 = prtOf x := rfl
    rw [hpx] at c0 c1 hOk
    rw [show o3 + 0 * 2 = o3 by omega] at c0 c1
    have hge := (hA3 b3 o3 none rfl).1
    have hks : Kept (fun k => k = w.heap.size + 1) w3 (w3.setCell ⟨w.heap.size + 1, 0, none⟩ (.int .i64 0)) := (Kept.refl (fun k => k = w.heap.size + 1) w3).setCell (p := ⟨w.heap.size + 1, 0, none⟩) (.inl rfl) _
    have l0 : (w3.setCell ⟨w.heap.size + 1, 0, none⟩ (.int .i64 0)).cell? ⟨b3, o3, none⟩ = some (.int .u8 (x.1.1 : Nat)) := hks.cell c0 (fun e => by have : b3 = w.heap.size + 1 := e; omega)
    have l1 : (w3.setCell ⟨w.heap.size + 1, 0, none⟩ (.int .i64 0)).cell? ⟨b3, o3 + 1, none⟩ = some (.slice (prtOf x).pB x.1.2.length (prtOf x).cB) := hks.cell c1 (fun e => by have : b3 = w.heap.size + 1 := e; omega)
    by_cases ht : x.1.1 = 1
    ·have hM : getM L = getMP x.1.2 := by unfold getM; rw [hg, hl]; exact if_pos ht
     have hoX := hO3.2.1 x List.mem_cons_self
     obtain ⟨hPl, hPm⟩ : x.1.2.length ≤ 1000000 ∧ ∀ b ∈ x.1.2, b < 256 := by
      obtain ⟨e1, _, _⟩ := getFile_one hlt (by rw [hg, hl])
      have h2 := congrArg List.length e1
      rw [fileB_len, HN.out] at h2
      simp only [sizeB, bodyB, partB, List.length_append, List.length_cons, List.length_nil] at h2
      exact ⟨by omega, hoX.2.2.1⟩
     have hoW := owns_kept hoX.1 hks (fun g hgb e => by have := (owns_cells hoX.1 g hgb).2.1; omega)
     obtain ⟨_, a4, C4, hv4, hl4, hm4, hn4, _, hbl4, _⟩ := owns_bl hoW hPm
     rw [ht] at l0
     have l0 : (w3.setCell ⟨w.heap.size + 1, 0, none⟩ (.int .i64 0)).cell? ⟨b3, o3, none⟩ = some (.int .u8 1) := l0
     simp only [prtOf, hv4, adrOf, capOf] at l1
     obtain ⟨P, hP⟩ : ∃ P, x.1.2 = P := ⟨_, rfl⟩
     rw [hP] at l1 hPl hPm hl4 hbl4
     rw [hP] at hM
     have HM := hide hM
     obtain ⟨lP, hlP⟩ : ∃ lP, P.length = lP := ⟨_, rfl⟩
     rw [hlP] at l1 hPl hl4
     obtain ⟨Wx, hWx⟩ : ∃ Wx, w3.setCell ⟨w.heap.size + 1, 0, none⟩ (.int .i64 0) = Wx := ⟨_, rfl⟩
     rw [hWx] at l0 l1 hbl4 hks
     have hsx := hks.size
     have gmx : Wx.heap[w.heap.size]? = some (.cells #[.int .i64 0, .slice none 0 0] 24 (0, 0)) := hks.heap HGE.out.1 (fun e => by omega)
     have gex : Wx.heap[w.heap.size + 1]? = some (.cells #[.int .i64 0] 29 (0, 0)) := by rw [← hWx]; exact blk_set HGE.out.2 _
     have hBx : Below w.heap.size w Wx := by rw [← hWx]; exact HB3.out.setCell (p := ⟨w.heap.size + 1, 0, none⟩) (by show w.heap.size ≤ w.heap.size + 1; omega) _
     have hmu := must_true Wx
     have hrd := read_any a4 lP C4 P Wx hlP (by omega) hl4 hn4 hbl4
     have HX := hide (And.intro gmx (And.intro gex hBx))
     have HWx := hide hWx
     have HP := hide (And.intro hlP hPm)
     have d3x : w3.cell? ⟨w.heap.size + 1, 0, none⟩ = some (.int .i64 0) := d3
     clear hO3 hps hg hM hP3 hC3 hA3 h1 hl c0 c1 hOk hks ht hpx hoX hoW hv4 hWx gmx gex hBx hbl4 hP hlP hPm
     simp only [List.length_singleton]
     have l0' : (w3.setCell ⟨w.heap.size + 1, 0, none⟩ (.int .i64 0)).cell? ⟨b3, o3, none⟩ = some (.int .u8 1) := by rw [HWx.out]; exact l0
     gi_wp2
     rw [HWx.out]
     refine ⟨trivial, wide_deep, (wide_plain.call hmu).mono ?_⟩
     rintro e w4 ⟨rfl, rfl⟩
     clear hmu l0' l0 d3 d3x f3
     gi_wp2
     refine ⟨trivial, wide_deep, (wide_plain.call hrd).mono ?_⟩
     rintro e w4 ⟨p, rfl, hR4, hb4⟩
     have hown : ∀ k, own1 (Value.pointer (some ⟨p, 0, none⟩)) k → k = p := fun k hk => by unfold own1 at hk; cases hk; rfl
     have hpx : Wx.heap.size ≤ p ∧ p < w4.heap.size := hR4.1
     have hr4 : RP w4 (Value.pointer (some ⟨p, 0, none⟩)) (fun k => Wx.heap.size ≤ k ∧ k < w4.heap.size) (some P) := .inr ⟨p, rfl, hR4⟩
     obtain ⟨w5, hw5⟩ : ∃ w5, w4.alloc (.cells #[Value.pointer (some ⟨p, 0, none⟩)] 113) = w5 := ⟨_, rfl⟩
     have hb5 : Below w4.heap.size w4 w5 := by rw [← hw5]; exact below_alloc _ _
     have hs5 : w5.heap.size = w4.heap.size + 1 := by rw [← hw5]; simp
     have gr5 : w5.heap[w4.heap.size]? = some (.cells #[Value.pointer (some ⟨p, 0, none⟩)] 113 (0, 0)) := by rw [← hw5]; exact heap_alloc_new _ _
     have hr5 : RP w5 (Value.pointer (some ⟨p, 0, none⟩)) (fun k => Wx.heap.size ≤ k ∧ k < w4.heap.size) (some P) := hr4.kept (Kept.of_below (F := fun _ => False) hb5) (fun _ _ h => h)
     have hbx5 : Below Wx.heap.size Wx w5 := below_thru hb4 hb5
     have gm5 := (hbx5.block _ (block_lt HX.out.1)).trans HX.out.1
     have ge5 := (hbx5.block _ (block_lt HX.out.2.1)).trans HX.out.2.1
     have hszP : szO (some P) ≤ 1000000 := by rw [show szO (some P) = P.length from rfl, HP.out.1]; exact hPl
     have hnum := rdNumber_any (Value.pointer (some ⟨p, 0, none⟩)) (fun k => Wx.heap.size ≤ k ∧ k < w4.heap.size) (some P) maxNum w5 hr5 (fun k hk => by omega) (by decide) (by omega)
     have hsx4 := hb4.size
     have HR5 := hide (And.intro hbx5 (And.intro gm5 (And.intro ge5 gr5)))
     have HW5 := hide hw5
     have HPV := hide (And.intro hpx (And.intro hown hszP))
     clear hR4 hr4 hw5 hr5 gm5 ge5 gr5 hb4 hb5 hbx5 hrd l1 hown hszP
     gi_wp2
     rw [HW5.out]
     refine ⟨trivial, wide_deep, (wide_plain.call hnum).mono ?_⟩
     rintro e w6 ⟨rfl, hr6, hk6⟩
     have hnbm : ¬ own1 (Value.pointer (some ⟨p, 0, none⟩)) w.heap.size := fun h => by have := HPV.out.2.1 _ h; have := HPV.out.1.1; omega
     have hnbe : ¬ own1 (Value.pointer (some ⟨p, 0, none⟩)) (w.heap.size + 1) := fun h => by have := HPV.out.2.1 _ h; have := HPV.out.1.1; omega
     have hnbr : ¬ own1 (Value.pointer (some ⟨p, 0, none⟩)) w4.heap.size := fun h => by have := HPV.out.2.1 _ h; have := HPV.out.1.2; omega
     have gm6 := hk6.heap HR5.out.2.1 hnbm
     have ge6 := hk6.heap HR5.out.2.2.1 hnbe
     have gr6 := hk6.heap HR5.out.2.2.2 hnbr
     have c6 := (cells2_at gm6).1
     have f6 := frz gm6 0
     obtain ⟨g, hgd⟩ : ∃ g : Nat, (getNum maxNum (some P)).1 = g := ⟨_, rfl⟩
     rw [hgd]
     obtain ⟨w7, hw7⟩ : ∃ w7, w6.setCell ⟨w.heap.size, 0, none⟩ (.int .i64 (g : Nat)) = w7 := ⟨_, rfl⟩
     have hk67 : Kept (fun k => k = w.heap.size) w6 w7 := by rw [← hw7]; exact (Kept.refl (fun k => k = w.heap.size) w6).setCell (p := ⟨w.heap.size, 0, none⟩) (.inl rfl) _
     have gm7 : w7.heap[w.heap.size]? = some (.cells #[.int .i64 (g : Nat), .slice none 0 0] 24 (0, 0)) := by rw [← hw7]; exact blk_set gm6 _
     have ge7 := hk67.heap ge6 (fun e => by omega)
     have gr7 := hk67.heap gr6 (fun e => by omega)
     have hs67 := hk67.size
     have hs56 := hk6.size
     have hr7 : RP w7 (Value.pointer (some ⟨p, 0, none⟩)) (fun k => Wx.heap.size ≤ k ∧ k < w4.heap.size) (getNum maxNum (some P)).2 := hr6.kept hk67 (fun k hk e => by omega)
     obtain ⟨w8, hw8⟩ : ∃ w8, w7.alloc (.cells #[Value.pointer (some ⟨p, 0, none⟩)] 113) = w8 := ⟨_, rfl⟩
     have hb8 : Below w7.heap.size w7 w8 := by rw [← hw8]; exact below_alloc _ _
     have hs8 : w8.heap.size = w7.heap.size + 1 := by rw [← hw8]; simp
     have gm8 := (hb8.block _ (block_lt gm7)).trans gm7
     have ge8 := (hb8.block _ (block_lt ge7)).trans ge7
     have gr8 := (hb8.block _ (block_lt gr7)).trans gr7
     have cb8 : w8.cell? ⟨w7.heap.size, 0, none⟩ = some (Value.pointer (some ⟨p, 0, none⟩)) := by rw [← hw8]; exact (cell_new_l w7 _ _).1
     have hr8 : RP w8 (Value.pointer (some ⟨p, 0, none⟩)) (fun k => Wx.heap.size ≤ k ∧ k < w4.heap.size) (getNum maxNum (some P)).2 := hr7.kept (Kept.of_below (F := fun _ => False) hb8) (fun _ _ h => h)
     have hB8 : Below w.heap.size w w8 := by
      have h1 := HX.out.2.2.trans (HR5.out.1.mono HX.out.2.2.size)
      have h2 := h1.trans (hk6.below (fun k hk => by have := HPV.out.2.1 _ hk; have := HPV.out.1.1; omega) h1.size)
      have h3 := h2.trans (hk67.below (fun k hk => by omega) h2.size)
      exact below_thru h3 hb8
     obtain ⟨S0, hS0⟩ : ∃ S0, (getNum maxNum (some P)).2 = S0 := ⟨_, rfl⟩
     rw [hS0] at hr8
     have hszS0 : szO S0 ≤ 1000000 := by rw [← hS0]; have := (getNum_lt maxNum (some P)).2; have := HPV.out.2.2; omega
     obtain ⟨c, hc⟩ : ∃ c, (getNum 40 S0).1 = c := ⟨_, rfl⟩
     have hseq := shards_seq (nn - 1) w7.heap.size c (Value.pointer (some ⟨p, 0, none⟩)) (fun k => Wx.heap.size ≤ k ∧ k < w4.heap.size) S0 hszS0 hc w8 cb8 (fun h => by omega) (fun k hk => by omega) hr8
     obtain ⟨S, hS⟩ : ∃ S, (getNum 40 S0).2 = S := ⟨_, rfl⟩
     rw [hS] at hseq
     have hc40 : c ≤ 40 := by
      cases hq : (getNum 40 S0).2 with
      | none => have := getNum_none0 40 S0 hq; omega
      | some M =>
        cases S0 with
        | none => simp [getNum] at hq
        | some L0 =>
          obtain ⟨_, _, _, h2, _⟩ := getNum_some (show getNum 40 (some L0) = (c, some M) by rw [← hc, ← hq])
          omega
     have hbS : ∀ M, S = some M → ∀ b ∈ M, b < 256 := fun M hM => by
      cases S0 with
      | none => rw [← hS] at hM; simp [getNum] at hM
      | some L0 =>
        have hL0 : ∀ b ∈ L0, b < 256 := by
         have h1 := (numIs HP.out.2 (show getNum maxNum (some P) = (g, some L0) by rw [← hgd, ← hS0])).1
         intro b hb
         exact HP.out.2 b (by rw [h1]; exact List.mem_append_right _ hb)
        have h1 := (numIs hL0 (show getNum 40 (some L0) = (c, some M) by rw [← hc, ← hM, ← hS])).1
        intro b hb
        exact hL0 b (by rw [h1]; exact List.mem_append_right _ hb)
     have hMP : getMP P = finM g (shardsG c S) := by rw [getMP_fin, hgd, hS0, hc, hS]
     have hI0 : MgI w8 w.heap.size (Value.pointer (some ⟨p, 0, none⟩)) (g : Int) S ([], fun k => k = w.heap.size) w8 := ⟨.slice none 0 0, gm8, fun k => ⟨fun h => .inl h, fun h => h.elim (fun h => h) (fun h => by cases h)⟩, OwnSh.nil _ _, rfl, Kept.refl _ _⟩
     have hks : ∀ k, k = w.heap.size → ¬ ((Wx.heap.size ≤ k ∧ k < w4.heap.size) ∨ k = w7.heap.size) ∧ k < w8.heap.size := fun k hk => by
      refine ⟨?_, by omega⟩
      rintro (h | h) <;> omega
     have hpv8 : ∀ k, own1 (Value.pointer (some ⟨p, 0, none⟩)) k → k < w8.heap.size := fun k hk => by have := HPV.out.2.1 _ hk; have := HPV.out.1.2; omega
     have lr7 : (w6.setCell ⟨w.heap.size, 0, none⟩ (.int .i64 (g : Nat))).cell? ⟨w4.heap.size, 0, none⟩ = some (Value.pointer (some ⟨p, 0, none⟩)) := by rw [hw7]; exact (hcell1 gr7).1
     have HE8 := hide (And.intro ge8 (And.intro gr8 (And.intro hB8 (And.intro hbS hMP))))
     have HGB : Hid ((g : Int) ≤ maxNum) := by rw [← hgd]; exact (getNum_lt maxNum (some P)).1
     have HW7 := hide (And.intro hw7 hw8)
     clear hnum hr6 hk6 gm6 ge6 gr6 hw7 gm7 ge7 gr7 hr7 hk67 hw8 hb8 gm8 ge8 gr8 cb8 hr8 hB8 hS0 hc hS hgd hbS hMP hszS0
     gi_wp2
     rw [HW7.out.1]
     refine ⟨trivial, wide_deep, (shardsF_in Fence.wide (nn - 1) trivial rfl (Value.pointer (some ⟨p, 0, none⟩)) w7).mono ?_⟩
     rintro e w9 ⟨rfl, rfl⟩
     rw [HW7.out.2]
     clear lr7 c6 f6
     gi_wp2
     refine wpIn_rangeFunc_P rfl (by omega) (gf := 113) (lb := #[.pointer (some ⟨w7.heap.size, 0, none⟩)]) rfl trivial (enters_of Tryz.func113 (by kernel_rfl) rfl)
      hseq (fun _ _ _ _ h => ⟨h.1.size, fun k o hk ho hc => h.1.others k o ho hc⟩) (fun _ _ _ h => ⟨h.1.size, fun k o hk ho hc => h.1.others k o ho hc⟩) (fun _ _ _ h => by rw [show _ = _ from h]; exact KeepsTo.refl _ _) (Below.refl _ _) (fun _ => rfl)
      (MgI w8 w.heap.size (Value.pointer (some ⟨p, 0, none⟩)) (g : Int) S) (fun _ _ _ => False) (MgM w8 w.heap.size (Value.pointer (some ⟨p, 0, none⟩)) (g : Int) S) (MgE w8 w.heap.size (Value.pointer (some ⟨p, 0, none⟩)) (fun k => Wx.heap.size ≤ k ∧ k < w4.heap.size) (g : Int) S c) (fun _ _ _ => False)
      MgI.own (fun _ _ _ _ _ h _ _ => h) MgE.own (fun _ _ _ _ _ h _ _ => h) (fun _ _ _ _ _ hi hg => hi.mid hnbm hpv8 hc40 hg) (fun _ _ _ _ hi hs => hi.end hnbm hpv8 hs) (fun _ _ _ _ h _ => h) (fun k => k = w.heap.size) hks hI0
      (fun s x a' X => (∃ t7 t8 t9 t10 t11 t12 t13 t14 t15 t16 t17 t18 t19 t20 t21 t22 t23 t24 t25 t26 t27 t28 t29 t30 t31 t32 t33 t34 t35 t36 t37 t38 t39 t40 : Value, ∃ q : Nat, a' = { tmps := #[.slice A n C, undef, .pointer (some ⟨w.heap.size, 0, none⟩), .pointer (some ⟨w.heap.size + 1, 0, none⟩), .slice (some ⟨b3, o3, none⟩) 1 C3, .pointer (some ⟨w4.heap.size, 0, none⟩), .pointer (some ⟨q, 0, none⟩), t7, t8, t9, t10, t11, t12, t13, t14, t15, t16, t17, t18, t19, t20, t21, t22, t23, t24, t25, t26, t27, t28, t29, t30, t31, t32, t33, t34, t35, t36, t37, t38, t39, t40, undef, undef, undef, undef, undef, undef, undef, undef, undef, undef, undef, undef, undef, undef, undef, undef, undef, undef, undef, undef, undef], defers := [] } ∧ X.heap[q]? = some (.cells #[.int .i64 x.1.N, .int .i64 x.1.Z, .int .u32 (x.1.S : Nat), x.2] 54 (0, 0))) ∧ MgM w8 w.heap.size (Value.pointer (some ⟨p, 0, none⟩)) (g : Int) S s x X) ?m2 ?assign ?body ?pan ?done (fun _ _ _ _ _ h _ => h.elim)
     case m2 =>
      rintro x a' s X Y row ⟨⟨t7, t8, t9, t10, t11, t12, t13, t14, t15, t16, t17, t18, t19, t20, t21, t22, t23, t24, t25, t26, t27, t28, t29, t30, t31, t32, t33, t34, t35, t36, t37, t38, t39, t40, q, h1, h4⟩, h2⟩ hg hr
      have ck := CellsKept.of_grown hg (fun r e => (hr r e).2)
      exact ⟨⟨t7, t8, t9, t10, t11, t12, t13, t14, t15, t16, t17, t18, t19, t20, t21, t22, t23, t24, t25, t26, t27, t28, t29, t30, t31, t32, t33, t34, t35, t36, t37, t38, t39, t40, q, h1, ck _ _ _ _ h4⟩, MgM.own s X Y row h2 hg hr⟩
     case assign =>
      intro l' pre O x' X K hM hK
      obtain ⟨TA, TC, hx2⟩ : ∃ TA TC, x'.2 = .slice TA x'.1.D.length TC := by
       obtain ⟨v, N, h1, h2, h3, h4, h5, h6, h7, h8, h9, h10, h11⟩ := hM
       exact owns_slice h10
      obtain ⟨⟨xN, xZ, xS, xD⟩, xv⟩ := x'
      simp only at hx2
      subst hx2
      have HK := hide hK
      have HMM := hide hM
      clear hK hseq hM hI0 hks
      simp only [encMV]
      obtain ⟨ld, hld⟩ : ∃ ld, xD.length = ld := ⟨_, rfl⟩
      rw [hld]
      have HLD := hide hld
      clear hld
      gi_wp2
      have hal := below_alloc X (.cells #[.int .i64 xN, .int .i64 xZ, .int .u32 (xS : Nat), .slice TA ld TC] 54)
      refine HK.out _ _ (keepsFrom_below hal) (keptO_below hal _) ⟨⟨_, _, _, _, _, _, _, _, _, _, _, _, _, _, _, _, _, _, _, _, _, _, _, _, _, _, _, _, _, _, _, _, _, _, _, rfl, ?_⟩, MgM.own.alloc _ HMM.out⟩
      rw [HLD.out]
      exact heap_alloc_new _ _
     case body =>
      rintro l' pre O x' a' X ⟨⟨t7, t8, t9, t10, t11, t12, t13, t14, t15, t16, t17, t18, t19, t20, t21, t22, t23, t24, t25, t26, t27, t28, t29, t30, t31, t32, t33, t34, t35, t36, t37, t38, t39, t40, q, rfl, hq⟩, hM⟩
      obtain ⟨i0, hi, hq0, hq1, hq2⟩ := info_parts info_shard
      obtain ⟨v, N, h1, h2, h3, h4, h5, h6, h7, h8, h9, h10, h11⟩ := hM
      obtain ⟨TA, TC, hx2⟩ := owns_slice h10
      obtain ⟨⟨xN, xZ, xS, xD⟩, xv⟩ := x'
      simp only at hx2 hq h10 h4 h2 h3 h9 h11
      subst hx2
      obtain ⟨c0, c1, c2, c3⟩ := cells4_at hq
      obtain ⟨_, d1⟩ := cells2_at h1
      have df1 := frz h1 1
      obtain ⟨VA, VC, rfl⟩ := owns_slice h3.1
      obtain ⟨ld, hld⟩ : ∃ ld, xD.length = ld := ⟨_, rfl⟩
      rw [hld] at hq c3 h10
      obtain ⟨Wa, hWa⟩ : ∃ Wa, X.alloc (.cells #[.int .i64 xN, .int .i64 xZ, .int .u32 (xS : Nat), .slice TA ld TC] 54) = Wa := ⟨_, rfl⟩
      have hKa : Kept (fun _ => False) X Wa := by rw [← hWa]; exact Kept.of_below (below_alloc _ _)
      have hna : Wa.heap[X.heap.size]? = some (.cells #[.int .i64 xN, .int .i64 xZ, .int .u32 (xS : Nat), .slice TA ld TC] 54 (0, 0)) := by rw [← hWa]; exact heap_alloc_new _ _
      have hnews := shard_news Wa X.heap.size _ _ _ _ _ hna
      have howna := owns_keptS h3.1 hKa (fun _ _ h => h)
      have hsa : w8.heap.size ≤ Wa.heap.size := by have := hKa.size; omega
      have hone : ∀ u ∈ [Value.int .i64 xN, Value.int .i64 xZ, Value.int .u32 (xS : Nat), Value.slice TA ld TC], u.oneCell' = true := by
       intro u hu
       simp at hu
       rcases hu with rfl | rfl | rfl | rfl <;> rfl
      have hda : Wa.cell? ⟨w.heap.size, 1, none⟩ = some (.slice VA pre.length VC) := hKa.cell d1 (fun h => h)
      have hdf : Wa.frozen? ⟨w.heap.size, 1, none⟩ = false := hKa.unfrozen d1 (fun h => h) df1
      have HD := hide (And.intro h1 (And.intro h2 (And.intro h3 (And.intro h4 (And.intro h5 h10)))))
      have HNN := hide (And.intro h6 (And.intro h7 (And.intro h8 h9)))
      have HKa := hide hKa
      have HLD := hide hld
      obtain ⟨lp, hlp⟩ : ∃ lp, pre.length = lp := ⟨_, rfl⟩
      rw [hlp] at howna hda d1 h11
      have HLP := hide hlp
      clear h1 h2 h3 h4 h5 h6 h7 h8 h9 h10 hKa hna hseq hq hld hlp hI0 hks
      gi_wp2_with (gi_at_builtin; refine listIn_appendS _ rfl (.tmp 42) (.tmp 44) 22 rfl 54 i0 (.agg #[.int .i64 0, .int .i64 0, .int .u32 0, .slice none 0 0]) 4 48 Tryz.underlying22 hi hq0 hq1 hq2 rfl (by omega) w8.heap.size (.slice VA lp VC) lp (scells pre) rfl howna ⟨X.heap.size, 0, none⟩ 1 1 [.int .i64 xN, .int .i64 xZ, .int .u32 (xS : Nat), .slice TA ld TC] rfl rfl hnews hone (by unfold maxLen; omega) (by omega) hsa ?_; intro A' C' wb hown' hg' ho'; have e0 := (hg'.kept (F := fun k => k ≠ w.heap.size) (fun g hgb e => by subst e; exact owns_tyne howna (HKa.out.heap HD.out.1 (fun h => h)) (by decide) hgb)).cell hda (fun h => h rfl); have ef0 := (hg'.kept (F := fun k => k ≠ w.heap.size) (fun g hgb e => by subst e; exact owns_tyne howna (HKa.out.heap HD.out.1 (fun h => h)) (by decide) hgb)).unfrozen hda (fun h => h rfl) hdf)
      obtain ⟨h1, h2, h3, h4, h5, h10⟩ := HD.out
      obtain ⟨h6, h7, h8, h9⟩ := HNN.out
      have hlp := HLP.out
      subst hlp
      have hld := HLD.out
      subst hld
      have hN0o : ∀ y, (Value.slice VA pre.length VC).ownBlock = some y → y ≠ w.heap.size := fun y hgb e => by subst e; exact owns_tyne h3.1 h1 (by decide) hgb
      have hKb : Kept (fun k => (Value.slice VA pre.length VC).ownBlock = some k ∨ k = w.heap.size) X (wb.setCell ⟨w.heap.size, 1, none⟩ (.slice A' (pre.length + 1) C')) :=
       ((HKa.out.mono (G := fun k => (Value.slice VA pre.length VC).ownBlock = some k ∨ k = w.heap.size) (fun _ _ h => h.elim)).trans (hg'.kept (F := fun k => (Value.slice VA pre.length VC).ownBlock = some k ∨ k = w.heap.size) (fun _ h => .inl h)) (fun _ _ h => h)).setCell (.inl (.inr rfl)) _
      have hob : ∀ y, (Value.slice VA pre.length VC).ownBlock = some y → w8.heap.size ≤ y := fun y hgb => (owns_cells h3.1 y hgb).2.1
      have hbb : wb.heap[w.heap.size]? = some (.cells #[.int .i64 (g : Nat), .slice VA pre.length VC] 24 (0, 0)) := (hg'.kept (F := fun k => k ≠ w.heap.size) (fun y hgb => hN0o y hgb)).heap (HKa.out.heap h1 (fun h => h)) (fun h => h rfl)
      have hKc : Kept (fun k => k = w.heap.size) wb (wb.setCell ⟨w.heap.size, 1, none⟩ (.slice A' (pre.length + 1) C')) := (Kept.refl (fun k => k = w.heap.size) wb).setCell (.inl rfl) _
      have hwX : w.heap.size < X.heap.size := block_lt h1
      refine ⟨⟨hKb.size, fun k o _ ho hc => hKb.others k o ho hc⟩, fun k => k = w.heap.size ∨ (Value.slice A' (pre.length + 1) C').ownBlock = some k, ⟨.slice A' (pre.length + 1) C', blk_set hbb _, fun k => Iff.rfl, ⟨?_, ?_, ?_⟩, ?_, h5.trans hKb (fun k hk hh => ?_)⟩, (KeptO.of_kept hKb).mono (fun k hk => (h2 k).2 hk.symm), fun k hk => ?_⟩
      ·rw [scells_append, List.length_append]
       exact owns_keptS hown' hKc (fun y hgb e => by subst e; exact owns_tyne hown' hbb (by decide) hgb)
      ·intro y hy
       rcases List.mem_append.1 hy with hy | hy
       ·refine owns_kept (h3.2.1 y hy) hKb (fun z hgb hh => ?_)
        rcases hh with hh | hh
        ·exact owns_apart h3.1 (h3.2.1 y hy) (by decide) z hh hgb
        ·subst hh; exact owns_tyne (h3.2.1 y hy) h1 (by decide) hgb
       ·have hy' : y = (⟨xN, xZ, xS, xD⟩, .slice TA xD.length TC) := by simpa using hy
        subst hy'
        refine owns_lower (owns_kept h10 hKb (fun z hgb hh => ?_)) h6
        rcases hh with hh | hh
        ·exact owns_apart h3.1 h10 (by decide) z hh hgb
        ·subst hh; exact owns_tyne h10 h1 (by decide) hgb
      ·refine List.pairwise_append.2 ⟨h3.2.2, List.pairwise_singleton _ _, fun y hy z hz k hgb hgz => ?_⟩
       have hz' : z = (⟨xN, xZ, xS, xD⟩, .slice TA xD.length TC) := by simpa using hz
       subst hz'
       have := h9 y hy k hgb
       have := (owns_cells h10 k hgz).2.1
       omega
      ·rw [List.length_append, List.map_append]
       exact h4
      ·rcases hh with hh | hh
       ·have := hob k hh; omega
       ·exact .inl hh
      ·rcases hk with hk | hk
       ·have hs := hKb.size
        exact ⟨.inl ((h2 k).2 (.inl hk)), by omega⟩
       ·have hlt := (owns_cells hown' k hk).1
        refine ⟨?_, by simpa using hlt⟩
        rcases hg'.foot (F := fun y => (Value.slice VA pre.length VC).ownBlock = some y) (fun _ h => h) k hk with hh | ⟨hh, _⟩
        ·exact .inl ((h2 k).2 (.inr hh))
        ·have hs := HKa.out.size
         exact .inr (by omega)
     case pan =>
      rintro D ch xs O A1 X hD ⟨v, h1, h2, h3, h4, h5⟩ ⟨p1, rfl, p3⟩ hKD _
      have hM : getM L = none := by rw [HM.out, HE8.out.2.2.2.2]; exact finM_none (by rw [p3]; simp)
      have hk8 := h5.trans p1 (fun _ _ h => .inr h)
      have hsz8 := HE8.out.2.2.1.size
      have hfin := fun tmps h2 h3 => bad_endM nn D tmps w.heap.size (w.heap.size + 1) _ _ _ w X h2 h3 (by omega) (Nat.le_refl _) (by omega) (by omega) (p1.heap h1 hnbm) (hk8.heap HE8.out.1 (fun h => h.elim (fun h => by omega) hnbe)) (p1.others D _ hKD rfl) (HE8.out.2.2.1.trans (hk8.below (fun k hk => by rcases hk with rfl | hk; exact Nat.le_refl _; have := HPV.out.2.1 _ hk; have := HPV.out.1.1; omega) hsz8))
      rw [← hM] at hfin
      exact hfin _ rfl rfl
     case done =>
      rintro D xs X hD ⟨v, h1, h3, h4, h5, h6⟩ hKD
      have hsz8 := HE8.out.2.2.1.size
      have gbe := h5.heap HE8.out.1 (fun h => h.elim (fun h => by omega) hnbe)
      have gbr := h5.heap HE8.out.2.1 (fun h => h.elim (fun h => by omega) hnbr)
      have cr := (hcell1 gbr).1
      have hBX : Below w.heap.size w X := HE8.out.2.2.1.trans (h5.below (fun k hk => by rcases hk with rfl | hk; exact Nat.le_refl _; have := HPV.out.2.1 _ hk; have := HPV.out.1.1; omega) hsz8)
      have hok := ok_any (Value.pointer (some ⟨p, 0, none⟩)) (fun k => Wx.heap.size ≤ k ∧ k < w4.heap.size) _ X h6
      have HX8 := hide (And.intro h1 (And.intro h3 (And.intro h4 (And.intro gbe (And.intro hBX hKD)))))
      have hbadE : ∀ tmps : Array Value, getM L = none → tmps.getD 2 undef = .pointer (some ⟨w.heap.size, 0, none⟩) → tmps.getD 3 undef = .pointer (some ⟨w.heap.size + 1, 0, none⟩) → ∀ X2, Below X.heap.size X X2 → LeavesInM Fence.wide nn Tryz.prog Tryz.f21 tmps (fun e w' => GotM w (getM L) e w' ∧ Below w.heap.size w w') [{ target := .collected D, args := #[] }, getD_d w.heap.size (w.heap.size + 1)] (.panicking [wrongV]) X2 := by
       intro tmps hM t2 t3 X2 hX2
       rw [hM]
       exact bad_endM nn D tmps w.heap.size (w.heap.size + 1) _ _ _ w X2 t2 t3 (by omega) (Nat.le_refl _) (by omega) (by omega) ((hX2.block _ (block_lt h1)).trans h1) ((hX2.block _ (block_lt gbe)).trans gbe) ((hX2.block _ (block_lt hKD)).trans hKD) (below_thru hBX hX2)
      have HBE := hide hbadE
      clear hbadE hseq hI0 hks h1 h3 h4 gbe gbr hBX hKD h5
      cases hT : (shardsG c S).2 with
      | none =>
        rw [hT] at hok
        have hM : getM L = none := by rw [HM.out, HE8.out.2.2.2.2]; exact finM_none (by rw [hT]; simp)
        have HMN := hide hM
        have hmu := must_false X
        clear h6 hM hT
        gi_wp2
        refine ⟨trivial, wide_deep, (wide_plain.call hok).mono ?_⟩
        rintro e X1 ⟨rfl, rfl⟩
        clear hok
        gi_wp2
        refine ⟨trivial, ?_⟩
        gi_wp2
        refine ⟨trivial, ?_⟩
        gi_wp2
        refine ⟨trivial, wide_deep, (wide_plain.call hmu).mono ?_⟩
        rintro e X1 ⟨rfl, rfl⟩
        exact HBE.out _ HMN.out rfl rfl _ (Below.refl _ _)
      | some R =>
        rw [hT] at hok h6
        have hlf := left_any (Value.pointer (some ⟨p, 0, none⟩)) (fun k => Wx.heap.size ≤ k ∧ k < w4.heap.size) _ X h6
        have hRl : szO (some R) = R.length := rfl
        rw [hRl] at hlf
        cases R with
        | cons r0 R =>
          have hM : getM L = none := by rw [HM.out, HE8.out.2.2.2.2]; exact finM_none (by rw [hT]; simp)
          have HMN := hide hM
          have hmu := must_false X
          obtain ⟨lr, hlr⟩ : ∃ lr, (r0 :: R).length = lr := ⟨_, rfl⟩
          have hlr0 : ¬ ((lr : Nat) : Int) = 0 := by rw [← hlr]; simp; omega
          have hlrb : (((lr : Nat) : Int) == 0) = false := by rw [beq_eq_false_iff_ne]; exact hlr0
          rw [hlr] at hlf
          clear h6 hM hT hRl hlr
          gi_wp2
          refine ⟨trivial, wide_deep, (wide_plain.call hok).mono ?_⟩
          rintro e X1 ⟨rfl, rfl⟩
          clear hok
          gi_wp2
          refine ⟨trivial, wide_deep, (wide_plain.call hlf).mono ?_⟩
          rintro e X1 ⟨rfl, rfl⟩
          clear hlf
          gi_wp2
          refine ⟨trivial, ?_⟩
          gi_wp2
          refine ⟨trivial, wide_deep, (wide_plain.call hmu).mono ?_⟩
          rintro e X1 ⟨rfl, rfl⟩
          exact HBE.out _ HMN.out rfl rfl _ (Below.refl _ _)
        | nil =>
          have hokx : ∀ y ∈ xs, okST y.1 := by
           cases hSS : S with
           | none => rw [hSS] at hT; rw [shardsG_none] at hT; cases hT
           | some M0 =>
             rw [hSS] at hT
             have h9 := (shardsG_is c M0 [] (shardsG c (some M0)).1 (HE8.out.2.2.2.1 M0 hSS) (Prod.ext rfl hT)).2.2
             intro y hy
             have h10 := HX8.out.2.2.1
             rw [hSS] at h10
             exact h9 y.1 (by rw [h10]; exact List.mem_map.2 ⟨y, hy, rfl⟩)
          obtain ⟨A5, C5, rfl, hSh, hC5, hm5, hn5⟩ := HX8.out.2.1.shds hokx
          have hxl : xs.length ≤ 40 := by
           have h9 := (shardsG_sz c S).2
           have h10 := congrArg List.length HX8.out.2.2.1
           rw [List.length_map] at h10
           omega
          have hrg := mright_any (g : Int) A5 xs.length C5 (shdAt xs) X (by omega) (wf64 (by omega) (by have := HGB.out; unfold maxNum at this; omega)) hSh (fun i hi => by
           rw [shdAt_lt hi]
           have := dead_len (hokx xs[i] (List.getElem_mem hi)).2.2.2.2.2
           show xs[i].1.D.length ≤ _
           omega)
          rw [stsN_shdAt] at hrg
          have hfin : getM L = if rightM ⟨(g : Int), xs.map (fun y : MV => y.1)⟩ = true then some ⟨(g : Int), xs.map (fun y : MV => y.1)⟩ else none := by
           rw [HM.out, HE8.out.2.2.2.2, show shardsG c S = ((shardsG c S).1, (shardsG c S).2) from rfl, hT, HX8.out.2.2.1]
           rfl
          obtain ⟨mm0, mm1⟩ := cells2_at HX8.out.1
          have hlf : Calls Tryz.prog 61 #[(Value.pointer (some ⟨p, 0, none⟩))] X fun e w' => e = .returned (.int .i64 0) ∧ X = w' := hlf
          have HFN := hide (And.intro hfin hokx)
          obtain ⟨lx, hlx⟩ : ∃ lx, xs.length = lx := ⟨_, rfl⟩
          rw [hlx] at hrg mm1
          have HLX := hide hlx
          clear h6 hT hRl hSh hfin hokx hlx hxl
          gi_wp2
          refine ⟨trivial, wide_deep, (wide_plain.call hok).mono ?_⟩
          rintro e X1 ⟨rfl, rfl⟩
          clear hok
          gi_wp2
          refine ⟨trivial, wide_deep, (wide_plain.call hlf).mono ?_⟩
          rintro e X1 ⟨rfl, rfl⟩
          clear hlf
          gi_wp2
          refine ⟨trivial, wide_deep, (wide_plain.call hrg).mono ?_⟩
          rintro e X1 ⟨rfl, hbX1⟩
          clear hrg
          cases hrr : rightM ⟨(g : Int), xs.map (fun y : MV => y.1)⟩ with
          | false =>
            have hM : getM L = none := by rw [HFN.out.1, hrr]; rfl
            have HMN := hide hM
            have hmu := must_false X1
            have HX1 := hide hbX1
            clear hM hrr hbX1 mm0 mm1 cr
            gi_wp2
            refine ⟨trivial, wide_deep, (wide_plain.call hmu).mono ?_⟩
            rintro e X2 ⟨rfl, rfl⟩
            exact HBE.out _ HMN.out rfl rfl _ HX1.out
          | true =>
            have hM : getM L = some ⟨(g : Int), xs.map (fun y : MV => y.1)⟩ := by rw [HFN.out.1, hrr]; rfl
            have HMS := hide hM
            have hmu := must_true X1
            have gm1 := (hbX1.block _ (block_lt HX8.out.1)).trans HX8.out.1
            have ge1 := (hbX1.block _ (block_lt HX8.out.2.2.2.1)).trans HX8.out.2.2.2.1
            rw [HLX.out] at gm1
            obtain ⟨r0, r1⟩ := cells2_at gm1
            have q0 := frz gm1 0
            have q1 := frz gm1 1
            obtain ⟨s0, s1⟩ := hcell1 ge1
            have HX1 := hide (And.intro hbX1 (And.intro gm1 ge1))
            have hnn1 : w.heap.size ≠ w.heap.size + 1 := by omega
            clear hM hrr hbX1 mm0 mm1 cr gm1 ge1
            gi_wp2
            refine ⟨trivial, wide_deep, (wide_plain.call hmu).mono ?_⟩
            rintro e X2 ⟨rfl, rfl⟩
            clear hmu
            gi_wp2
            obtain ⟨hb1, gm1, ge1⟩ := HX1.out
            have gmA := blk_set (i := 1) (blk_set (i := 0) gm1 (.int .i64 (g : Nat))) (.slice A5 lx C5)
            have geA : (((X1.setCell ⟨w.heap.size, 0, none⟩ (.int .i64 (g : Nat))).setCell ⟨w.heap.size, 1, none⟩ (.slice A5 lx C5))).heap[w.heap.size + 1]? = some (.cells #[.int .i64 0] 29 (0, 0)) := by
             rw [Below.heap_setCell _ _ _ _ (fun e => hnn1 e.symm), Below.heap_setCell _ _ _ _ (fun e => hnn1 e.symm)]; exact ge1
            have gmB := (Below.heap_setCell _ ⟨w.heap.size + 1, 0, none⟩ (.int .i64 0) _ hnn1).trans gmA
            have geB := blk_set (i := 0) geA (.int .i64 0)
            have hkF : Kept (fun k => k = w.heap.size ∨ k = w.heap.size + 1) X1 (((X1.setCell ⟨w.heap.size, 0, none⟩ (.int .i64 (g : Nat))).setCell ⟨w.heap.size, 1, none⟩ (.slice A5 lx C5)).setCell ⟨w.heap.size + 1, 0, none⟩ (.int .i64 0)) := (((Kept.refl (fun k => k = w.heap.size ∨ k = w.heap.size + 1) X1).setCell (p := ⟨w.heap.size, 0, none⟩) (.inl (.inl rfl)) _).setCell (p := ⟨w.heap.size, 1, none⟩) (.inl (.inl rfl)) _).setCell (p := ⟨w.heap.size + 1, 0, none⟩) (.inl (.inr rfl)) _
            have hKD1 := (hb1.block _ (block_lt HX8.out.2.2.2.2.2)).trans HX8.out.2.2.2.2.2
            have hKD2 := hkF.others D _ hKD1 rfl
            have hBX1 := below_thru HX8.out.2.2.2.2.1 hb1
            have hBX2 := hBX1.trans (hkF.below (fun k hk => by rcases hk with rfl | rfl <;> omega) hBX1.size)
            have hOw := (HX8.out.2.1.below hb1).kept hkF (fun k hk => HX8.out.2.1.ge (by rcases hk with rfl | rfl <;> omega))
            have hend := fun (tmps : Array Value) (h2 : tmps.getD 2 undef = .pointer (some ⟨w.heap.size, 0, none⟩)) (h3 : tmps.getD 3 undef = .pointer (some ⟨w.heap.size + 1, 0, none⟩)) => good_endM nn D tmps w.heap.size (w.heap.size + 1) _ _ _ _ (fun e w' => GotM w (getM L) e w' ∧ Below w.heap.size w w') h2 h3 gmB geB hKD2 (by
             rw [HMS.out]
             refine ⟨⟨.slice A5 lx C5, xs, rfl, ?_, rfl, HFN.out.2⟩, hBX2.trans (belowK_b (w := w) (Nat.le_refl _) _ D _ _ (by omega) hKD2 rfl rfl)⟩
             have h8 : w.heap.size ≤ w8.heap.size := by omega
             rw [HLX.out] at hOw
             exact (hOw.cells (fun k c t f hk => (World.putObj_heap_other (fun e => by subst e; rw [hKD2] at hk; cases hk)).trans hk)).lower h8)
            exact hend _ rfl rfl
    ·have hM : getM L = none := by unfold getM; rw [hg, hl]; exact if_neg ht
     have HM := hide hM
     have hmu := must_false (w3.setCell ⟨w.heap.size + 1, 0, none⟩ (.int .i64 0))
     obtain ⟨tg, htg⟩ : ∃ tg : Nat, x.1.1 = tg := ⟨_, rfl⟩
     rw [htg] at ht l0
     have ht' : ¬ ((tg : Nat) : Int) = 1 := by omega
     have hbq : (((tg : Nat) : Int) == 1) = false := by rw [beq_eq_false_iff_ne]; omega
     clear hO3 hps hg hM hs2 hP3 hC3 h1 hl c0 c1 l1 hOk hks hA3 htg ht hpx
     simp only [List.length_singleton]
     gi_wp2
     refine ⟨trivial, wide_deep, (wide_plain.call hmu).mono ?_⟩
     rintro e w4 ⟨rfl, rfl⟩
     exact HBD.out.2 _ _ HM.out rfl rfl
   ·have hM : getM L = none := by
     unfold getM
     rw [hg]
     match l, hps with
     | [], _ => rfl
     | [p], hps => exact absurd (by simpa using congrArg List.length hps) h1
     | _ :: _ :: _, _ => rfl
    have HM := hide hM
    have hmu := must_false (w3.setCell ⟨w.heap.size + 1, 0, none⟩ (.int .i64 0))
    have h1' : ¬ ((ps.length : Nat) : Int) = 1 := by omega
    obtain ⟨np, hnp⟩ : ∃ np : Nat, ps.length = np := ⟨_, rfl⟩
    rw [hnp] at h1' ⊢
    clear hO3 hps hg hM hs2 hP3 hC3 hA3 hnp h1
    gi_wp2
    refine ⟨trivial, wide_deep, (wide_plain.call hmu).mono ?_⟩
    rintro e w4 ⟨rfl, rfl⟩
    exact HBD.out.2 _ _ HM.out rfl rfl
theorem mget_any (A : Option Addr) (C n : Nat) (L : List Nat) (w : World) (hn : n = L.length) (h : SB w A C L) (hsz : n ≤ 1000000) :
  Calls Tryz.prog 21 #[.slice A n C] w fun e w' => GotM w (getM L) e w' ∧ Below w.heap.size w w' := callsIn_wide.1 (mget_in 40 (by omega) A C n L w hn h hsz)
end Go.Proofs.YtppdbinppibjhaaGreatDoor
/-
  What callers of Put and Get make of what these tell.
-/
namespace Go.Proofs.YtppdbinppibjhaaGreatDoor
open Go.RowKit Go.Shelf
theorem fileM_ok {m : MT} (h : rightM m = true) (hS : ∀ s ∈ m.L, s.S < 4294967296) : (fileM m).length ≤ 1000000 ∧ ∀ b ∈ fileM m, b < 256 := by
 have hp := partM_len h hS
 refine ⟨?_, fileB_lt (fun p hp' => ?_)⟩
 ·unfold fileM
  rw [fileB_len]
  simp only [sizeB, bodyB, List.length_append, List.length_nil, partB, headP, List.length_cons]
  have := encN_len6 (n := (partM m).length) (by unfold maxNum; omega)
  omega
 ·rw [List.mem_singleton.1 hp']
  exact ⟨show (1 : Nat) < 256 by omega, partM_lt m, by show (partM m).length ≤ _; unfold maxNum; omega⟩
theorem stsN_eq {P Q : Nat → Shd} {n : Nat} (h : stsN P n = stsN Q n) (i : Nat) (hi : i < n) : (P i).st = (Q i).st := by
 have := congrArg (fun l => l[i]?) h
 simpa [stsN, List.getElem?_map, List.getElem?_range hi] using this
theorem GotM.some' {w w' : World} {m : MT} {e : Ending} (h : GotM w (some m) e w') : ∃ A C Q, e = .returned (.tuple #[.agg #[.int .i64 m.G, .slice A m.L.length C], .int .i64 0]) ∧ Shds w' A m.L.length Q ∧ stsN Q m.L.length = m.L ∧
  m.L.length ≤ C ∧ C ≤ 9223372036854775807 ∧ (A = none → C = 0) ∧ ∀ i, i < m.L.length → (Q i).D.length ≤ 4000 := by
 obtain ⟨v, xs, rfl, ho, hx, hok⟩ := h
 obtain ⟨A, C, rfl, hs, h1, h2, h3⟩ := ho.shds hok
 have hl : m.L.length = xs.length := by rw [← hx, List.length_map]
 rw [hl]
 refine ⟨A, C, shdAt xs, rfl, hs, by rw [stsN_shdAt, hx], h1, h2, h3, fun i hi => ?_⟩
 rw [shdAt_lt hi]
 exact dead_len (hok _ (List.getElem_mem hi)).2.2.2.2.2
end Go.Proofs.YtppdbinppibjhaaGreatDoor
