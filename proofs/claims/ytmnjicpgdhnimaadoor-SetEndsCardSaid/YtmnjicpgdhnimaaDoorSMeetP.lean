/-
  set.Meet.
-/
import Derived.Test.YtmnjicpgdhnimaaDoorSPutR
import Derived.Test.YtmnjicpgdhnimaaDoorSMeet
import Derived.Test.YtmnjicpgdhnimaaDoorSHas
namespace Go.Proofs.YtmnjicpgdhnimaaDoor
open Go.RowKit Go.Shelf

attribute [local go_sem] Oper.semAt_some

/-- The bytes of L that T has. -/
def mm (L : List Nat) (T : Nat → Bool) (b : Nat) : Bool := decide (b ∈ L) && T b
theorem mm_nil (T : Nat → Bool) (b : Nat) : mm [] T b = nobs b := by simp [mm, nobs]
theorem mm_yes {L : List Nat} {T : Nat → Bool} {x : Nat} (h : T x = true) (b : Nat) : plus (mm L T) x b = mm (L ++ [x]) T b := by
  unfold plus mm
  by_cases e : b = x
  · subst e; simp [h]
  · simp [e]
theorem mm_no {L : List Nat} {T : Nat → Bool} {x : Nat} (h : T x = false) (b : Nat) : mm L T b = mm (L ++ [x]) T b := by
  unfold mm
  by_cases e : b = x
  · subst e; simp [h]
  · simp [e]
theorem mem_bl {H : Nat → Bool} {k b : Nat} : b ∈ bl H k ↔ b < k ∧ H b = true := by
  induction k with
  | zero => simp [bl]
  | succ k ih =>
    cases hk : H k with
    | true =>
      rw [bl_yes hk, List.mem_append, ih]
      simp only [List.mem_singleton]
      constructor
      · rintro (⟨h1, h2⟩ | rfl)
        · exact ⟨by omega, h2⟩
        · exact ⟨by omega, hk⟩
      · rintro ⟨h1, h2⟩
        rcases Nat.lt_or_ge b k with h | h
        · exact .inl ⟨h, h2⟩
        · exact .inr (by omega)
    | false =>
      rw [bl_no hk, ih]
      constructor
      · rintro ⟨h1, h2⟩; exact ⟨by omega, h2⟩
      · rintro ⟨h1, h2⟩
        refine ⟨?_, h2⟩
        rcases Nat.lt_or_ge b k with h | h
        · exact h
        · obtain rfl : b = k := by omega
          rw [hk] at h2; cases h2
theorem mm_all (H T : Nat → Bool) (b : Nat) (hb : b < 256) : mm (bl H 256) T b = (H b && T b) := by
  unfold mm
  cases h : H b with
  | true => rw [show decide (b ∈ bl H 256) = true by rw [decide_eq_true_eq]; exact mem_bl.2 ⟨hb, h⟩]
  | false => rw [show decide (b ∈ bl H 256) = false by rw [decide_eq_false_iff_not]; intro hm; rw [(mem_bl.1 hm).2] at h; cases h]

theorem allS_stop {S : Nat → Nat → Bool} {m x : Nat} (h : S m x = false) : ∀ n, m < n → allS S n x = false
  | n + 1, hn => by
    unfold allS
    rcases Nat.lt_or_ge m n with h1 | h1
    · rw [allS_stop h n h1]; rfl
    · obtain rfl : m = n := by omega
      rw [h, Bool.and_false]
theorem below_keepsFrom {B : Nat} {X Y : World} (h : Below X.heap.size X Y) : KeepsFrom B X Y := ⟨h.size, fun k _ _ hk _ => (h.block k (block_lt hk)).trans hk⟩
theorem below_keptO {O : Nat → Prop} {X Y : World} (h : Below X.heap.size X Y) : KeptO O X Y := ⟨h.size, fun k _ _ _ _ hk => (h.block k (block_lt hk)).trans hk⟩
theorem four_kept (W : World) (g : Nat) (v0 v1 v2 v3 : Value) : Kept (fun k => k = g) W ((((W.setCell ⟨g, 0, none⟩ v0).setCell ⟨g, 1, none⟩ v1).setCell ⟨g, 2, none⟩ v2).setCell ⟨g, 3, none⟩ v3) :=
  ((((Kept.refl (fun k => k = g) W).setCell (p := ⟨g, 0, none⟩) (.inl rfl) v0).setCell (p := ⟨g, 1, none⟩) (.inl rfl) v1).setCell (p := ⟨g, 2, none⟩) (.inl rfl) v2).setCell (p := ⟨g, 3, none⟩) (.inl rfl) v3
/-- Between two rounds: the set that is gathered, the variables. -/
def MtI (w0 : World) (n0 : Nat) (v0 : Value) (T : Nat → Bool) (s : List Nat × (Nat → Prop)) (X : World) : Prop :=
  SBox X (n0 + 2) (mm s.1 T) ∧ SBox X (n0 + 1) nobs ∧ X.heap[n0]? = some (.cells #[v0] 31 (0, 0)) ∧ (∀ k, s.2 k ↔ k = n0 + 2) ∧ Below w0.heap.size w0 X
theorem SBox.still {N : Nat} {X Y : World} {g : Nat} {H : Nat → Bool} (h : SBox X g H) (hs : Still N X Y) : SBox Y g H := hs.cells _ _ _ _ h
theorem MtI.own {w0 : World} {n0 N : Nat} {v0 : Value} {T : Nat → Bool} (hN : w0.heap.size ≤ N) : OwnFrom N (MtI w0 n0 v0 T) := fun _ X _ _ ⟨h1, h2, h3, h4, h5⟩ hg hr => by
  have hs := (Still.refl N X).grown hg hr
  exact ⟨h1.still hs, h2.still hs, hs.cells _ _ _ _ h3, h4, h5.trans (hs.below hN h5.size)⟩
theorem MtI.kept {w0 : World} {n0 N : Nat} {v0 : Value} {T : Nat → Bool} {s : List Nat × (Nat → Prop)} {X Y : World} (h : MtI w0 n0 v0 T s X) (hs : KeptS N X Y) (hN : w0.heap.size ≤ N) (hn : n0 + 2 < N) : MtI w0 n0 v0 T s Y := by
  obtain ⟨h1, h2, h3, h4, h5⟩ := h
  exact ⟨hs.same _ _ h1 (.inl (by omega)), hs.same _ _ h2 (.inl (by omega)), hs.same _ _ h3 (.inl (by omega)), h4, h5.trans (hs.below hN h5.size)⟩

/-- What a round leaves that puts x into the set. -/
theorem MtI.put {w0 X Y : World} {n0 x B : Nat} {v0 : Value} {T G : Nat → Bool} {pre : List Nat} {O : Nat → Prop} (h : MtI w0 n0 v0 T (pre, O) X) (hb : Below X.heap.size X Y) (hG : ∀ b, b < 256 → G b = mm (pre ++ [x]) T b) (hn : w0.heap.size ≤ n0) :
    ownPostO B (MtI w0 n0 v0 T) (fun _ _ _ => False) (pre ++ [x]) O X .normal { tmps := #[], defers := [] } ((((Y.setCell ⟨n0 + 2, 0, none⟩ (.int .u64 (wd G 0 : Nat))).setCell ⟨n0 + 2, 1, none⟩ (.int .u64 (wd G 1 : Nat))).setCell ⟨n0 + 2, 2, none⟩ (.int .u64 (wd G 2 : Nat))).setCell ⟨n0 + 2, 3, none⟩ (.int .u64 (wd G 3 : Nat))) := by
  obtain ⟨hO, hR, hA, hOO, hB⟩ := h
  have hk := four_kept Y (n0 + 2) (.int .u64 (wd G 0 : Nat)) (.int .u64 (wd G 1 : Nat)) (.int .u64 (wd G 2 : Nat)) (.int .u64 (wd G 3 : Nat))
  refine ⟨(below_keepsFrom hb).trans (hk.keepsOthers.from _), O, ⟨((hO.below hb hO.lt).four G).congr _ hG, ?_, ?_, hOO, ?_⟩, (below_keptO hb).trans ((KeptO.of_kept hk).mono fun k h => (hOO k).2 h), fun k h => ⟨.inl h, ?_⟩⟩
  · exact hk.heap (hR.below hb hR.lt) (by omega)
  · exact hk.heap ((hb.block _ (block_lt hA)).trans hA) (by omega)
  · exact (hB.trans (hb.mono hB.size)).trans (hk.below (fun k h => by omega) (by have := hb.size; have := hB.size; omega))
  · have := (hOO k).1 h
    have := hO.lt
    have := hb.size
    have := hk.size
    simp only at *
    omega
theorem MtI.skip {w0 X Y : World} {n0 x B : Nat} {v0 : Value} {T : Nat → Bool} {pre : List Nat} {O : Nat → Prop} (h : MtI w0 n0 v0 T (pre, O) X) (hb : Below X.heap.size X Y) (hT : T x = false) :
    ownPostO B (MtI w0 n0 v0 T) (fun _ _ _ => False) (pre ++ [x]) O X .normal { tmps := #[], defers := [] } Y := by
  obtain ⟨hO, hR, hA, hOO, hB⟩ := h
  refine ⟨below_keepsFrom hb, O, ⟨(hO.below hb hO.lt).congr _ fun b _ => mm_no hT b, hR.below hb hR.lt, (hb.block _ (block_lt hA)).trans hA, hOO, hB.trans (hb.mono hB.size)⟩, below_keptO hb, fun k h => ⟨.inl h, ?_⟩⟩
  have := (hOO k).1 h
  have := hO.lt
  have := hb.size
  simp only at *
  omega
set_option maxRecDepth 100000 in
set_option maxHeartbeats 4000000 in
theorem meet_in (nn : Nat) (hnn : 20 ≤ nn) (a : Option Addr) (len cap : Nat) (S : Nat → Nat → Bool) (w : World) (hl : len ≤ 140737488355328) (hS : Sets w a len S) (hT : Tab w) :
    CallsIn Fence.wide nn Tryd.prog 19 #[.slice a len cap] w fun e w' => e = .returned (sv (allS S len)) ∧ Below w.heap.size w w' := by
  have hw0 : 0 < w.heap.size := by have := block_lt_of_cell (hT 0 (by decide)); simpa using this
  obtain ⟨W1, hW1⟩ : ∃ W1, ((w.alloc (.cells #[.slice a len cap] 31)).alloc (.cells (st nobs) 24)).alloc (.cells (st nobs) 24) = W1 := ⟨_, rfl⟩
  have hs1 : W1.heap.size = w.heap.size + 3 := by rw [← hW1]; simp
  have hB1 : Below w.heap.size w W1 := by rw [← hW1]; exact ((((Below.refl _ _).alloc (Nat.le_refl _) _).alloc (by simp) _).alloc (by simp; omega) _)
  have hba : W1.heap[w.heap.size]? = some (.cells #[.slice a len cap] 31 (0, 0)) := by
    rw [← hW1]; exact (Below.heap_alloc _ _ _ (by simp; omega)).trans ((Below.heap_alloc _ _ _ (by simp)).trans (heap_alloc_new _ _))
  have hbr : SBox W1 (w.heap.size + 1) nobs := by rw [← hW1]; exact (SBox.new _ _ _ (by simp)).alloc _
  have hbo : SBox W1 (w.heap.size + 2) nobs := by rw [← hW1]; exact SBox.new _ _ _ (by simp)
  have HW1 := hide hW1
  have HS := hide (And.intro hs1 hB1)
  have HI := hide (And.intro hba (And.intro hbr hbo))
  have hzero := zeroSet
  clear hs1 hba hbr hbo hW1 hB1
  refine callsIn_of_wp_marks Tryd.func19 rfl trivial ?_ rfl
  simp only [Tryd.ntmps19, List.size_toArray, List.length_cons, List.length_nil, Nat.reduceAdd, Nat.reduceSub, Array.replicate_succ, Array.replicate_zero, List.push_toArray, List.append_toArray, List.nil_append, List.cons_append]
  gi_wp2
  apply wpIn_scope
  gi_wp2
  apply wpIn_label
  gi_wp2
  rw [HW1.out]
  refine ⟨trivial, wide_deep, (callsIn_wide.2 (not_any nobs W1)).mono ?_⟩
  rintro e W2 ⟨rfl, hb2⟩
  obtain ⟨H, hH⟩ : ∃ H : Nat → Bool, (fun b => !nobs b) = H := ⟨_, rfl⟩
  have HH := hide (show ∀ b, H b = true by intro b; rw [← hH]; rfl)
  rw [hH]
  have HB2 := hide hb2
  clear hH hb2 hzero
  gi_wp2
  refine ⟨trivial, wide_deep, (bytesOf_in Fence.wide (nn - 1) trivial rfl H _).mono ?_⟩
  rintro e W3 ⟨rfl, rfl⟩
  obtain ⟨W3, hW3⟩ : ∃ W3, W2.alloc (.cells (st H) 24) = W3 := ⟨_, rfl⟩
  rw [hW3]
  gi_wp2
  have hs3 : W3.heap.size = W2.heap.size + 1 := by rw [← hW3]; simp
  have hB3 : Below W2.heap.size W2 W3 := by rw [← hW3]; exact below_alloc _ _
  have hB13 : Below W1.heap.size W1 W3 := below_thru HB2.out hB3
  have hBw : Below w.heap.size w W3 := HS.out.2.trans (hB13.mono (by have := HS.out.1; omega))
  have hsz : w.heap.size + 3 ≤ W2.heap.size := by have := HB2.out.size; have := HS.out.1; omega
  have hseq := bytes_seq (nn - 1) W2.heap.size H W3 (by rw [← hW3]; exact SBox.new _ _ _ rfl) (hT.below hBw)
  have hI0 : MtI w w.heap.size (.slice a len cap) (allS S len) ([], fun k => k = w.heap.size + 2) W3 :=
    ⟨(HI.out.2.2.below hB13 HI.out.2.2.lt).congr _ fun b _ => (mm_nil _ b).symm, HI.out.2.1.below hB13 HI.out.2.1.lt, (hB13.block _ (block_lt HI.out.1)).trans HI.out.1, fun k => Iff.rfl, hBw⟩
  have hks : ∀ k, k = w.heap.size + 2 → ¬ ksB W2.heap.size k ∧ k < W3.heap.size := fun k hk => ⟨fun h => by rcases h with h | h <;> omega, by omega⟩
  have HSZ := hide (And.intro hsz hs3)
  have HBW := hide hBw
  clear hs3 hB3 hB13 hsz hW3
  refine wpIn_rangeFunc_N rfl (by omega) (gf := 43) (lb := #[.pointer (some ⟨W2.heap.size, 0, none⟩)]) rfl trivial (enters_of Tryd.func43 (by kernel_rfl) rfl)
    hseq (fun pre x A B h => h.1.to) (fun xs A B h => h.1.to) (fun xs A B h => h.1.to) (Below.refl _ _) (fun _ => rfl)
    (MtI w w.heap.size (.slice a len cap) (allS S len)) (fun _ _ _ => False) (fun s x X => MtI w w.heap.size (.slice a len cap) (allS S len) s X ∧ x < 256) (fun xs X => (∃ O, MtI w w.heap.size (.slice a len cap) (allS S len) (xs, O) X) ∧ xs = bl H 256) (fun _ _ _ => False)
    (MtI.own hBw.size) (fun _ _ _ _ _ h _ _ => h) ?ee (fun _ _ _ _ _ h _ _ => h) (fun pre O x A B h g => ⟨h.kept g.1 (by have := HBW.out.size; omega) (by have := HSZ.out; omega), g.2.2.2⟩) (fun xs O A B h g => ⟨⟨O, h.kept g.1 (by have := HBW.out.size; omega) (by have := HSZ.out; omega)⟩, g.2⟩) (fun _ _ _ _ h _ => h)
    (fun k => k = w.heap.size + 2) hks hI0
    (fun s x a' X => a' = { tmps := #[.slice a len cap, .pointer (some ⟨w.heap.size, 0, none⟩), .pointer (some ⟨w.heap.size + 1, 0, none⟩), .pointer (some ⟨w.heap.size + 1 + 1, 0, none⟩), .int .u8 (x : Nat), undef, undef, .agg (st nobs), sv H, .func (.func 43) #[] #[.pointer (some ⟨W2.heap.size, 0, none⟩)], .int .u8 (x : Nat), undef, undef, undef, undef, undef, undef, undef, undef, undef, undef, undef, undef, undef, undef, undef, undef, undef, undef], defers := [] } ∧ MtI w w.heap.size (.slice a len cap) (allS S len) s X ∧ x < 256)
    ?m2 ?assign ?body ?done (fun _ _ _ _ _ h _ => h.elim)
  case ee =>
    rintro xs X Y row ⟨⟨O, h1⟩, h2⟩ hg hr
    exact ⟨⟨O, MtI.own hBw.size _ X Y row h1 hg hr⟩, h2⟩
  case m2 =>
    rintro x a' s X Y row ⟨h1, h2, h3⟩ hg hr
    exact ⟨h1, MtI.own hBw.size _ X Y row h2 hg hr, h3⟩
  case assign =>
    intro l' pre O x X K hM2 hK
    have HK := hide (hK _ X ((KeepsFrom.refl _ _)) (KeptO.refl _ _) ⟨rfl, hM2⟩)
    clear hK hM2 hI0 hseq
    simp only [encB]
    gi_wp2
    exact HK.out
  case body =>
    rintro l' pre O x a' X ⟨rfl, ⟨hO, hR, hA, hOO, hB⟩, hx⟩
    have hcA := cell_of_row _ w.heap.size 0 _ _ _ hA
    simp only [List.getElem?_toArray, List.getElem?_cons_zero] at hcA
    have hSX := hide (hS.below hB)
    have HX := hide (And.intro hO (And.intro hR (And.intro hA (And.intro hOO hB))))
    have hbx := hB.size
    have hLO := hide hO.lt
    clear hI0 hseq hO hR hA hOO hB hks hBw hS hT
    gi_wp2
    gi_loopg [13] len (fun q s13 wr => ∃ m : Nat, m + q = len ∧ s13 = .int .i64 m ∧ allS S m x = true ∧ Below X.heap.size X wr)
    case atStart => exact ⟨0, by omega, rfl, rfl, Below.refl _ _⟩
    case round =>
      obtain ⟨m, hm, rfl, hall, hBX⟩ := hrel
      have HALL := hide hall
      have HBX := hide hBX
      cases gk with
      | succ g =>
        have hlm : (m : Int) < (len : Int) := by omega
        have hm0 : (0 : Int) ≤ (m : Int) := by omega
        obtain h0 | ⟨b, off, rfl, hcz⟩ := hSX.out.below hBX
        · omega
        have c0 := hcz m (by omega) 0 (by omega)
        have c1 := hcz m (by omega) 1 (by omega)
        have c2 := hcz m (by omega) 2 (by omega)
        have c3 := hcz m (by omega) 3 (by omega)
        simp only [Nat.add_zero] at c0
        clear hcz hBX hall
        gi_wp2
        refine ⟨trivial, wide_deep, (CallsIn.inRound l' (callsIn_wide.2 (has_any (S m) x _ hx))).mono ?_⟩
        rintro e w1 ⟨rfl, hb1⟩
        have HB1 := hide (HBX.out.trans ((below_alloc wr _).trans (hb1.mono (by simp)) |>.mono HBX.out.size))
        clear hb1 c0 c1 c2 c3
        cases hh : S m x with
        | true =>
          have HN := hide (show allS S (m + 1) x = true by simp [allS, HALL.out, hh])
          clear hh
          gi_wp2
          gi_roundg g
          case measure => omega
          case rel => exact ⟨m + 1, by omega, by go_num, HN.out, HB1.out⟩
        | false =>
          have HN := hide (allS_stop hh len (by omega))
          clear hh
          gi_wp2
          exact MtI.skip HX.out HB1.out HN.out
      | zero =>
        obtain rfl : m = len := by omega
        clear hall hBX
        have hO2 := hide (HX.out.1.below HBX.out HX.out.1.lt)
        have hcl : Hid (wr.heap.size = wr.heap.size) := rfl
        gi_wp2
        refine sputM l' x (w.heap.size + 1 + 1) (mm pre (allS S m)) _ _ _ _ rfl rfl rfl hO2.out hx ?_
        intro vs w4 hB4 h26
        obtain ⟨g4, h26, hs4⟩ := h26
        simp only [List.foldl_cons, List.foldl_nil, List.setIfInBounds_toArray, List.set_cons_succ, List.set_cons_zero]
        rw [h26]
        have hB5 := hide (HBX.out.trans (hB4.mono HBX.out.size))
        clear hB4 h26
        generalize vs 22 = y22
        generalize vs 23 = y23
        generalize vs 24 = y24
        generalize vs 25 = y25
        refine wpOpIn_plain (o := sputM_ops[5]) rfl rfl (oper_inK (fun _ => trivial) (fun K hK => ?_))
        rw [Oper.semAt_plain (Fence.wide.inRound l') _ _ (by intro c h; cases h)]
        simp only [sputM_ops]
        go_simp
        refine ⟨wide_deep, (CallsIn.inRound l' (callsIn_wide.2 (union_any _ 2 2 _ _ (by omega) hs4))).mono ?_⟩
        rintro e w5 ⟨rfl, hb5⟩
        refine hK _ _ ?_
        clear hK K
        have HB6 := hide (hB5.out.trans (hb5.mono hB5.out.size))
        have hS5 := HX.out.1.below HB6.out HX.out.1.lt
        have f0 : w5.frozen? ⟨w.heap.size + 1 + 1, 0, none⟩ = false := hS5.frozen 0
        have f1 : w5.frozen? ⟨w.heap.size + 1 + 1, 1, none⟩ = false := hS5.frozen 1
        have f2 : w5.frozen? ⟨w.heap.size + 1 + 1, 2, none⟩ = false := hS5.frozen 2
        have f3 : w5.frozen? ⟨w.heap.size + 1 + 1, 3, none⟩ = false := hS5.frozen 3
        have d0 : w5.cell? ⟨w.heap.size + 1 + 1, 0, none⟩ = _ := hS5.cell 0 (by omega)
        have d1 : w5.cell? ⟨w.heap.size + 1 + 1, 1, none⟩ = _ := hS5.cell 1 (by omega)
        have d2 : w5.cell? ⟨w.heap.size + 1 + 1, 2, none⟩ = _ := hS5.cell 2 (by omega)
        have d3 : w5.cell? ⟨w.heap.size + 1 + 1, 3, none⟩ = _ := hS5.cell 3 (by omega)
        clear hb5 hS5
        refine wpOpIn_plain (o := sputM_ops[6]) rfl rfl (oper_inK (fun _ => trivial) (fun K hK => ?_))
        rw [Oper.semAt_plain (Fence.wide.inRound l') _ _ (by intro c h; cases h)]
        simp only [sputM_ops, sv, st, sc]
        go_simp
        refine hK _ _ ?_
        exact MtI.put HX.out HB6.out (fun b _ => by rw [two_plus]; exact mm_yes HALL.out b) (Nat.le_refl _)
  case done =>
    rintro D xs X hD ⟨⟨O, hO, hR, hA, hOO, hB⟩, rfl⟩ hKD
    have c0 : X.cell? ⟨w.heap.size + 1 + 1, 0, none⟩ = _ := hO.cell 0 (by omega)
    have c1 : X.cell? ⟨w.heap.size + 1 + 1, 1, none⟩ = _ := hO.cell 1 (by omega)
    have c2 : X.cell? ⟨w.heap.size + 1 + 1, 2, none⟩ = _ := hO.cell 2 (by omega)
    have c3 : X.cell? ⟨w.heap.size + 1 + 1, 3, none⟩ = _ := hO.cell 3 (by omega)
    have f0 := hR.frozen 0
    have f1 := hR.frozen 1
    have f2 := hR.frozen 2
    have f3 := hR.frozen 3
    have d0 := hR.cell 0 (by omega)
    have d1 := hR.cell 1 (by omega)
    have d2 := hR.cell 2 (by omega)
    have d3 := hR.cell 3 (by omega)
    have HR := hide hR
    have HB := hide hB
    clear hO hR hA hOO hB hI0 hseq hks hBw hS hT
    simp only at c0 c1 c2 c3
    gi_wp2
    have hDn : D ≠ w.heap.size + 1 := by have := HSZ.out; omega
    have hKD' := (four_other (W := X) (g := w.heap.size + 1) (x := D) (.int .u64 (wd (mm (bl H 256) (allS S len)) 0 : Nat)) (.int .u64 (wd (mm (bl H 256) (allS S len)) 1 : Nat)) (.int .u64 (wd (mm (bl H 256) (allS S len)) 2 : Nat)) (.int .u64 (wd (mm (bl H 256) (allS S len)) 3 : Nat)) hDn).trans hKD
    refine ⟨by simp, .inl ⟨D, _, rfl, run_takeDeferred hKD', ?_⟩⟩
    refine ⟨_, results_cell_row rfl _ _ (w.heap.size + 1) 24 (st (mm (bl H 256) (allS S len))) (0, 0) _ rfl ((World.putObj_heap_other (fun e => hDn e.symm)).trans (HR.out.four _)) Tryd.underlying24 rfl (sizeSet _), ?_⟩
    refine ⟨congrArg Ending.returned (sv_congr _ _ fun b hb => by rw [mm_all H _ b hb, HH.out]; simp), ?_⟩
    exact (below_four HB.out (Nat.le_succ w.heap.size) _ _ _ _).trans (belowK_b (w := w) (Nat.le_refl _) _ D _ _ (by have := HSZ.out; omega) hKD' rfl rfl)
theorem meet_any (a : Option Addr) (len cap : Nat) (S : Nat → Nat → Bool) (w : World) (hl : len ≤ 140737488355328) (hS : Sets w a len S) (hT : Tab w) :
    Calls Tryd.prog 19 #[.slice a len cap] w fun e w' => e = .returned (sv (allS S len)) ∧ Below w.heap.size w w' := callsIn_wide.1 (meet_in 20 (by omega) a len cap S w hl hS hT)
end Go.Proofs.YtmnjicpgdhnimaaDoor
