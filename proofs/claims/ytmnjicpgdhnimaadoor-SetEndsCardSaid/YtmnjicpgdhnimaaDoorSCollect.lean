/-
  slices.AppendSeq, slices.Collect over whatever tells bytes; set.Bytes.
-/
import Derived.Test.YtmnjicpgdhnimaaDoorSIter
import Derived.Test.YtmnjicpgdhnimaaDoorSBytes
import Derived.Test.YtmnjicpgdhnimaaDoorAppendIn
namespace Go.Proofs.YtmnjicpgdhnimaaDoor
open Go.RowKit Go.Shelf

attribute [local go_sem] Oper.semAt_some

theorem KeptS.below {N B0 : Nat} {A B : World} (h : KeptS N A B) (hN : B0 ≤ N) (hA : B0 ≤ A.heap.size) : Below B0 A B :=
  ⟨h.os, h.tape, h.output, h.size, fun k hk => by
    have hl : k < A.heap.size := by omega
    obtain ⟨o, ho⟩ : ∃ o, A.heap[k]? = some o := ⟨_, Array.getElem?_eq_getElem hl⟩
    rw [ho]
    exact h.same _ _ ho (.inl (by omega))⟩
theorem boxed_kept {N B : Nat} {t : TypeId} {v : Value} {X Y : World} (h : Boxed X B t v) (hs : KeptS N X Y) (ht : ∀ c f, Obj.cells #[v] t (0, 0) ≠ .cells c 24 f) : Boxed Y B t v := hs.same _ _ h (.inr ht)
theorem owns_setsKept {N B n size : Nat} {v : Value} {xs : List Value} {e : TypeId} {X Y : World} (h : X.ownsRow B e size v n xs) (hs : KeptS N X Y) (he : e ≠ 24) : Y.ownsRow B e size v n xs := by
  obtain ⟨h0, ⟨hv, h1⟩ | ⟨g, cap, cur, hv, h1, h2, h3⟩⟩ := h
  · exact ⟨h0, .inl ⟨hv, h1⟩⟩
  · exact ⟨h0, .inr ⟨g, cap, cur, hv, h1, hs.same _ _ h2 (.inr fun c f e' => by cases e'; exact he rfl), h3⟩⟩

/-- Between two rounds of AppendSeq. -/
def ApB (w0 : World) (B : Nat) (s : List Nat × (Nat → Prop)) (X : World) : Prop :=
  ∃ v, Boxed X B 25 v ∧ X.ownsRow w0.heap.size 5 1 v s.1.length (lc s.1) ∧ (∀ k, s.2 k ↔ k = B ∨ v.ownBlock = some k) ∧ Below w0.heap.size w0 X
theorem ApB.still {w0 : World} {B N : Nat} {s : List Nat × (Nat → Prop)} {X Y : World} (h : ApB w0 B s X) (hs : Still N X Y) (hN : w0.heap.size ≤ N) : ApB w0 B s Y := by
  obtain ⟨v, h1, h2, h3, h4⟩ := h
  exact ⟨v, Boxed.still h1 hs, owns_still h2 hs, h3, h4.trans (hs.below hN h4.size)⟩
theorem ApB.kept {w0 : World} {B N : Nat} {s : List Nat × (Nat → Prop)} {X Y : World} (h : ApB w0 B s X) (hs : KeptS N X Y) (hN : w0.heap.size ≤ N) : ApB w0 B s Y := by
  obtain ⟨v, h1, h2, h3, h4⟩ := h
  exact ⟨v, boxed_kept h1 hs (fun _ _ e => by cases e), owns_setsKept h2 hs (by decide), h3, h4.trans (hs.below hN h4.size)⟩
theorem ApB.own {w0 : World} {B N : Nat} (hN : w0.heap.size ≤ N) : OwnFrom N (ApB w0 B) := fun _ X _ _ h hg hr => h.still ((Still.refl N X).grown hg hr) hN

set_option maxRecDepth 100000 in
set_option maxHeartbeats 2000000 in
theorem appendSeqB_in (n : Nat) (hn : 9 ≤ n) (gf : Nat) (lb : Array Value) (eg : ∀ args w, (callFunc gf args).run Tryd.prog w = .ok (.enter gf args) w) (G : Nat → List Nat → World → Nat → World → Prop) (ks : Nat → Prop) (S Sp : Nat → List Nat → World → World → Prop) (w : World)
    (hseq : SeqN Fence.wide (n - 1) Tryd.prog gf lb encB G ks S Sp w) (M : Nat) (hM : M ≤ 14073748835532) (Sx : List Nat → Prop)
    (hG : ∀ N pre x A B, G N pre A x B → KeptS N A B ∧ pre.length < M) (hS : ∀ N xs A B, S N xs A B → KeptS N A B ∧ Sx xs) (hSp : ∀ N xs A B, Sp N xs A B → KeptS N A B) (hks : ∀ k, ks k → k ≠ w.heap.size) :
    CallsIn Fence.wide n Tryd.prog 42 #[.slice none 0 0, .func (.func gf) #[] lb] w fun e w' => ∃ (v : Value) (xs : List Nat), e = .returned v ∧ Sx xs ∧ w'.ownsRow w.heap.size 5 1 v xs.length (lc xs) ∧ Below w.heap.size w w' := by
  obtain ⟨i0, hi, hq0, hq1, hq2⟩ := info_parts info_u8
  refine callsIn_of_wp_marks Tryd.func42 rfl trivial ?_ rfl
  simp only [Tryd.ntmps42, List.size_toArray, List.length_cons, List.length_nil, Nat.reduceAdd, Nat.reduceSub, Array.replicate_succ, Array.replicate_zero, List.push_toArray, List.append_toArray, List.nil_append, List.cons_append]
  obtain ⟨W1, hW1⟩ : ∃ W1, w.alloc (.cells #[.slice none 0 0] 25) = W1 := ⟨_, rfl⟩
  have hs1 : W1.heap.size = w.heap.size + 1 := by rw [← hW1]; simp
  have hB1 : Below w.heap.size w W1 := by rw [← hW1]; exact below_alloc _ _
  have hI0 : ApB w w.heap.size ([], fun k => k = w.heap.size) W1 := ⟨_, by rw [← hW1]; exact Boxed.new _ _ _, World.ownsRow_nil _ _ _ _, fun k => by simp [Value.ownBlock], hB1⟩
  have HS1 := hide hs1
  have HSEQ := hide hseq
  clear hs1 hseq
  gi_wp2
  refine wpIn_rangeFunc_N rfl (by omega) (gf := gf) (lb := lb) rfl trivial eg HSEQ.out (fun pre x A B h => (hG _ _ _ _ _ h).1.to) (fun xs A B h => (hS _ _ _ _ h).1.to) (fun xs A B h => (hSp _ _ _ _ h).to) hB1 (fun _ => rfl)
    (ApB w w.heap.size) (fun _ _ _ => False) (fun s x X => ApB w w.heap.size s X ∧ s.1.length < M) (fun xs X => (∃ O, ApB w w.heap.size (xs, O) X) ∧ Sx xs) (fun _ _ _ => False)
    (ApB.own hB1.size) (fun _ _ _ _ _ h _ _ => h) ?ee (fun _ _ _ _ _ h _ _ => h) (fun pre O x A B h g => ⟨h.kept (hG _ _ _ _ _ g).1 (by have := hB1.size; omega), (hG _ _ _ _ _ g).2⟩) (fun xs O A B h g => ⟨⟨O, h.kept (hS _ _ _ _ g).1 (by have := hB1.size; omega)⟩, (hS _ _ _ _ g).2⟩) (fun _ _ _ _ h _ => h)
    (fun k => k = w.heap.size) (fun k hk => ⟨fun h => hks k h hk, by have := HS1.out; omega⟩) hI0
    (fun s x a' X => a' = { tmps := #[.slice none 0 0, .func (.func gf) #[] lb, .pointer (some ⟨w.heap.size, 0, none⟩), undef, .slice none 0 0, .int .u8 (x : Int), .func (.func gf) #[] lb, .int .u8 (x : Int), undef, undef, undef, undef, undef], defers := [] } ∧ ApB w w.heap.size s X ∧ s.1.length < M)
    ?m2 ?assign ?body ?done (fun _ _ _ _ _ h _ => h.elim)
  case ee =>
    rintro xs X Y row ⟨⟨O, h1⟩, h2⟩ hg hr
    exact ⟨⟨O, ApB.own hB1.size _ X Y row h1 hg hr⟩, h2⟩
  case m2 =>
    rintro x a' s X Y row ⟨h1, h2, h3⟩ hg hr
    exact ⟨h1, ApB.own hB1.size _ X Y row h2 hg hr, h3⟩
  case assign =>
    intro l' pre O x X K hM2 hK
    have HK := hide (hK _ X ((KeepsFrom.refl _ _)) (KeptO.refl _ _) ⟨rfl, hM2⟩)
    clear hK hM2 hI0
    simp only [encB]
    gi_wp2
    exact HK.out
  case body =>
    rintro l' pre O x a' X ⟨rfl, ⟨v, hv, hrow, hO, hB⟩, hlen⟩
    simp only at hrow hO hlen
    have hc0 := hv.cell
    have hf0 := hv.frozen
    have hnew := cell_one_new X (.int .u8 (x : Int)) 5
    have hrA := owns_thru hrow (below_alloc X (.cells #[.int .u8 (x : Int)] 5))
    have hsz := hB.size
    have HI0 := hide hI0
    have HV := hide hv
    have HR := hide hrow
    have HO := hide hO
    have HB := hide hB
    have HHB := hide hB1
    clear hI0 hv hrow hO hB hB1 hW1
    gi_wp2_with (gi_at_builtin; refine wpListIn_append_foot _ rfl _ _ 25 rfl 5 i0 (.int .u8 0) 1 Tryd.underlying25 hi hq0 hq1 hq2 rfl w.heap.size v pre.length (lc pre) rfl hrA (some ⟨X.heap.size, 0, none⟩) 1 1 [.int .u8 (x : Int)] rfl rfl (fun e => by cases e) (fun ad e => by cases e; exact hnew) (by simp [Value.oneCell']) (by unfold maxLen; omega) (by omega) (by simp; omega) ?_; intro A' C' w1 hown' hG'; obtain ⟨hv1, hv2, hr2, hk2, ho2⟩ := grow_post HV.out (by decide) HR.out hown' hG'; have hc1 := hv1.cell; have hf1 := hv1.frozen)
    refine ⟨hk2.keepsOthers.from _, fun k => k = w.heap.size ∨ (Value.slice A' (pre.length + 1) C').ownBlock = some k, ⟨_, hv2, ?_, fun k => Iff.rfl, HB.out.trans (hk2.below (fun k hk => ?_) hsz)⟩, (KeptO.of_kept hk2).mono (fun k h => (HO.out k).2 h), fun k hk => ?_⟩
    · rw [List.length_append, lc_append]; exact hr2
    · rcases hk with rfl | hk
      · exact Nat.le_refl _
      · exact (owns_cells HR.out k hk).2.1
    · rcases hk with rfl | hk
      · exact ⟨.inl ((HO.out _).2 (.inl rfl)), hv2.lt⟩
      · obtain ⟨h1 | h1, h2⟩ := ho2 k hk
        · exact ⟨.inl ((HO.out _).2 (.inr h1)), h2⟩
        · exact ⟨.inr h1, h2⟩
  case done =>
    rintro D xs X hD ⟨⟨O, v, hv, hrow, hO, hB⟩, hx⟩ hKD
    have hc0 := hv.cell
    have HI0 := hide hI0
    have HV := hide hv
    have HR := hide hrow
    have HO := hide hO
    have HB := hide hB
    clear hI0 hv hrow hO hB hW1
    gi_wp2
    refine ⟨by simp, .inl ⟨D, _, rfl, run_takeDeferred hKD, ?_⟩⟩
    exact ⟨_, results_tmp rfl _ _ _, v, rfl, xs, hx, ownsRow_putObj HR.out _ hKD rfl, HB.out.trans (belowK_b (w := w) (Nat.le_refl _) X D _ _ (by have := HS1.out; omega) hKD rfl rfl)⟩

set_option maxHeartbeats 1000000 in
theorem collectB_in (n : Nat) (hn : 10 ≤ n) (gf : Nat) (lb : Array Value) (eg : ∀ args w, (callFunc gf args).run Tryd.prog w = .ok (.enter gf args) w) (G : Nat → List Nat → World → Nat → World → Prop) (ks : Nat → Prop) (S Sp : Nat → List Nat → World → World → Prop) (w : World)
    (hseq : SeqN Fence.wide (n - 1 - 1) Tryd.prog gf lb encB G ks S Sp w) (M : Nat) (hM : M ≤ 14073748835532) (Sx : List Nat → Prop)
    (hG : ∀ N pre x A B, G N pre A x B → KeptS N A B ∧ pre.length < M) (hS : ∀ N xs A B, S N xs A B → KeptS N A B ∧ Sx xs) (hSp : ∀ N xs A B, Sp N xs A B → KeptS N A B) (hks : ∀ k, ks k → k ≠ w.heap.size) :
    CallsIn Fence.wide n Tryd.prog 27 #[.func (.func gf) #[] lb] w fun e w' => ∃ (v : Value) (xs : List Nat), e = .returned v ∧ Sx xs ∧ w'.ownsRow w.heap.size 5 1 v xs.length (lc xs) ∧ Below w.heap.size w w' := by
  have hap := appendSeqB_in (n - 1) (by omega) gf lb eg G ks S Sp w hseq M hM Sx hG hS hSp hks
  refine callsIn_of_wp Tryd.func27 rfl trivial ?_ rfl
  simp only [Tryd.ntmps27, List.size_toArray, List.length_cons, List.length_nil, Nat.reduceAdd, Nat.reduceSub, Array.replicate_succ, Array.replicate_zero, List.push_toArray, List.append_toArray, List.nil_append, List.cons_append]
  gi_wp2
  refine ⟨trivial, wide_deep, hap.mono ?_⟩
  rintro e w1 ⟨v, xs, rfl, h1, h2, h3⟩
  gi_wp2
  go_ret
  exact ⟨v, xs, rfl, h1, h2, h3⟩

end Go.Proofs.YtmnjicpgdhnimaaDoor
