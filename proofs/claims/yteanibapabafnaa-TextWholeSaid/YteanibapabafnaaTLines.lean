/-
  slices.AppendSeq, slices.Collect over whatever tells numbers; text.Lines.
-/
import Derived.Test.YteanibapabafnaaTBeg
import Derived.Test.YteanibapabafnaaAppendIn
import Derived.Test.YteanibapabafnaaLentI
namespace Go.Proofs.Yteanibapabafnaa
open Go.RowKit Go.Shelf

attribute [local go_sem] Oper.semAt_some

/-- The cells of numbers. -/
def icl (xs : List Nat) : List Value := xs.map fun x : Nat => .int .i64 (x : Int)
theorem icl_length (xs : List Nat) : (icl xs).length = xs.length := by simp [icl]
theorem icl_snoc (xs : List Nat) (x : Nat) : icl (xs ++ [x]) = icl xs ++ [.int .i64 (x : Int)] := by simp [icl]
theorem icl_icells (xs : List Nat) : icl xs = icells (fun i => ((xs.getD i 0 : Nat) : Int)) xs.length := by
  apply List.ext_getElem?
  intro i
  unfold icl icells
  rw [List.getElem?_map, List.getElem?_map]
  rcases Nat.lt_or_ge i xs.length with h | h
  · rw [List.getElem?_eq_getElem h, List.getElem?_range h]
    simp [h]
  · rw [List.getElem?_eq_none h, List.getElem?_eq_none (by simpa using h)]
    rfl

/-- Between two rounds of AppendSeq. -/
def ApI (w0 : World) (B : Nat) (s : List Nat × (Nat → Prop)) (X : World) : Prop :=
  ∃ v, Boxed X B 23 v ∧ X.ownsRow w0.heap.size 3 1 v s.1.length (icl s.1) ∧ (∀ k, s.2 k ↔ k = B ∨ v.ownBlock = some k) ∧ Below w0.heap.size w0 X
theorem ApI.still {w0 : World} {B N : Nat} {s : List Nat × (Nat → Prop)} {X Y : World} (h : ApI w0 B s X) (hs : Still N X Y) (hN : w0.heap.size ≤ N) : ApI w0 B s Y := by
  obtain ⟨v, h1, h2, h3, h4⟩ := h
  exact ⟨v, Boxed.still h1 hs, owns_still h2 hs, h3, h4.trans (hs.below hN h4.size)⟩
theorem ApI.own {w0 : World} {B N : Nat} (hN : w0.heap.size ≤ N) : OwnFrom N (ApI w0 B) := fun _ X _ _ h hg hr => h.still ((Still.refl N X).grown hg hr) hN

set_option maxRecDepth 100000 in
set_option maxHeartbeats 2000000 in
theorem appendSeq_in (n : Nat) (hn : 9 ≤ n) (gf : Nat) (lb : Array Value) (eg : ∀ args w, (callFunc gf args).run Try.prog w = .ok (.enter gf args) w) (G : Nat → List Nat → World → Nat → World → Prop) (ks : Nat → Prop) (S Sp : Nat → List Nat → World → World → Prop) (w : World)
    (hseq : SeqN Fence.wide (n - 1) Try.prog gf lb encN G ks S Sp w) (M : Nat) (hM : M ≤ 14073748835532) (Sx : List Nat → Prop)
    (hG : ∀ N pre x A B, G N pre A x B → Still N A B ∧ pre.length < M) (hS : ∀ N xs A B, S N xs A B → Still N A B ∧ Sx xs) (hSp : ∀ N xs A B, Sp N xs A B → Still N A B) (hks : ∀ k, ks k → k ≠ w.heap.size) :
    CallsIn Fence.wide n Try.prog 34 #[.slice none 0 0, .func (.func gf) #[] lb] w fun e w' => ∃ (v : Value) (xs : List Nat), e = .returned v ∧ Sx xs ∧ w'.ownsRow w.heap.size 3 1 v xs.length (icl xs) ∧ Below w.heap.size w w' := by
  obtain ⟨i0, hi, hq0, hq1, hq2⟩ := info_parts info_int
  refine callsIn_of_wp_marks Try.func34 rfl trivial ?_ rfl
  simp only [Try.ntmps34, List.size_toArray, List.length_cons, List.length_nil, Nat.reduceAdd, Nat.reduceSub, Array.replicate_succ, Array.replicate_zero, List.push_toArray, List.append_toArray, List.nil_append, List.cons_append]
  obtain ⟨W1, hW1⟩ : ∃ W1, w.alloc (.cells #[.slice none 0 0] 23) = W1 := ⟨_, rfl⟩
  have hs1 : W1.heap.size = w.heap.size + 1 := by rw [← hW1]; simp
  have hB1 : Below w.heap.size w W1 := by rw [← hW1]; exact below_alloc _ _
  have hI0 : ApI w w.heap.size ([], fun k => k = w.heap.size) W1 := ⟨_, by rw [← hW1]; exact Boxed.new _ _ _, World.ownsRow_nil _ _ _ _, fun k => by simp [Value.ownBlock], hB1⟩
  have HS1 := hide hs1
  have HSEQ := hide hseq
  clear hs1 hseq
  gi_wp2
  refine wpIn_rangeFunc_N rfl (by omega) (gf := gf) (lb := lb) rfl trivial eg HSEQ.out (fun pre x A B h => (hG _ _ _ _ _ h).1.to) (fun xs A B h => (hS _ _ _ _ h).1.to) (fun xs A B h => (hSp _ _ _ _ h).to) hB1 (fun _ => rfl)
    (ApI w w.heap.size) (fun _ _ _ => False) (fun s x X => ApI w w.heap.size s X ∧ s.1.length < M) (fun xs X => (∃ O, ApI w w.heap.size (xs, O) X) ∧ Sx xs) (fun _ _ _ => False)
    (ApI.own hB1.size) (fun _ _ _ _ _ h _ _ => h) ?ee (fun _ _ _ _ _ h _ _ => h) (fun pre O x A B h g => ⟨h.still (hG _ _ _ _ _ g).1 (by have := hB1.size; omega), (hG _ _ _ _ _ g).2⟩) (fun xs O A B h g => ⟨⟨O, h.still (hS _ _ _ _ g).1 (by have := hB1.size; omega)⟩, (hS _ _ _ _ g).2⟩) (fun _ _ _ _ h _ => h)
    (fun k => k = w.heap.size) (fun k hk => ⟨fun h => hks k h hk, by have := HS1.out; omega⟩) hI0
    (fun s x a' X => a' = { tmps := #[.slice none 0 0, .func (.func gf) #[] lb, .pointer (some ⟨w.heap.size, 0, none⟩), undef, .slice none 0 0, .int .i64 (x : Int), .func (.func gf) #[] lb, .int .i64 (x : Int), undef, undef, undef, undef, undef], defers := [] } ∧ ApI w w.heap.size s X ∧ s.1.length < M)
    ?m2 ?assign ?body ?done (fun _ _ _ _ _ h _ => h.elim)
  case ee =>
    rintro xs X Y row ⟨⟨O, h1⟩, h2⟩ hg hr
    exact ⟨⟨O, ApI.own hB1.size _ X Y row h1 hg hr⟩, h2⟩
  case m2 =>
    rintro x a' s X Y row ⟨h1, h2, h3⟩ hg hr
    exact ⟨h1, ApI.own hB1.size _ X Y row h2 hg hr, h3⟩
  case assign =>
    intro l' pre O x X K hM2 hK
    have HK := hide (hK _ X ((KeepsFrom.refl _ _)) (KeptO.refl _ _) ⟨rfl, hM2⟩)
    clear hK hM2 hI0
    simp only [encN]
    gi_wp2
    exact HK.out
  case body =>
    rintro l' pre O x a' X ⟨rfl, ⟨v, hv, hrow, hO, hB⟩, hlen⟩
    simp only at hrow hO hlen
    have hc0 := hv.cell
    have hf0 := hv.frozen
    have hnew := cell_one_new X (.int .i64 (x : Int)) 3
    have hrA := owns_thru hrow (below_alloc X (.cells #[.int .i64 (x : Int)] 3))
    have hsz := hB.size
    have HI0 := hide hI0
    have HV := hide hv
    have HR := hide hrow
    have HO := hide hO
    have HB := hide hB
    have HHB := hide hB1
    clear hI0 hv hrow hO hB hB1 hW1
    gi_wp2_with (gi_at_builtin; refine wpListIn_append_foot _ rfl _ _ 23 rfl 3 i0 (.int .i64 0) 8 Try.underlying23 hi hq0 hq1 hq2 rfl w.heap.size v pre.length (icl pre) rfl hrA (some ⟨X.heap.size, 0, none⟩) 1 1 [.int .i64 (x : Int)] rfl rfl (fun e => by cases e) (fun ad e => by cases e; exact hnew) (by simp [Value.oneCell']) (by unfold maxLen; omega) (by omega) (by simp; omega) ?_; intro A' C' w1 hown' hG'; obtain ⟨hv1, hv2, hr2, hk2, ho2⟩ := grow_post HV.out (by decide) HR.out hown' hG'; have hc1 := hv1.cell; have hf1 := hv1.frozen)
    refine ⟨hk2.keepsOthers.from _, fun k => k = w.heap.size ∨ (Value.slice A' (pre.length + 1) C').ownBlock = some k, ⟨_, hv2, ?_, fun k => Iff.rfl, HB.out.trans (hk2.below (fun k hk => ?_) hsz)⟩, (KeptO.of_kept hk2).mono (fun k h => (HO.out k).2 h), fun k hk => ?_⟩
    · rw [List.length_append, icl_snoc]; exact hr2
    · rcases hk with rfl | hk
      · exact Nat.le_refl _
      · exact (owns_cells HR.out k hk).2.1
    · rcases hk with rfl | hk
      · exact ⟨.inl ((HO.out _).2 (.inl rfl)), hv2.lt⟩
      · obtain ⟨h1 | h1, h2⟩ := ho2 k hk
        · exact ⟨.inl ((HO.out _).2 (.inr h1)), h2⟩
        · exact ⟨.inr h1, h2⟩
  case done =>
    rintro D xs X hD ⟨⟨O, v, hv, hrow, hO, hB⟩, hx⟩ hKD
    have hc0 := hv.cell
    have HI0 := hide hI0
    have HV := hide hv
    have HR := hide hrow
    have HO := hide hO
    have HB := hide hB
    clear hI0 hv hrow hO hB hW1
    gi_wp2
    refine ⟨by simp, .inl ⟨D, _, rfl, run_takeDeferred hKD, ?_⟩⟩
    exact ⟨_, results_tmp rfl _ _ _, v, rfl, xs, hx, ownsRow_putObj HR.out _ hKD rfl, HB.out.trans (belowK_b (w := w) (Nat.le_refl _) X D _ _ (by have := HS1.out; omega) hKD rfl rfl)⟩

set_option maxHeartbeats 1000000 in
theorem collect_in (n : Nat) (hn : 10 ≤ n) (gf : Nat) (lb : Array Value) (eg : ∀ args w, (callFunc gf args).run Try.prog w = .ok (.enter gf args) w) (G : Nat → List Nat → World → Nat → World → Prop) (ks : Nat → Prop) (S Sp : Nat → List Nat → World → World → Prop) (w : World)
    (hseq : SeqN Fence.wide (n - 1 - 1) Try.prog gf lb encN G ks S Sp w) (M : Nat) (hM : M ≤ 14073748835532) (Sx : List Nat → Prop)
    (hG : ∀ N pre x A B, G N pre A x B → Still N A B ∧ pre.length < M) (hS : ∀ N xs A B, S N xs A B → Still N A B ∧ Sx xs) (hSp : ∀ N xs A B, Sp N xs A B → Still N A B) (hks : ∀ k, ks k → k ≠ w.heap.size) :
    CallsIn Fence.wide n Try.prog 24 #[.func (.func gf) #[] lb] w fun e w' => ∃ (v : Value) (xs : List Nat), e = .returned v ∧ Sx xs ∧ w'.ownsRow w.heap.size 3 1 v xs.length (icl xs) ∧ Below w.heap.size w w' := by
  have hap := appendSeq_in (n - 1) (by omega) gf lb eg G ks S Sp w hseq M hM Sx hG hS hSp hks
  refine callsIn_of_wp Try.func24 rfl trivial ?_ rfl
  simp only [Try.ntmps24, List.size_toArray, List.length_cons, List.length_nil, Nat.reduceAdd, Nat.reduceSub, Array.replicate_succ, Array.replicate_zero, List.push_toArray, List.append_toArray, List.nil_append, List.cons_append]
  gi_wp2
  refine ⟨trivial, wide_deep, hap.mono ?_⟩
  rintro e w1 ⟨v, xs, rfl, h1, h2, h3⟩
  gi_wp2
  go_ret
  exact ⟨v, xs, rfl, h1, h2, h3⟩

set_option maxHeartbeats 1000000 in
/-- text.Lines: where lines begin, in a row of the call's own. -/
theorem lines_in (n : Nat) (hn : 20 ≤ n) (a : Option Addr) (len cap : Nat) (z : Nat → Nat) (w : World) (hlen : len ≤ 1000000) (hz : Byt w a len z) :
    CallsIn Fence.wide n Try.prog 10 #[.slice a len cap] w fun e w' => ∃ v, e = .returned v ∧ w'.ownsRow w.heap.size 3 1 v (bg z len).length (icl (bg z len)) ∧ Below w.heap.size w w' := by
  obtain ⟨W1, hW1⟩ : ∃ W1, w.alloc (.cells #[.slice a len cap] 22) = W1 := ⟨_, rfl⟩
  have hB1 : Below w.heap.size w W1 := by rw [← hW1]; exact below_alloc _ _
  have hs1 : W1.heap.size = w.heap.size + 1 := by rw [← hW1]; simp
  have hbs : W1.cell? ⟨w.heap.size, 0, none⟩ = some (.slice a len cap) := by rw [← hW1]; exact (cell_new_l w _ _).1
  have hseq := begins_seq (n - 1 - 1 - 1) (by omega) w.heap.size a len cap z (by omega) W1 hbs (hz.below hB1)
  have hco := collect_in (n - 1) (by omega) 35 #[.pointer (some ⟨w.heap.size, 0, none⟩)] (enters_of Try.func35 (by kernel_rfl) rfl) _ _ _ _ W1 hseq (len + 2) (by omega) (fun xs => xs = bg z len)
    (fun N pre x A B h => ⟨h.1, by
      have := h.2.length_le
      have := bg_length_le z len
      simp at *; omega⟩) (fun N xs A B h => h) (fun N xs A B h => h.1) (fun k hk => by
      rcases hk with rfl | ⟨h0, o, s, e⟩
      · omega
      · rcases hz.2 with h | ⟨b, off, e', hc⟩
        · omega
        · rw [e] at e'
          cases e'
          have := block_lt_of_cell (hc 0 h0)
          simp only at this
          omega)
  have HS := hide hs1
  have HB := hide hB1
  clear hseq hbs hs1 hB1
  refine callsIn_of_wp Try.func10 rfl trivial ?_ rfl
  simp only [Try.ntmps10, List.size_toArray, List.length_cons, List.length_nil, Nat.reduceAdd, Nat.reduceSub, Array.replicate_succ, Array.replicate_zero, List.push_toArray, List.append_toArray, List.nil_append, List.cons_append]
  gi_wp2
  refine ⟨trivial, wide_deep, (begins_in Fence.wide _ trivial rfl a len cap w).mono ?_⟩
  rintro e w4 ⟨rfl, rfl⟩
  rw [hW1]
  gi_wp2
  refine ⟨trivial, wide_deep, hco.mono ?_⟩
  rintro e w1 ⟨v, xs, rfl, rfl, h2, h3⟩
  gi_wp2
  go_ret
  refine ⟨v, rfl, ?_, HB.out.trans (h3.mono HB.out.size)⟩
  exact ⟨h2.1, h2.2.imp (fun h => h) (fun ⟨g, cap, cur, h4, h5, h6⟩ => ⟨g, cap, cur, h4, by have := HS.out; omega, h6⟩)⟩
theorem lines_any (a : Option Addr) (len cap : Nat) (z : Nat → Nat) (w : World) (hlen : len ≤ 1000000) (hz : Byt w a len z) :
    Calls Try.prog 10 #[.slice a len cap] w fun e w' => ∃ v, e = .returned v ∧ w'.ownsRow w.heap.size 3 1 v (bg z len).length (icl (bg z len)) ∧ Below w.heap.size w w' := callsIn_wide.1 (lines_in 20 (by omega) a len cap z w hlen hz)
end Go.Proofs.Yteanibapabafnaa
