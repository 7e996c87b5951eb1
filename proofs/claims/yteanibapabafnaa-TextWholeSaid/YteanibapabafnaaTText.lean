/-
  text.Text.
-/
import Derived.Test.YteanibapabafnaaTIter
import Derived.Test.YteanibapabafnaaAppendIn
import Derived.Test.YteanibapabafnaaSame
namespace Go.Proofs.Yteanibapabafnaa
open Go.RowKit Go.Shelf

attribute [local go_sem] Oper.semAt_some

/-- Ahead of the first line feed. -/
def TxI (w0 : World) (Bb Be i len : Nat) (s : List Nat × (Nat → Prop)) (X : World) : Prop :=
  s.1 = [] ∧ Boxed X Bb 3 (.int .i64 (i : Nat)) ∧ Boxed X Be 3 (.int .i64 (len : Nat)) ∧ (∀ k, s.2 k ↔ k = Be) ∧ Below w0.heap.size w0 X
theorem TxI.own {w0 : World} {Bb Be i len N : Nat} (hN : w0.heap.size ≤ N) : OwnFrom N (TxI w0 Bb Be i len) := fun _ X _ _ ⟨h0, h1, h2, h3, h5⟩ hg hr => by
  have hs := (Still.refl N X).grown hg hr
  exact ⟨h0, Boxed.still h1 hs, Boxed.still h2 hs, h3, h5.trans (hs.below hN h5.size)⟩
/-- Behind the loop: where the line ends. -/
def TxE (w0 : World) (Bb Be i len : Nat) (z : Nat → Nat) (X : World) : Prop :=
  ∃ k : Nat, Boxed X Bb 3 (.int .i64 (i : Nat)) ∧ Boxed X Be 3 (.int .i64 (k : Nat)) ∧ EndAt z len i k ∧ Below w0.heap.size w0 X
theorem TxE.own {w0 : World} {Bb Be i len N : Nat} {z : Nat → Nat} {β : Type} (hN : w0.heap.size ≤ N) : OwnFrom N (fun (_ : β) X => TxE w0 Bb Be i len z X) := fun _ X _ _ ⟨k, h1, h2, h3, h5⟩ hg hr => by
  have hs := (Still.refl N X).grown hg hr
  exact ⟨k, Boxed.still h1 hs, Boxed.still h2 hs, h3, h5.trans (hs.below hN h5.size)⟩
theorem fd_nil {p : Nat → Bool} {k : Nat} (h : [] = fd p k) : ∀ j, j < k → p j = false := fun j hj => by
  cases hp : p j with
  | false => rfl
  | true =>
    have : j ∈ fd p k := mem_fd.2 ⟨hj, hp⟩
    rw [← h] at this
    cases this

set_option maxRecDepth 100000 in
set_option maxHeartbeats 2000000 in
theorem text_in (nn : Nat) (hnn : 20 ≤ nn) (a b : Option Addr) (len cap n cb : Nat) (z : Nat → Nat) (s : Nat → Int) (line : Int) (w : World) (hlen : len ≤ 1000000) (hn : n ≤ 1000000) (hcap : len ≤ cap) (ha : cap = 0 ∨ ∃ b off, a = some ⟨b, off, none⟩) (hl1 : -9223372036854775808 ≤ line) (hl2 : line ≤ 9223372036854775807) (hz : Byt w a len z) (hs : Ints w b n s) :
    CallsIn Fence.wide nn Try.prog 15 #[.slice a len cap, .slice b n cb, .int .i64 line] w fun e w' => ∃ v, e = .returned v ∧ TextIs z len s n line v ∧ Below w.heap.size w w' := by
  by_cases h1 : line < 1
  · clear hz hs
    refine callsIn_of_wp_marks Try.func15 rfl trivial ?_ rfl
    simp only [Try.ntmps15, List.size_toArray, List.length_cons, List.length_nil, Nat.reduceAdd, Nat.reduceSub, Array.replicate_succ, Array.replicate_zero, List.push_toArray, List.append_toArray, List.nil_append, List.cons_append]
    gi_wp2
    exact ⟨_, results_tmp rfl _ _ _, _, rfl, .inl ⟨.inl h1, rfl⟩, Below.refl _ _⟩
  by_cases h2 : (n : Int) < line
  · clear hz hs
    refine callsIn_of_wp_marks Try.func15 rfl trivial ?_ rfl
    simp only [Try.ntmps15, List.size_toArray, List.length_cons, List.length_nil, Nat.reduceAdd, Nat.reduceSub, Array.replicate_succ, Array.replicate_zero, List.push_toArray, List.append_toArray, List.nil_append, List.cons_append]
    gi_wp2
    exact ⟨_, results_tmp rfl _ _ _, _, rfl, .inl ⟨.inr h2, rfl⟩, Below.refl _ _⟩
  obtain ⟨l, rfl⟩ : ∃ l : Nat, line = (l : Int) + 1 := ⟨(line - 1).toNat, by omega⟩
  have hln : l < n := by omega
  obtain ⟨bb, bo, rfl, hc⟩ := hs.cell (by omega)
  have hcl := hc l hln
  clear hc hs hl1 hl2
  by_cases h3 : s l < 0
  · have H3 := hide h3
    generalize hsl : s l = sl at hcl h3
    have HSL := hide hsl
    clear hz hsl
    refine callsIn_of_wp_marks Try.func15 rfl trivial ?_ rfl
    simp only [Try.ntmps15, List.size_toArray, List.length_cons, List.length_nil, Nat.reduceAdd, Nat.reduceSub, Array.replicate_succ, Array.replicate_zero, List.push_toArray, List.append_toArray, List.nil_append, List.cons_append]
    gi_wp2
    exact ⟨_, results_tmp rfl _ _ _, _, rfl, .inr ⟨l, rfl, hln, .inl ⟨.inl H3.out, rfl⟩⟩, below_alloc _ _⟩
  by_cases h4 : (len : Int) < s l
  · have H4 := hide h4
    generalize hsl : s l = sl at hcl h3 h4
    have HSL := hide hsl
    clear hz hsl
    refine callsIn_of_wp_marks Try.func15 rfl trivial ?_ rfl
    simp only [Try.ntmps15, List.size_toArray, List.length_cons, List.length_nil, Nat.reduceAdd, Nat.reduceSub, Array.replicate_succ, Array.replicate_zero, List.push_toArray, List.append_toArray, List.nil_append, List.cons_append]
    gi_wp2
    exact ⟨_, results_tmp rfl _ _ _, _, rfl, .inr ⟨l, rfl, hln, .inl ⟨.inr H4.out, rfl⟩⟩, below_alloc _ _⟩
  obtain ⟨i, hi⟩ : ∃ i : Nat, s l = (i : Int) := ⟨(s l).toNat, by omega⟩
  rw [hi] at hcl h3 h4
  have hil : i ≤ len := by omega
  have HI := hide hi
  clear hi h3 h4
  obtain ⟨W1, hW1⟩ : ∃ W1, (w.alloc (.cells #[.int .i64 (i : Nat)] 3)).alloc (.cells #[.int .i64 (len : Nat)] 3) = W1 := ⟨_, rfl⟩
  have hs1 : W1.heap.size = w.heap.size + 2 := by rw [← hW1]; simp
  have hB1 : Below w.heap.size w W1 := by rw [← hW1]; exact below_step (below_alloc _ _) _
  have hba : Boxed W1 w.heap.size 3 (.int .i64 (i : Nat)) := by rw [← hW1]; exact (Boxed.new w _ _).alloc _
  have hbn : Boxed W1 (w.heap.size + 1) 3 (.int .i64 (len : Nat)) := by rw [← hW1]; have := Boxed.new (w.alloc (.cells #[.int .i64 (i : Nat)] 3)) 3 (.int .i64 (len : Nat)); rwa [World.size_alloc] at this
  obtain ⟨_, A2, _, hsl, _, hz2⟩ := slices_at a len i cap z w hil hcap ha hz
  obtain ⟨W2, hW2⟩ : ∃ W2, W1.alloc (.cells #[.slice A2 (len - i) (cap - i)] 22) = W2 := ⟨_, rfl⟩
  have hs2 : W2.heap.size = W1.heap.size + 1 := by rw [← hW2]; simp
  have hB2 : Below W1.heap.size W1 W2 := by rw [← hW2]; exact below_alloc _ _
  have hbs : W2.cell? ⟨W1.heap.size, 0, none⟩ = some (.slice A2 (len - i) (cap - i)) := by rw [← hW2]; exact (cell_new_l W1 _ _).1
  have hBw : Below w.heap.size w W2 := below_thru hB1 hB2
  have hseq := feeds_seq (nn - 1) W1.heap.size A2 (len - i) (cap - i) (fun j => z (i + j)) (by omega) W2 hbs (hz2.below hBw)
  have hI0 : TxI w w.heap.size (w.heap.size + 1) i len ([], fun k => k = w.heap.size + 1) W2 :=
    ⟨rfl, by rw [← hW2]; exact hba.alloc _, by rw [← hW2]; exact hbn.alloc _, fun k => Iff.rfl, hBw⟩
  have hks : ∀ k, k = w.heap.size + 1 → ¬ ksOf W1.heap.size A2 (len - i) k ∧ k < W2.heap.size := fun k hk => ⟨fun h => by
    rcases h with h | ⟨h0, o, sp, e⟩
    · omega
    · rcases hz2.2 with h | ⟨b, off, e', hc⟩
      · omega
      · rw [e] at e'
        cases e'
        have := block_lt_of_cell (hc 0 h0)
        simp only at this
        omega, by omega⟩
  have HS := hide (And.intro hs1 hs2)
  have HW1 := hide hW1
  have HZ := hide hz
  clear hbs hs1 hs2 hba hbn hz hW1 hz2
  have hil' : (i : Int) ≤ (len : Int) := by omega
  refine callsIn_of_wp_marks Try.func15 rfl trivial ?_ rfl
  simp only [Try.ntmps15, List.size_toArray, List.length_cons, List.length_nil, Nat.reduceAdd, Nat.reduceSub, Array.replicate_succ, Array.replicate_zero, List.push_toArray, List.append_toArray, List.nil_append, List.cons_append]
  gi_wp2
  rw [HW1.out]
  refine ⟨trivial, wide_deep, (feeds_in Fence.wide (nn - 1) trivial rfl A2 (len - i) (cap - i) _).mono ?_⟩
  rintro e w4 ⟨rfl, rfl⟩
  rw [hW2]
  gi_wp2
  refine wpIn_rangeFunc_N rfl (by omega) (gf := 37) (lb := #[.pointer (some ⟨W1.heap.size, 0, none⟩)]) rfl trivial (enters_of Try.func37 (by kernel_rfl) rfl)
    hseq (fun _ _ _ _ h => by rw [h.1]; exact KeepsTo.refl _ _) (fun _ _ _ h => by rw [h.1]; exact KeepsTo.refl _ _) (fun _ _ _ h => by rw [h.1]; exact KeepsTo.refl _ _) (Below.refl _ _) (fun _ => rfl)
    (TxI w w.heap.size (w.heap.size + 1) i len) (fun c _ X => c = .exit 0 ∧ TxE w w.heap.size (w.heap.size + 1) i len z X)
    (fun st x X => TxI w w.heap.size (w.heap.size + 1) i len st X ∧ st.1 = fd (isF (fun j => z (i + j))) x ∧ isF (fun j => z (i + j)) x = true ∧ x < len - i)
    (fun _ X => TxE w w.heap.size (w.heap.size + 1) i len z X) (fun c _ X => c = .exit 0 ∧ TxE w w.heap.size (w.heap.size + 1) i len z X)
    (TxI.own hBw.size) ?ix (TxE.own hBw.size) ?ex ?mid ?eend (fun c pre A B h g => by rw [← g.1]; exact h) (fun k => k = w.heap.size + 1) hks hI0
    (fun st x a' X => a' = { tmps := #[.slice a len cap, .slice (some ⟨bb, bo, none⟩) n cb, .int .i64 ((l : Int) + 1), undef, undef, undef, .string ⟨#[]⟩, .pointer (some ⟨w.heap.size, 0, none⟩), .pointer (some ⟨w.heap.size + 1, 0, none⟩), .int .i64 (x : Int), .int .i64 ((l : Int) + 1), .bool false, .bool false, .int .i64 ((l : Int) + 1), .slice (some ⟨bb, bo, none⟩) n cb, .int .i64 (n : Int), .bool false, .bool false, .slice (some ⟨bb, bo, none⟩) n cb, .int .i64 ((l : Int) + 1), .int .i64 (l : Int), .pointer (some ⟨bb, bo + l, none⟩), .int .i64 (i : Int), .int .i64 (i : Int), .bool (decide ((i : Int) < 0)), .bool (decide ((i : Int) < 0)), .int .i64 (i : Int), .slice a len cap, .int .i64 (len : Int), .bool false, .bool (decide ((i : Int) < 0)), .slice a len cap, .int .i64 (len : Int), .slice a len cap, .int .i64 (i : Int), .slice A2 (len - i) (cap - i), .func (.func 37) #[] #[.pointer (some ⟨W1.heap.size, 0, none⟩)], .int .i64 (x : Int), undef, undef, undef, undef, undef, undef, undef, undef], defers := [] } ∧
      TxI w w.heap.size (w.heap.size + 1) i len st X ∧ st.1 = fd (isF (fun j => z (i + j))) x ∧ isF (fun j => z (i + j)) x = true ∧ x < len - i) ?m2 ?assign ?body ?done ?stop
  case ix =>
    rintro c pre X Y row ⟨h0, h1⟩ hg hr
    exact ⟨h0, TxE.own (β := List Nat) hBw.size pre X Y row h1 hg hr⟩
  case ex =>
    rintro c pre X Y row ⟨h0, h1⟩ hg hr
    exact ⟨h0, TxE.own (β := List Nat) hBw.size pre X Y row h1 hg hr⟩
  case mid =>
    rintro pre O x A B hi ⟨rfl, h1, h2, h3⟩
    exact ⟨hi, h1, h2, h3⟩
  case eend =>
    rintro xs O A B ⟨h0, h1, h2, h3, h4⟩ ⟨rfl, h5⟩
    simp only at h0
    rw [h0] at h5
    refine ⟨len, h1, h2, ⟨hil, Nat.le_refl _, fun j hj1 hj2 => ?_, .inl rfl⟩, h4⟩
    have := fd_nil h5 (j - i) (by omega)
    dsimp only [isF] at this
    rw [show i + (j - i) = j by omega] at this
    simpa using this
  case m2 =>
    rintro x a' st X Y row ⟨h1, h2, h3⟩ hg hr
    exact ⟨h1, TxI.own hBw.size st X Y row h2 hg hr, h3⟩
  case assign =>
    intro l' pre O x X K hM hK
    have HK := hide (hK _ X ((KeepsFrom.refl _ _)) (KeptO.refl _ _) ⟨rfl, hM⟩)
    clear hK hseq hM hI0 hks
    simp only [encN]
    gi_wp2
    exact HK.out
  case body =>
    rintro l' pre O x a' X ⟨rfl, ⟨h0, hA, hN, hO, hB⟩, hpre, hx, hxl⟩
    simp only at h0 hpre
    rw [h0] at hpre
    have hEA : EndAt z len i (i + x) := ⟨by omega, by omega, fun j hj1 hj2 => by
      have := fd_nil hpre (j - i) (by omega)
      dsimp only [isF] at this
      rw [show i + (j - i) = j by omega] at this
      simpa using this, .inr (by unfold isF at hx; simpa using hx)⟩
    have c0 := hA.cell
    have c1 := hN.cell
    have f1 := hN.frozen
    have hxb : (i : Int) + (x : Int) ≤ 9223372036854775807 := by omega
    have HA := hide hA
    have HN := hide hN
    have HB := hide hB
    have HE := hide hEA
    clear hA hN hO hB hseq hI0 hks hpre hx hW2 hB1 hB2 hEA hsl
    gi_wp2
    have h1 := HN.out.set (.int .i64 ((i : Int) + (x : Int)))
    exact ⟨(KeepsOthers.setCell _ _ _).from _, rfl, i + x, Boxed.kept HA.out (grownBy_setCell' _ _ _) (fun e => by have := Option.some.inj e; omega), h1, HE.out, HB.out.setCell (p := ⟨w.heap.size + 1, 0, none⟩) (by simp) _⟩
  case done =>
    rintro D xs X hD ⟨k, h1, h2, h3, h4⟩ hKD
    obtain ⟨A, hA, hB⟩ := mid_at a len cap i k h3.1 h3.2.1 hcap
    have hcv := conv_byt (c := cap - i) (hB X z (HZ.out.below h4))
    have hcv' : (convert 22 9 (.slice A (k - i) (cap - i))).run Try.prog X = .ok (txt (cut z i k)) X := hcv
    have c0 := h1.cell
    have c1 := h2.cell
    have H3 := hide h3
    have H4 := hide h4
    clear h1 h2 h3 h4 hseq hI0 hks hW2 hsl hB hcv
    gi_wp2
    refine ⟨by simp, .inl ⟨D, _, rfl, run_takeDeferred hKD, ?_⟩⟩
    exact ⟨_, results_tmp rfl _ _ _, _, rfl, .inr ⟨l, rfl, hln, .inr ⟨i, k, HI.out, hil, H3.out, rfl⟩⟩, H4.out.trans (belowK_b (w := w) (Nat.le_refl _) X D _ _ (by have := hBw.size; omega) hKD rfl rfl)⟩
  case stop =>
    rintro D c pre X hD ⟨rfl, k, h1, h2, h3, h4⟩ hKD
    obtain ⟨A, hA, hB⟩ := mid_at a len cap i k h3.1 h3.2.1 hcap
    have hcv := conv_byt (c := cap - i) (hB X z (HZ.out.below h4))
    have hcv' : (convert 22 9 (.slice A (k - i) (cap - i))).run Try.prog X = .ok (txt (cut z i k)) X := hcv
    have c0 := h1.cell
    have c1 := h2.cell
    have H3 := hide h3
    have H4 := hide h4
    clear h1 h2 h3 h4 hseq hI0 hks hW2 hsl hB hcv
    gi_wp2
    refine ⟨by simp, .inl ⟨D, _, rfl, run_takeDeferred hKD, ?_⟩⟩
    exact ⟨_, results_tmp rfl _ _ _, _, rfl, .inr ⟨l, rfl, hln, .inr ⟨i, k, HI.out, hil, H3.out, rfl⟩⟩, H4.out.trans (belowK_b (w := w) (Nat.le_refl _) X D _ _ (by have := hBw.size; omega) hKD rfl rfl)⟩
theorem text_any (a b : Option Addr) (len cap n cb : Nat) (z : Nat → Nat) (s : Nat → Int) (line : Int) (w : World) (hlen : len ≤ 1000000) (hn : n ≤ 1000000) (hcap : len ≤ cap) (ha : cap = 0 ∨ ∃ b off, a = some ⟨b, off, none⟩) (hl1 : -9223372036854775808 ≤ line) (hl2 : line ≤ 9223372036854775807) (hz : Byt w a len z) (hs : Ints w b n s) :
    Calls Try.prog 15 #[.slice a len cap, .slice b n cb, .int .i64 line] w fun e w' => ∃ v, e = .returned v ∧ TextIs z len s n line v ∧ Below w.heap.size w w' := callsIn_wide.1 (text_in 20 (by omega) a b len cap n cb z s line w hlen hn hcap ha hl1 hl2 hz hs)
end Go.Proofs.Yteanibapabafnaa
