/-
  The range-function over the places where lines begin: one within it.
-/
import Derived.Test.YteanibapabafnaaTIter
namespace Go.Proofs.Yteanibapabafnaa
open Go.RowKit Go.Shelf

attribute [local go_sem] Oper.semAt_some

theorem RoundIn.deep {m : Nat} {P : Program} {l : Nat} {f : FuncId} {tmps : Array Value} {assign body : Code} {w : World} {R : Ending → World → Prop} (h : RoundIn Fence.wide m P l f tmps assign body w R) (l' m' : Nat) :
    RoundIn (Fence.wide.inRound l') m' P l f tmps assign body w R := ⟨h.1, fun c cs _ => h.2 c cs (fun d h => by cases h)⟩
def GBeg (z : Nat → Nat) (len : Nat) (N : Nat) (pre : List Nat) (A : World) (x : Nat) (B : World) : Prop := Still N A B ∧ pre ++ [x] <+: bg z len
def SBeg (z : Nat → Nat) (len : Nat) (N : Nat) (xs : List Nat) (A B : World) : Prop := Still N A B ∧ xs = bg z len
def SpBeg (z : Nat → Nat) (len : Nat) (N : Nat) (pre : List Nat) (A B : World) : Prop := Still N A B ∧ pre <+: bg z len ∧ pre ≠ []

/-- What the inner walk lives on lies where no round turns it. -/
def BGood (N q l : Nat) (a : Option Addr) (len : Nat) (O : Nat → Prop) (X : World) : Prop :=
  X.heap[N]? = some (.cells #[.func (.yield l) #[] #[]] 84 (0, 0)) ∧ q < X.heap.size ∧ ∀ k, O k → k < X.heap.size ∧ k ≠ N ∧ k ≠ q ∧ (0 < len → ∀ o s, a ≠ some ⟨k, o, s⟩)
def BI (J : List Nat × (Nat → Prop) → World → Prop) (N q l : Nat) (a : Option Addr) (len : Nat) (s : List Nat × (Nat → Prop)) (X : World) : Prop :=
  (∃ A, J (0 :: s.1.map (· + 1), s.2) A ∧ Still N A X) ∧ BGood N q l a len s.2 X
theorem BI.own {J : List Nat × (Nat → Prop) → World → Prop} {N q l B : Nat} {a : Option Addr} {len : Nat} (hB : N ≤ B) : OwnFrom B (BI J N q l a len) := by
  rintro s X Y row ⟨⟨A, h1, h2⟩, h3, h4, h5⟩ hg hr
  have ck := CellsKept.of_grown hg (fun r e => (hr r e).2)
  have hs := hg.size
  exact ⟨⟨A, h1, h2.grown hg (fun r e => ⟨by have := (hr r e).1; omega, (hr r e).2⟩)⟩, ck _ _ _ _ h3, by omega, fun k hk => ⟨by have := (h5 k hk).1; omega, (h5 k hk).2⟩⟩
theorem BGood.step {N q l : Nat} {a : Option Addr} {len : Nat} {O O' : Nat → Prop} {X Y : World} (h : BGood N q l a len O X) (hk : KeptO O X Y) (hO : ∀ k, O' k → (O k ∨ X.heap.size ≤ k) ∧ k < Y.heap.size) (ha : ∀ g o s, a = some ⟨g, o, s⟩ → 0 < len → g < X.heap.size) : BGood N q l a len O' Y := by
  obtain ⟨h1, h2, h3⟩ := h
  have hs := hk.size
  refine ⟨hk.cells _ _ _ _ (fun e => (h3 _ e).2.1 rfl) h1, by omega, fun k hk' => ?_⟩
  obtain ⟨h4, h5⟩ := hO k hk'
  have hN := block_lt h1
  rcases h4 with h4 | h4
  · obtain ⟨_, h6⟩ := h3 k h4
    exact ⟨h5, h6⟩
  · exact ⟨h5, by omega, by omega, fun h0 o s e => by have := ha _ _ _ e h0; omega⟩
set_option maxRecDepth 100000 in
set_option maxHeartbeats 2000000 in
theorem begins1_in (n l Bs : Nat) (hn : 9 ≤ n) (a : Option Addr) (len cap : Nat) (z : Nat → Nat) (hlen : len ≤ 140737488355328) (J : List Nat × (Nat → Prop) → World → Prop) (Jx : List Nat → World → Prop) (W : World) (hl : l < W.heap.size)
    (hY : ∀ pre O x A B, J (pre, O) A → GBeg z len W.heap.size pre A x B → YieldAt Fence.wide (n - 1) Try.prog l (encN x) B fun e W' =>
      (e = .returned (.bool true) ∧ (∃ O', J (pre ++ [x], O') W' ∧ KeptO O B W' ∧ ∀ k, O' k → (O k ∨ B.heap.size ≤ k) ∧ k < W'.heap.size) ∧ KeepsFrom (l + 1) B W') ∨ (e = .returned (.bool false) ∧ Jx (pre ++ [x]) W' ∧ KeepsFrom (l + 1) B W'))
    (O0 : Nat → Prop) (hO0 : ∀ k, O0 k → ¬ ksOf Bs a len k ∧ k < W.heap.size) (hBs : W.cell? ⟨Bs, 0, none⟩ = some (.slice a len cap)) (hz : Byt W a len z) (h0 : J ([], O0) W) :
    CallsIn Fence.wide n Try.prog 35 #[.func (.yield l) #[] #[], .pointer (some ⟨Bs, 0, none⟩)] W fun e W' => (∃ v, e = .returned v) ∧
      ((∃ xs O A, J (xs, O) A ∧ SBeg z len W.heap.size xs A W') ∨ (∃ pre A, Jx pre A ∧ SpBeg z len W.heap.size pre A W')) := by
  have hBl : Bs < W.heap.size := block_lt_of_cell hBs
  have hY0 := hY [] O0 0 W (W.alloc (.cells #[.func (.yield l) #[] #[]] 84)) h0 ⟨(Still.refl _ W).alloc _, ⟨_, rfl⟩⟩
  obtain ⟨fn, tmps, assign, body, hy, hR⟩ := hY0
  have hy0 : (Instr.yield l #[.int .i64 0]).run Try.prog (W.alloc (.cells #[.func (.yield l) #[] #[]] 84)) = .ok (.round l fn tmps assign body) (W.alloc (.cells #[.func (.yield l) #[] #[]] 84)) := hy
  have hb0 := cell_new_l W (.func (.yield l) #[] #[]) 84
  clear hy
  refine callsIn_of_wp_marks Try.func35 rfl trivial ?_ rfl
  simp only [Try.ntmps35, List.size_toArray, List.length_cons, List.length_nil, Nat.reduceAdd, Nat.reduceSub, Array.replicate_succ, Array.replicate_zero, List.push_toArray, List.append_toArray, List.nil_append, List.cons_append]
  gi_wp2
  refine ⟨wide_deep, hR.mono ?_⟩
  rintro e W3 (⟨rfl, ⟨O', hJ3, hk3, hO3⟩, hf3⟩ | ⟨rfl, hJx3, hf3⟩)
  · have hs3 : W.heap.size + 1 ≤ W3.heap.size := by have := hk3.size; simpa using this
    have hO4 : ∀ k, O' k → (O0 k ∨ W.heap.size + 1 ≤ k) ∧ k < W3.heap.size := fun k hk => by have := hO3 k hk; simpa using this
    have hB3 : W3.cell? ⟨Bs, 0, none⟩ = some (.slice a len cap) := hk3.cell (fun h => (hO0 _ h).1 (.inl rfl)) (cell_alloc_l _ hBs)
    have hb3 : W3.heap[W.heap.size]? = some (.cells #[.func (.yield l) #[] #[]] 84 (0, 0)) := hk3.cells _ _ _ _ (fun h => by have := (hO0 _ h).2; omega) (heap_alloc_new _ _)
    have hz3 : Byt W3 a len z := hk3.byt (hz.alloc _) (fun g o s e h0 _ hO => (hO0 _ hO).1 (.inr ⟨h0, o, s, e⟩))
    have haW : ∀ g o s, a = some ⟨g, o, s⟩ → 0 < len → g < W.heap.size := fun g o s e h0 => by
      rcases hz.2 with h | ⟨b, off, e', hc⟩
      · omega
      · rw [e] at e'
        cases e'
        exact block_lt_of_cell (hc 0 h0)
    clear hR hy0 hb0 hk3 hO3 hBs
    gi_wp2
    refine ⟨trivial, wide_deep, (feeds_in Fence.wide (n - 1) trivial rfl a len cap W3).mono ?_⟩
    rintro e w4 ⟨rfl, rfl⟩
    obtain ⟨W4, hW4⟩ : ∃ W4, W3.alloc (.cells #[.slice a len cap] 22) = W4 := ⟨_, rfl⟩
    have hs4 : W4.heap.size = W3.heap.size + 1 := by rw [← hW4]; simp
    have hq4 : W4.cell? ⟨W3.heap.size, 0, none⟩ = some (.slice a len cap) := by rw [← hW4]; exact (cell_new_l W3 _ _).1
    have hz4 : Byt W4 a len z := by rw [← hW4]; exact hz3.alloc _
    have hb4 : W4.heap[W.heap.size]? = some (.cells #[.func (.yield l) #[] #[]] 84 (0, 0)) := by rw [← hW4]; exact (Below.heap_alloc _ _ _ (by omega)).trans hb3
    have hS4 : Still W.heap.size W3 W4 := by rw [← hW4]; exact (Still.refl _ _).alloc _
    rw [hW4]
    have hGood4 : BGood W.heap.size W3.heap.size l a len O' W4 := ⟨hb4, by omega, fun k hk => ⟨by have := (hO4 k hk).2; omega, fun e => by
        rcases (hO4 k hk).1 with h | h
        · have := (hO0 k h).2; omega
        · omega, fun e => by have := (hO4 k hk).2; omega, fun h0 o s e => by
        rcases (hO4 k hk).1 with h | h
        · exact (hO0 k h).1 (.inr ⟨h0, o, s, e⟩)
        · have := haW _ _ _ e h0; omega⟩⟩
    have hI0 : BI J W.heap.size W3.heap.size l a len ([], O') W4 := ⟨⟨W3, hJ3, hS4⟩, hGood4⟩
    have hseq := feeds_seq (n - 1) W3.heap.size a len cap z hlen W4 hq4 hz4
    clear hz3 hb3 hS4 hb4 hz4 hq4 hW4 hJ3 h0
    gi_wp2
    refine wpIn_rangeFunc_N rfl (by omega) (gf := 37) (lb := #[.pointer (some ⟨W3.heap.size, 0, none⟩)]) rfl trivial (enters_of Try.func37 (by kernel_rfl) rfl)
      hseq (fun _ _ _ _ h => by rw [h.1]; exact KeepsTo.refl _ _) (fun _ _ _ h => by rw [h.1]; exact KeepsTo.refl _ _) (fun _ _ _ h => by rw [h.1]; exact KeepsTo.refl _ _) (Below.refl _ _) (fun _ => rfl)
      (BI J W.heap.size W3.heap.size l a len) (fun c pre X => c = .ret ∧ ∃ A, Jx (0 :: pre.map (· + 1)) A ∧ Still W.heap.size A X)
      (fun s x X => BI J W.heap.size W3.heap.size l a len s X ∧ s.1 = fd (isF z) x ∧ isF z x = true ∧ x < len)
      (fun xs X => (∃ O A, J (0 :: xs.map (· + 1), O) A ∧ Still W.heap.size A X) ∧ xs = fd (isF z) len)
      (fun c pre X => c = .ret ∧ (∃ A, Jx (0 :: pre.map (· + 1)) A ∧ Still W.heap.size A X) ∧ ∃ x, x < len ∧ isF z x = true ∧ pre = fd (isF z) x ++ [x])
      (BI.own (by omega)) ?ix ?ee ?ex ?mid ?eend ?xend O' ?o0 hI0
      (fun s x a' X => a' = { tmps := #[.func (.yield l) #[] #[], .pointer (some ⟨Bs, 0, none⟩), .pointer (some ⟨W.heap.size, 0, none⟩), .int .i64 (x : Int), .func (.yield l) #[] #[], .bool true, .bool false, .slice a len cap, .func (.func 37) #[] #[.pointer (some ⟨W3.heap.size, 0, none⟩)], .int .i64 (x : Int), undef, undef, undef, undef, undef], defers := [] } ∧
        BI J W.heap.size W3.heap.size l a len s X ∧ s.1 = fd (isF z) x ∧ isF z x = true ∧ x < len) ?m2 ?assign ?body ?done ?stop
    case ix =>
      rintro c pre X Y row ⟨rfl, A, h1, h2⟩ hg hr
      exact ⟨rfl, A, h1, h2.grown hg (fun r e => ⟨by have := (hr r e).1; omega, (hr r e).2⟩)⟩
    case ee =>
      rintro xs X Y row ⟨⟨O, A, h1, h2⟩, h3⟩ hg hr
      exact ⟨⟨O, A, h1, h2.grown hg (fun r e => ⟨by have := (hr r e).1; omega, (hr r e).2⟩)⟩, h3⟩
    case ex =>
      rintro c pre X Y row ⟨rfl, ⟨A, h1, h2⟩, h3⟩ hg hr
      exact ⟨rfl, ⟨A, h1, h2.grown hg (fun r e => ⟨by have := (hr r e).1; omega, (hr r e).2⟩)⟩, h3⟩
    case mid =>
      rintro pre O x A B hi ⟨rfl, h1, h2, h3⟩
      exact ⟨hi, h1, h2, h3⟩
    case eend =>
      rintro xs O A B hi ⟨rfl, h1⟩
      obtain ⟨⟨A0, h2, h3⟩, _⟩ := hi
      exact ⟨⟨O, A0, h2, h3⟩, h1⟩
    case xend =>
      rintro c pre A B ⟨rfl, h1⟩ ⟨rfl, h2⟩
      exact ⟨rfl, h1, h2⟩
    case o0 =>
      intro k hk
      obtain ⟨h1, h2, h3, h4⟩ := hGood4.2.2 k hk
      exact ⟨fun h => by
        rcases h with h | ⟨h0, o, s, e⟩
        · exact h3 h
        · exact h4 h0 o s e, h1⟩
    case m2 =>
      rintro x a' s X Y row ⟨h1, h2, h3⟩ hg hr
      exact ⟨h1, BI.own (by omega) s X Y row h2 hg hr, h3⟩
    case assign =>
      intro l' pre O x X K hM hK
      have HK := hide (hK _ X ((KeepsFrom.refl _ _)) (KeptO.refl _ _) ⟨rfl, hM⟩)
      clear hK hseq hM
      simp only [encN]
      gi_wp2
      exact HK.out
    case body =>
      rintro l' pre O x a' X ⟨rfl, ⟨⟨A, hJ, hS⟩, hGd⟩, hpre, hx, hxl⟩
      simp only at hpre
      have hp1 : (0 :: pre.map (· + 1)) ++ [x + 1] <+: bg z len := by
        show 0 :: (pre.map (· + 1) ++ [x + 1]) <+: 0 :: (fd (isF z) len).map (· + 1)
        rw [hpre, show (fd (isF z) x).map (· + 1) ++ [x + 1] = (fd (isF z) (x + 1)).map (· + 1) from by rw [fd_yes hx]; simp]
        obtain ⟨t, ht⟩ := fd_prefix (isF z) (show x + 1 ≤ len by omega)
        exact ⟨t.map (· + 1), by rw [← ht]; simp⟩
      obtain ⟨fn, tmps, assign, body, hy, hR⟩ := hY (0 :: pre.map (· + 1)) O (x + 1) A X hJ ⟨hS, hp1⟩
      have hy1 : (Instr.yield l #[.int .i64 ((x : Int) + 1)]).run Try.prog X = .ok (.round l fn tmps assign body) X := hy
      have hGd' := hGd
      obtain ⟨hb, hqN, hOO⟩ := hGd'
      obtain ⟨d0, df0⟩ := hcell1 hb
      have HB := hide hb
      have hx0 : (x : Int) + 1 ≤ 9223372036854775807 := by omega
      have hsX : W4.heap.size ≤ X.heap.size ∨ True := .inr trivial
      clear hy hseq hb hI0 hGood4 hpre hx hp1 hS hJ hsX
      gi_wp2
      refine ⟨wide_deep, (RoundIn.deep hR _ _).mono ?_⟩
      rintro e W5 (⟨rfl, ⟨O5, hJ5, hk5, hO5⟩, hf5⟩ | ⟨rfl, hJx5, hf5⟩)
      · gi_wp2
        refine ⟨⟨hf5.size, fun k o hB => hf5.same k o (by omega)⟩, O5, ⟨⟨W5, ?_, Still.refl _ _⟩, hGd.step hk5 hO5 (fun g o s e h0 => by have := haW g o s e h0; have := block_lt HB.out; omega)⟩, hk5, hO5⟩
        rw [List.map_append]
        exact hJ5
      · gi_wp2
        refine ⟨⟨hf5.size, fun k o hB => hf5.same k o (by omega)⟩, rfl, W5, ?_, Still.refl _ _⟩
        rw [List.map_append]
        exact hJx5
    case done =>
      rintro D xs X hD ⟨⟨O, A, h1, h2⟩, h3⟩ hKD
      clear hseq hI0
      gi_wp2
      refine ⟨by simp, .inl ⟨D, _, rfl, run_takeDeferred hKD, ?_⟩⟩
      exact ⟨_, results_none rfl _ _ _, ⟨_, rfl⟩, by rw [h3] at h1; exact .inl ⟨_, O, A, h1, h2.grown (grownBy_putObj' X D _) (fun r e => by cases e; exact ⟨by omega, _, hKD, rfl⟩), rfl⟩⟩
    case stop =>
      rintro D c pre X hD ⟨rfl, ⟨A, h1, h2⟩, x, hx, hf, hp⟩ hKD
      clear hseq hI0
      gi_wp2
      refine ⟨by simp, .inl ⟨D, _, rfl, run_takeDeferred hKD, ?_⟩⟩
      exact ⟨_, results_none rfl _ _ _, ⟨_, rfl⟩, by
        refine .inr ⟨_, A, h1, h2.grown (grownBy_putObj' X D _) (fun r e => by cases e; exact ⟨by omega, _, hKD, rfl⟩), ?_, by simp⟩
        rw [hp, ← fd_yes hf]
        obtain ⟨t, ht⟩ := fd_prefix (isF z) (show x + 1 ≤ len by omega)
        exact ⟨t.map (· + 1), by unfold bg; rw [← ht]; simp⟩⟩
  · gi_wp2
    exact ⟨_, results_none rfl _ _ _, ⟨_, rfl⟩, .inr ⟨_, W3, hJx3, Still.refl _ _, ⟨(fd (isF z) len).map (· + 1), rfl⟩, by simp⟩⟩

theorem begins_seq (n : Nat) (hn : 9 ≤ n) (Bs : Nat) (a : Option Addr) (len cap : Nat) (z : Nat → Nat) (hlen : len ≤ 140737488355328) (w : World) (hBs : w.cell? ⟨Bs, 0, none⟩ = some (.slice a len cap)) (hz : Byt w a len z) :
    SeqN Fence.wide n Try.prog 35 #[.pointer (some ⟨Bs, 0, none⟩)] encN (GBeg z len) (ksOf Bs a len) (SBeg z len) (SpBeg z len) w := fun l J Jx W O0 hW hl hO0 hY h0 =>
  begins1_in n l Bs hn a len cap z hlen J Jx W hl hY O0 hO0 (cell_thru hBs hW) (hz.below hW) h0
end Go.Proofs.Yteanibapabafnaa
