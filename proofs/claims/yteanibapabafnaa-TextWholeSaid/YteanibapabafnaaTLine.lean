/-
  slices.Values of numbers; text.Line.
-/
import Derived.Test.YteanibapabafnaaTIter
import Derived.Test.YteanibapabafnaaAppendIn
import Derived.Test.YteanibapabafnaaLentI
namespace Go.Proofs.Yteanibapabafnaa
open Go.RowKit Go.Shelf

attribute [local go_sem] Oper.semAt_some

theorem KeptO.ints {O : Nat → Prop} {A B : World} (h : KeptO O A B) {a : Option Addr} {len : Nat} {z : Nat → Int} (hz : Ints A a len z) (ha : ∀ g o s, a = some ⟨g, o, s⟩ → 0 < len → g < A.heap.size → ¬ O g) : Ints B a len z := by
  rcases hz with h0 | ⟨b, off, e, hc⟩
  · exact .inl h0
  · exact .inr ⟨b, off, e, fun i hi => h.cell (ha b off none e (by omega) (block_lt_of_cell (hc i hi))) (hc i hi)⟩
set_option maxHeartbeats 1000000 in
theorem values_in (F : Fence) (n : Nat) (hF : F.fn 26) (hro : F.round = none) (a : Option Addr) (len cap : Nat) (w : World) :
    CallsIn F n Try.prog 26 #[.slice a len cap] w fun e w' => e = .returned (.func (.func 36) #[] #[.pointer (some ⟨w.heap.size, 0, none⟩)]) ∧ w' = w.alloc (.cells #[.slice a len cap] 23) := by
  refine callsIn_of_wp Try.func26 rfl hF ?_ hro
  simp only [Try.ntmps26, List.size_toArray, List.length_cons, List.length_nil, Nat.reduceAdd, Nat.reduceSub, Array.replicate_succ, Array.replicate_zero, List.push_toArray, List.append_toArray, List.nil_append, List.cons_append]
  gi_wp2
  go_ret
  exact ⟨rfl, rfl⟩

/-- What comes: the numbers by their index. -/
def encZ (z : Nat → Int) (k : Nat) : Array Value := #[.int .i64 (z k)]
def GVal (len : Nat) (_ : Nat) (pre : List Nat) (A : World) (x : Nat) (B : World) : Prop := A = B ∧ pre = List.range x ∧ x < len
def SVal (len : Nat) (_ : Nat) (xs : List Nat) (A B : World) : Prop := A = B ∧ xs = List.range len
def SpVal (len : Nat) (_ : Nat) (pre : List Nat) (A B : World) : Prop := A = B ∧ ∃ x, x < len ∧ pre = List.range (x + 1)

set_option maxRecDepth 100000 in
set_option maxHeartbeats 2000000 in
theorem values1_in (n l Bs N : Nat) (a : Option Addr) (len cap : Nat) (z : Nat → Int) (hlen : len ≤ 140737488355328) (J : List Nat × (Nat → Prop) → World → Prop) (Jx : List Nat → World → Prop)
    (hY : ∀ pre O x A B, J (pre, O) A → GVal len N pre A x B → YieldAt Fence.wide (n - 1) Try.prog l (encZ z x) B fun e W' =>
      (e = .returned (.bool true) ∧ (∃ O', J (pre ++ [x], O') W' ∧ KeptO O B W' ∧ ∀ k, O' k → (O k ∨ B.heap.size ≤ k) ∧ k < W'.heap.size) ∧ KeepsFrom (l + 1) B W') ∨ (e = .returned (.bool false) ∧ Jx (pre ++ [x]) W' ∧ KeepsFrom (l + 1) B W'))
    (W : World) (O0 : Nat → Prop) (hO0 : ∀ k, O0 k → ¬ ksOf Bs a len k ∧ k < W.heap.size) (hBs : W.cell? ⟨Bs, 0, none⟩ = some (.slice a len cap)) (hz : Ints W a len z) (h0 : J ([], O0) W) :
    CallsIn Fence.wide n Try.prog 36 #[.func (.yield l) #[] #[], .pointer (some ⟨Bs, 0, none⟩)] W fun e W' => (∃ v, e = .returned v) ∧
      ((∃ xs O A, J (xs, O) A ∧ SVal len N xs A W') ∨ (∃ pre A, Jx pre A ∧ SpVal len N pre A W')) := by
  have hO1 : ∀ k, k < W.heap.size → O0 k → 0 < len → ∀ o s, a ≠ some ⟨k, o, s⟩ := fun k _ hk hl o s e => (hO0 k hk).1 (.inr ⟨hl, o, s, e⟩)
  clear hO0
  refine callsIn_of_wp Try.func36 rfl trivial ?_ rfl
  simp only [Try.ntmps36, List.size_toArray, List.length_cons, List.length_nil, Nat.reduceAdd, Nat.reduceSub, Array.replicate_succ, Array.replicate_zero, List.push_toArray, List.append_toArray, List.nil_append, List.cons_append]
  gi_wp2
  gi_loopg [7] len (fun q s7 wr => ∃ (k : Nat) (O : Nat → Prop), k + q = len ∧ s7 = .int .i64 k ∧ Ints wr a len z ∧ J (List.range k, O) wr ∧ W.heap.size ≤ wr.heap.size ∧ (∀ k, k < W.heap.size → O k → 0 < len → ∀ o s, a ≠ some ⟨k, o, s⟩) ∧ ∀ g o s, a = some ⟨g, o, s⟩ → 0 < len → g < W.heap.size)
  case atStart =>
    refine ⟨0, O0, by omega, rfl, hz, h0, Nat.le_refl _, hO1, fun g o s e hl => ?_⟩
    rcases hz with h | ⟨b, off, e', hc⟩
    · omega
    · rw [e] at e'
      cases e'
      exact block_lt_of_cell (hc 0 hl)
  case round =>
    obtain ⟨k, O, hkq, rfl, hzr, hJ, hsz, hO, hlt⟩ := hrel
    have HO := hide hO
    have HLT := hide hlt
    clear hz h0 hO1 hO hlt
    cases gk with
    | zero =>
      obtain rfl : k = len := by omega
      clear hzr hY
      gi_wp2
      go_end0
      exact ⟨⟨_, rfl⟩, .inl ⟨_, O, wr, hJ, rfl, rfl⟩⟩
    | succ q =>
      have hkl : k < len := by omega
      have hk1 : (k : Int) < (len : Int) := by omega
      obtain ⟨b, off, rfl, hc⟩ := hzr.cell (by omega)
      have hck := hc k hkl
      clear hc
      obtain ⟨fn, tmps, assign, body, hy, hR⟩ := hY _ O k wr wr hJ ⟨rfl, rfl, hkl⟩
      have HZ := hide hzr
      clear hzr hY
      simp only [encZ] at hy
      gi_wp2
      refine ⟨wide_deep, hR.mono ?_⟩
      rintro e W3 (⟨rfl, ⟨O', hJ3, hk3, hO3⟩, _⟩ | ⟨rfl, hJx3, _⟩)
      · gi_wp2
        gi_roundg q
        case measure => omega
        case rel =>
          have hs3 := hk3.size
          refine ⟨k + 1, O', by omega, by go_num, hk3.ints HZ.out (fun g o s e h0 hg hOg => HO.out g (HLT.out g o s e h0) hOg h0 o s e), by rw [List.range_succ]; exact hJ3, by omega, fun i hi hOi hl o s e => ?_, HLT.out⟩
          rcases (hO3 i hOi).1 with h | h
          · exact HO.out i hi h hl o s e
          · omega
      · gi_wp2
        refine bodyPost_ret (results_none rfl _ _ _) rfl ?_
        exact ⟨⟨_, rfl⟩, .inr ⟨_, W3, hJx3, rfl, k, hkl, by rw [List.range_succ]⟩⟩

theorem values_seq (n : Nat) (Bs : Nat) (a : Option Addr) (len cap : Nat) (z : Nat → Int) (hlen : len ≤ 140737488355328) (w : World) (hBs : w.cell? ⟨Bs, 0, none⟩ = some (.slice a len cap)) (hz : Ints w a len z) :
    SeqN Fence.wide n Try.prog 36 #[.pointer (some ⟨Bs, 0, none⟩)] (encZ z) (GVal len) (ksOf Bs a len) (SVal len) (SpVal len) w := fun l J Jx W O0 hW _ hO0 hY h0 =>
  values1_in n l Bs W.heap.size a len cap z hlen J Jx hY W O0 hO0 (cell_thru hBs hW) (hz.below hW) h0

/-- Between two rounds of Line. -/
def LnI (w0 : World) (Ba Bn : Nat) (z : Nat → Int) (at_ : Int) (s : List Nat × (Nat → Prop)) (X : World) : Prop :=
  Boxed X Ba 3 (.int .i64 at_) ∧ Boxed X Bn 3 (.int .i64 (s.1.length : Nat)) ∧ (∀ k, s.2 k ↔ k = Bn) ∧ (∀ i, i < s.1.length → z i ≤ at_) ∧ Below w0.heap.size w0 X
theorem LnI.own {w0 : World} {Ba Bn : Nat} {z : Nat → Int} {at_ : Int} {N : Nat} (hN : w0.heap.size ≤ N) : OwnFrom N (LnI w0 Ba Bn z at_) := fun _ X _ _ ⟨h1, h2, h3, h4, h5⟩ hg hr => by
  have hs := (Still.refl N X).grown hg hr
  exact ⟨Boxed.still h1 hs, Boxed.still h2 hs, h3, h4, h5.trans (hs.below hN h5.size)⟩
/-- What is told behind the loop. -/
def LnE (w0 : World) (Bn : Nat) (z : Nat → Int) (len : Nat) (at_ : Int) (X : World) : Prop := ∃ m : Nat, Boxed X Bn 3 (.int .i64 (m : Int)) ∧ Lead z len at_ m ∧ Below w0.heap.size w0 X
theorem LnE.own {w0 : World} {Bn len : Nat} {z : Nat → Int} {at_ : Int} {N : Nat} {β : Type} (hN : w0.heap.size ≤ N) : OwnFrom N (fun (_ : β) X => LnE w0 Bn z len at_ X) := fun _ X _ _ ⟨m, h1, h2, h5⟩ hg hr => by
  have hs := (Still.refl N X).grown hg hr
  exact ⟨m, Boxed.still h1 hs, h2, h5.trans (hs.below hN h5.size)⟩

set_option maxRecDepth 100000 in
set_option maxHeartbeats 2000000 in
theorem line_in (n : Nat) (hn : 20 ≤ n) (a : Option Addr) (len cap : Nat) (z : Nat → Int) (at_ : Int) (w : World) (hlen : len ≤ 140737488355328) (hz : Ints w a len z) :
    CallsIn Fence.wide n Try.prog 13 #[.slice a len cap, .int .i64 at_] w fun e w' => ∃ m : Nat, e = .returned (.int .i64 (m : Int)) ∧ Lead z len at_ m ∧ Below w.heap.size w w' := by
  obtain ⟨W1, hW1⟩ : ∃ W1, (w.alloc (.cells #[.int .i64 at_] 3)).alloc (.cells #[.int .i64 0] 3) = W1 := ⟨_, rfl⟩
  have hs1 : W1.heap.size = w.heap.size + 2 := by rw [← hW1]; simp
  have hB1 : Below w.heap.size w W1 := by rw [← hW1]; exact below_step (below_alloc _ _) _
  have hba : Boxed W1 w.heap.size 3 (.int .i64 at_) := by rw [← hW1]; exact (Boxed.new w _ _).alloc _
  have hbn : Boxed W1 (w.heap.size + 1) 3 (.int .i64 0) := by rw [← hW1]; have := Boxed.new (w.alloc (.cells #[.int .i64 at_] 3)) 3 (.int .i64 0); rwa [World.size_alloc] at this
  obtain ⟨W2, hW2⟩ : ∃ W2, W1.alloc (.cells #[.slice a len cap] 23) = W2 := ⟨_, rfl⟩
  have hs2 : W2.heap.size = W1.heap.size + 1 := by rw [← hW2]; simp
  have hB2 : Below W1.heap.size W1 W2 := by rw [← hW2]; exact below_alloc _ _
  have hbs : W2.cell? ⟨W1.heap.size, 0, none⟩ = some (.slice a len cap) := by rw [← hW2]; exact (cell_new_l W1 _ _).1
  have hBw : Below w.heap.size w W2 := below_thru hB1 hB2
  have hseq := values_seq (n - 1) W1.heap.size a len cap z hlen W2 hbs (hz.below hBw)
  have hI0 : LnI w w.heap.size (w.heap.size + 1) z at_ ([], fun k => k = w.heap.size + 1) W2 :=
    ⟨by rw [← hW2]; exact hba.alloc _, by rw [← hW2]; exact hbn.alloc _, fun k => Iff.rfl, fun i hi => by simp at hi, hBw⟩
  have hks : ∀ k, k = w.heap.size + 1 → ¬ ksOf W1.heap.size a len k ∧ k < W2.heap.size := fun k hk => ⟨fun h => by
    rcases h with h | ⟨h0, o, s, e⟩
    · omega
    · rcases hz with h | ⟨b, off, e', hc⟩
      · omega
      · rw [e] at e'
        cases e'
        have := block_lt_of_cell (hc 0 h0)
        simp only at this
        omega, by omega⟩
  have HS := hide (And.intro hs1 hs2)
  have HW1 := hide hW1
  clear hbs hs1 hs2 hba hbn hz hW1
  refine callsIn_of_wp_marks Try.func13 rfl trivial ?_ rfl
  simp only [Try.ntmps13, List.size_toArray, List.length_cons, List.length_nil, Nat.reduceAdd, Nat.reduceSub, Array.replicate_succ, Array.replicate_zero, List.push_toArray, List.append_toArray, List.nil_append, List.cons_append]
  gi_wp2
  apply wpIn_scope
  gi_wp2
  apply wpIn_label
  gi_wp2
  rw [HW1.out]
  refine ⟨trivial, wide_deep, (values_in Fence.wide (n - 1) trivial rfl a len cap _).mono ?_⟩
  rintro e w4 ⟨rfl, rfl⟩
  rw [hW2]
  gi_wp2
  refine wpIn_rangeFunc_N rfl (by omega) (gf := 36) (lb := #[.pointer (some ⟨W1.heap.size, 0, none⟩)]) rfl trivial (enters_of Try.func36 (by kernel_rfl) rfl)
    hseq (fun _ _ _ _ h => by rw [h.1]; exact KeepsTo.refl _ _) (fun _ _ _ h => by rw [h.1]; exact KeepsTo.refl _ _) (fun _ _ _ h => by rw [h.1]; exact KeepsTo.refl _ _) (Below.refl _ _) (fun _ => rfl)
    (LnI w w.heap.size (w.heap.size + 1) z at_) (fun c pre X => c = .exit 0 ∧ ∃ m, pre.length = m + 1 ∧ Boxed X (w.heap.size + 1) 3 (.int .i64 (m : Nat)) ∧ (∀ i, i < m → z i ≤ at_) ∧ at_ < z m ∧ Below w.heap.size w X)
    (fun s x X => LnI w w.heap.size (w.heap.size + 1) z at_ s X ∧ s.1 = List.range x ∧ x < len)
    (fun _ X => LnE w (w.heap.size + 1) z len at_ X) (fun c _ X => c = .exit 0 ∧ LnE w (w.heap.size + 1) z len at_ X)
    (LnI.own hBw.size) ?ix (LnE.own hBw.size) ?ex ?mid ?eend ?xend (fun k => k = w.heap.size + 1) hks hI0
    (fun s x a' X => a' = { tmps := #[.slice a len cap, .int .i64 at_, undef, .pointer (some ⟨w.heap.size, 0, none⟩), .int .i64 0, .pointer (some ⟨w.heap.size + 1, 0, none⟩), .int .i64 (z x), .slice a len cap, .func (.func 36) #[] #[.pointer (some ⟨W1.heap.size, 0, none⟩)], .int .i64 (z x), undef, undef, undef, undef, undef, undef, undef], defers := [] } ∧
      LnI w w.heap.size (w.heap.size + 1) z at_ s X ∧ s.1 = List.range x ∧ x < len) ?m2 ?assign ?body ?done ?stop
  case ix =>
    rintro c pre X Y row ⟨h0, m, h1, h2, h3, h4, h5⟩ hg hr
    have hs := (Still.refl W2.heap.size X).grown hg hr
    exact ⟨h0, m, h1, Boxed.still h2 hs, h3, h4, h5.trans (hs.below hBw.size h5.size)⟩
  case ex =>
    rintro c pre X Y row ⟨h0, h1⟩ hg hr
    exact ⟨h0, LnE.own (β := List Nat) hBw.size pre X Y row h1 hg hr⟩
  case mid =>
    rintro pre O x A B hi ⟨rfl, h1, h2⟩
    exact ⟨hi, h1, h2⟩
  case eend =>
    rintro xs O A B ⟨h1, h2, h3, h4, h5⟩ ⟨rfl, rfl⟩
    simp only [List.length_range] at h2 h4
    exact ⟨len, h2, ⟨Nat.le_refl _, h4, .inl rfl⟩, h5⟩
  case xend =>
    rintro c pre A B ⟨h0, m, h1, h2, h3, h4, h5⟩ ⟨rfl, x, hx, rfl⟩
    simp only [List.length_range] at h1
    obtain rfl : x = m := by omega
    exact ⟨h0, x, h2, ⟨by omega, h3, .inr h4⟩, h5⟩
  case m2 =>
    rintro x a' s X Y row ⟨h1, h2, h3⟩ hg hr
    exact ⟨h1, LnI.own hBw.size s X Y row h2 hg hr, h3⟩
  case assign =>
    intro l' pre O x X K hM hK
    have HK := hide (hK _ X ((KeepsFrom.refl _ _)) (KeptO.refl _ _) ⟨rfl, hM⟩)
    clear hK hseq hM hI0 hks
    simp only [encZ]
    gi_wp2
    exact HK.out
  case body =>
    rintro l' pre O x a' X ⟨rfl, ⟨hA, hN, hO, hle, hB⟩, hpre, hxl⟩
    simp only at hN hO hle hpre
    have hlen' : pre.length = x := by rw [hpre]; simp
    rw [hlen'] at hN hle
    have c0 := hA.cell
    have f0 := hA.frozen
    have c1 := hN.cell
    have f1 := hN.frozen
    have hwl := hB.size
    have hxb : (x : Int) + 1 ≤ 9223372036854775807 := by omega
    have HP := hide hpre
    have HL := hide hlen'
    have HA := hide hA
    have HN := hide hN
    have HO := hide hO
    have HLE := hide hle
    have HB := hide hB
    clear hA hN hO hle hB hseq hI0 hks hpre hlen' hW2 hB1 hB2
    by_cases hz1 : at_ < z x
    · have hz2 := hide hz1
      generalize z x = y at hz1
      gi_wp2
      refine ⟨KeepsFrom.refl _ _, rfl, x, by simp [HL.out], HN.out, HLE.out, hz2.out, HB.out⟩
    · have hz2 := hide hz1
      have hz3 : z x ≤ at_ := by omega
      have hz4 : Hid (z x ≤ at_) := hz3
      generalize z x = y at hz1 hz3
      gi_wp2
      refine ⟨(KeepsOthers.setCell _ _ _).from _, O, ⟨Boxed.kept HA.out (grownBy_setCell' _ _ _) (fun e => by have := Option.some.inj e; omega), ?_, HO.out, ?_, HB.out.setCell (p := ⟨w.heap.size + 1, 0, none⟩) (by simp) _⟩, (KeptO.of_kept ((Kept.refl (fun k => k = w.heap.size + 1) X).setCell (p := ⟨w.heap.size + 1, 0, none⟩) (.inl rfl) _)).mono (fun k h => (HO.out k).2 h), fun k hk => ⟨.inl hk, ?_⟩⟩
      · have := HN.out.set (.int .i64 ((x : Int) + 1))
        rw [List.length_append, HL.out]
        exact this
      · intro i hi
        rw [List.length_append, HL.out] at hi
        simp only [List.length_cons, List.length_nil, Nat.zero_add] at hi
        rcases Nat.lt_or_ge i x with h | h
        · exact HLE.out i h
        · obtain rfl : i = x := by omega
          exact hz4.out
      · have := (HO.out k).1 hk
        have := HN.out.lt
        simp
        omega
  case done =>
    rintro D xs X hD ⟨m, h1, h2, h3⟩ hKD
    have c0 := h1.cell
    have H2 := hide h2
    have H3 := hide h3
    clear h1 h2 h3 hseq hI0 hks hW2
    gi_wp2
    rw [Exit.noGoto_ret]
    refine ⟨by simp, .inl ⟨D, _, rfl, run_takeDeferred hKD, ?_⟩⟩
    exact ⟨_, results_tmp rfl _ _ _, m, rfl, H2.out, H3.out.trans (belowK_b (w := w) (Nat.le_refl _) X D _ _ (by have := hBw.size; omega) hKD rfl rfl)⟩
  case stop =>
    rintro D c pre X hD ⟨rfl, m, h1, h2, h3⟩ hKD
    have c0 := h1.cell
    have H2 := hide h2
    have H3 := hide h3
    clear h1 h2 h3 hseq hI0 hks hW2
    gi_wp2
    rw [Exit.noGoto_ret]
    refine ⟨by simp, .inl ⟨D, _, rfl, run_takeDeferred hKD, ?_⟩⟩
    exact ⟨_, results_tmp rfl _ _ _, m, rfl, H2.out, H3.out.trans (belowK_b (w := w) (Nat.le_refl _) X D _ _ (by have := hBw.size; omega) hKD rfl rfl)⟩
theorem line_any (a : Option Addr) (len cap : Nat) (z : Nat → Int) (at_ : Int) (w : World) (hlen : len ≤ 140737488355328) (hz : Ints w a len z) :
    Calls Try.prog 13 #[.slice a len cap, .int .i64 at_] w fun e w' => ∃ m : Nat, e = .returned (.int .i64 (m : Int)) ∧ Lead z len at_ m ∧ Below w.heap.size w w' := callsIn_wide.1 (line_in 20 (by omega) a len cap z at_ w hlen hz)
end Go.Proofs.Yteanibapabafnaa
