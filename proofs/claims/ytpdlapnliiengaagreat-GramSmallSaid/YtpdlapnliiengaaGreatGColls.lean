/-
  append onto a boxed row whose elements have several cells, in a round.
-/
import Derived.Test.YtpdlapnliiengaaGreatRangeA
import Derived.Test.YtpdlapnliiengaaGreatRows2
import Derived.Test.YtpdlapnliiengaaGreatGKeyAll
import Derived.Sort.LoopGhostIn
namespace Go.Proofs.YtpdlapnliiengaaGreat
open Go.RowKit

theorem wpListIn_append_footS {F : Fence} {N : Nat} {P : Program} (w : World) {ops : Array Oper} {rest : List Oper} {o : Oper} {a : Act} {Q : Exit → Act → World → Prop} (hgd : o.guard = none) (s x : Operand) (t : TypeId)
    (hop : o.op = .call { callee := .builtin .append, args := #[s, x], argTypes := #[t, t] })
    (e : TypeId) (i : TypeInfo) (z : Value) (size bytes : Nat) (ht : P.underlying t = some (.slice e)) (hi : P.info? e = some i) (hz : i.zero = some z)
    (hsize : i.size = size) (hby : i.bytes = bytes) (hzs : z.cells.size = size) (hsz : 0 < size)
    (base : Nat) (v : Value) (n : Nat) (xs : List Value) (hs : a.eval s = v) (hown : w.ownsRow base e size v n xs)
    (ad : Addr) (m c : Nat) (news : List Value) (hx : a.eval x = .slice (some ad) m c) (hl : news.length = m * size) (hnews : ∀ j u, news[j]? = some u → w.cell? (ad.add j) = some u) (h1 : ∀ u ∈ news, u.oneCell' = true)
    (h63 : n + m ≤ maxLen) (hbytes : (n + m) * bytes ≤ 140737488355328) (hbase : base ≤ w.heap.size)
    (h : ∀ A' C' w', w'.ownsRow base e size (.slice A' (n + m) C') (n + m) (xs ++ news) → Grew w w' v (.slice A' (n + m) C') → wpListIn F N P ops Q rest (a.put o.dst (.slice A' (n + m) C')) w') : wpListIn F N P ops Q (o :: rest) a w := by
  obtain ⟨v', w', hr, h2, h3, _⟩ := run_append_footS (P := P) w t o.type e i z size bytes ht hi hz hsize hby hzs hsz base v n xs hown ad m c news hl hnews h1 h63 hbytes hbase
  obtain ⟨A', C', rfl⟩ := owns_slice h2
  refine wpListIn_plain hgd fun K hK' => ?_
  unfold Oper.wpIn
  refine ⟨?_, ?_⟩
  · simp [Oper.about, hop, resolve, Target.leads, Sem.run_pure]
  · rw [Oper.semAt_plain F _ _ (by rw [hop]; intro c hc'; cases hc')]
    simp [execOp, hop, resolve, invoke, builtin, hs, hx, hr, Result.andThen]
    exact hK' _ _ (h A' C' w' h2 h3)

/-- What an append of one to a box's row leaves, behind the store back. -/
theorem grow_postS {W w1 : World} {size n0 B : Nat} {t e : TypeId} {v v' : Value} {k m : Nat} {xs ys : List Value} {tmp : Obj} (hv : Boxed W B t v) (hte : t ≠ e) (hrow : W.ownsRow n0 e size v k xs)
    (hown : w1.ownsRow n0 e size v' m ys) (hG : Grew (W.alloc tmp) w1 v v') :
    Boxed w1 B t v ∧ Boxed (w1.setCell ⟨B, 0, none⟩ v') B t v' ∧ (w1.setCell ⟨B, 0, none⟩ v').ownsRow n0 e size v' m ys ∧ Kept (fun k => k = B ∨ v.ownBlock = some k) W (w1.setCell ⟨B, 0, none⟩ v') ∧
      ∀ g, v'.ownBlock = some g → (v.ownBlock = some g ∨ W.heap.size ≤ g) ∧ g < (w1.setCell ⟨B, 0, none⟩ v').heap.size := by
  have hnr := hv.not_row hte hrow
  have hka : Kept (fun k => v.ownBlock = some k) W (W.alloc tmp) := (Kept.of_below (F := fun _ => False) (below_alloc W tmp)).mono (fun _ _ h => h.elim)
  have hk1 : Kept (fun k => v.ownBlock = some k) W w1 := hka.trans (hG.kept (fun _ h => h)) (fun _ _ h => h)
  have hb1 : Boxed w1 B t v := hk1.heap hv (fun e => hnr e.symm)
  have hlt1 := hb1.lt
  have hsz : (w1.setCell ⟨B, 0, none⟩ v').heap.size = w1.heap.size := by simp
  refine ⟨hb1, hb1.set v', hown.kept (grownBy_setCell' w1 B v') (.inr (hb1.not_row hte hown).symm), (hk1.mono (fun _ _ h => .inr h)).setCell (.inl (.inl rfl)) v', fun g hg => ⟨?_, by rw [hsz]; exact (owns_cells hown g hg).1⟩⟩
  rcases hG.foot (F := fun k => v.ownBlock = some k) (fun _ h => h) g hg with h | ⟨h, _⟩
  · exact .inl h
  · rw [World.size_alloc] at h
    exact .inr (by omega)
end Go.Proofs.YtpdlapnliiengaaGreat

/-
  slices.AppendSeq, slices.Collect of grams.
-/
namespace Go.Proofs.YtpdlapnliiengaaGreat
open Go.RowKit Go.Shelf

attribute [local go_sem] Oper.semAt_some

/-- The cells of grams. -/
def gcl (xs : List Nat) : List Value := xs.flatMap gl
theorem gcl_snoc (xs : List Nat) (x : Nat) : gcl (xs ++ [x]) = gcl xs ++ gl x := by simp [gcl]
theorem info_gram : (Tryz.prog.info? 51).map (fun i => (i.zero, i.size, i.bytes)) = some (some (.agg #[.int .u8 0, .int .u8 0, .int .u8 0]), 3, 3) := by kernel_rfl

/-- Between two rounds of AppendSeq. -/
def ApG (w0 : World) (B : Nat) (s : List Nat × (Nat → Prop)) (X : World) : Prop :=
  ∃ v, Boxed X B 52 v ∧ X.ownsRow w0.heap.size 51 3 v s.1.length (gcl s.1) ∧ (∀ k, s.2 k ↔ k = B ∨ v.ownBlock = some k) ∧ Below w0.heap.size w0 X
theorem ApG.still {w0 : World} {B N : Nat} {s : List Nat × (Nat → Prop)} {X Y : World} (h : ApG w0 B s X) (hs : Still N X Y) (hN : w0.heap.size ≤ N) : ApG w0 B s Y := by
  obtain ⟨v, h1, h2, h3, h4⟩ := h
  exact ⟨v, Boxed.still h1 hs, owns_still h2 hs, h3, h4.trans (hs.below hN h4.size)⟩
theorem ApG.own {w0 : World} {B N : Nat} (hN : w0.heap.size ≤ N) : OwnFrom N (ApG w0 B) := fun _ X _ _ h hg hr => h.still ((Still.refl N X).grown hg hr) hN

set_option maxRecDepth 100000 in
set_option maxHeartbeats 2000000 in
theorem gappend_in (n : Nat) (hn : 9 ≤ n) (gf : Nat) (lb : Array Value) (eg : ∀ args w, (callFunc gf args).run Tryz.prog w = .ok (.enter gf args) w) (G : Nat → List Nat → World → Nat → World → Prop) (ks : Nat → Prop) (S Sp : Nat → List Nat → World → World → Prop) (w : World)
    {Lv : World → Prop} (hLv : ∀ X, Below w.heap.size w X → Lv X) (hseq : SeqL Fence.wide (n - 1) Tryz.prog gf lb encK G ks S Sp Lv w) (M : Nat) (hM : M ≤ 14073748835532) (Sx : List Nat → Prop)
    (hG : ∀ N pre x A B, G N pre A x B → Still N A B ∧ pre.length < M) (hS : ∀ N xs A B, S N xs A B → Still N A B ∧ Sx xs) (hSp : ∀ N xs A B, Sp N xs A B → Still N A B) (hks : ∀ k, ks k → k ≠ w.heap.size) :
    CallsIn Fence.wide n Tryz.prog 90 #[.slice none 0 0, .func (.func gf) #[] lb] w fun e w' => ∃ (v : Value) (xs : List Nat), e = .returned v ∧ Sx xs ∧ w'.ownsRow w.heap.size 51 3 v xs.length (gcl xs) ∧ Below w.heap.size w w' := by
  obtain ⟨i0, hi, hq0, hq1, hq2⟩ := info_parts info_gram
  refine callsIn_of_wp_marks Tryz.func90 rfl trivial ?_ rfl
  simp only [Tryz.ntmps90, List.size_toArray, List.length_cons, List.length_nil, Nat.reduceAdd, Nat.reduceSub, Array.replicate_succ, Array.replicate_zero, List.push_toArray, List.append_toArray, List.nil_append, List.cons_append]
  obtain ⟨W1, hW1⟩ : ∃ W1, w.alloc (.cells #[.slice none 0 0] 52) = W1 := ⟨_, rfl⟩
  have hs1 : W1.heap.size = w.heap.size + 1 := by rw [← hW1]; simp
  have hB1 : Below w.heap.size w W1 := by rw [← hW1]; exact below_alloc _ _
  have hI0 : ApG w w.heap.size ([], fun k => k = w.heap.size) W1 := ⟨_, by rw [← hW1]; exact Boxed.new _ _ _, World.ownsRow_nil _ _ _ _, fun k => by simp [Value.ownBlock], hB1⟩
  have HS1 := hide hs1
  have HSEQ := hide hseq
  clear hs1 hseq
  gi_wp2
  refine wpIn_rangeFunc_L rfl (by omega) (gf := gf) (lb := lb) rfl trivial eg HSEQ.out (fun pre x A B h => (hG _ _ _ _ _ h).1.to) (fun xs A B h => (hS _ _ _ _ h).1.to) (fun xs A B h => (hSp _ _ _ _ h).to) hB1 (fun _ => rfl)
    (ApG w w.heap.size) (fun _ _ _ => False) (fun s x X => ApG w w.heap.size s X ∧ s.1.length < M) (fun xs X => (∃ O, ApG w w.heap.size (xs, O) X) ∧ Sx xs) (fun _ _ _ => False)
    (fun s W h => hLv _ h.choose_spec.2.2.2) (ApG.own hB1.size) (fun _ _ _ _ _ h _ _ => h) ?ee (fun _ _ _ _ _ h _ _ => h) (fun pre O x A B h g => ⟨h.still (hG _ _ _ _ _ g).1 (by have := hB1.size; omega), (hG _ _ _ _ _ g).2⟩) (fun xs O A B h g => ⟨⟨O, h.still (hS _ _ _ _ g).1 (by have := hB1.size; omega)⟩, (hS _ _ _ _ g).2⟩) (fun _ _ _ _ h _ => h)
    (fun k => k = w.heap.size) (fun k hk => ⟨fun h => hks k h hk, by have := HS1.out; omega⟩) hI0
    (fun s x a' X => ∃ p, a' = { tmps := #[.slice none 0 0, .func (.func gf) #[] lb, .pointer (some ⟨w.heap.size, 0, none⟩), undef, .slice none 0 0, .pointer (some ⟨p, 0, none⟩), .func (.func gf) #[] lb, gv x, undef, undef, undef, undef, undef], defers := [] } ∧ X.heap[p]? = some (.cells (gl x).toArray 51 (0, 0)) ∧ ApG w w.heap.size s X ∧ s.1.length < M)
    ?m2 ?assign ?body ?done (fun _ _ _ _ _ h _ => h.elim)
  case ee =>
    rintro xs X Y row ⟨⟨O, h1⟩, h2⟩ hg hr
    exact ⟨⟨O, ApG.own hB1.size _ X Y row h1 hg hr⟩, h2⟩
  case m2 =>
    rintro x a' s X Y row ⟨p, h1, hp, h2, h3⟩ hg hr
    exact ⟨p, h1, ((Still.refl W1.heap.size X).grown hg hr).cells _ _ _ _ hp, ApG.own hB1.size _ X Y row h2 hg hr, h3⟩
  case assign =>
    intro l' pre O x X K hM2 hK
    have HK := hide (hK { tmps := #[.slice none 0 0, .func (.func gf) #[] lb, .pointer (some ⟨w.heap.size, 0, none⟩), undef, .slice none 0 0, .pointer (some ⟨X.heap.size, 0, none⟩), .func (.func gf) #[] lb, gv x, undef, undef, undef, undef, undef], defers := [] } (X.alloc (.cells (gl x).toArray 51)) ⟨by simp, fun k o _ hk _ => (Below.heap_alloc _ _ k (Array.getElem?_eq_some_iff.1 hk).1).trans hk⟩ (KeptO.of_still ((Still.refl 0 X).alloc _) _) ⟨X.heap.size, rfl, World.alloc_heap_new _ _, hM2.1.still ((Still.refl W1.heap.size X).alloc _) hB1.size, hM2.2⟩)
    clear hK hM2 hI0
    simp only [encK]
    unfold gv gl at HK ⊢
    generalize x / 65536 = d0 at *
    generalize x / 256 % 256 = d1 at *
    generalize x % 256 = d2 at *
    gi_wp2
    exact HK.out
  case body =>
    rintro l' pre O x a' X ⟨p, rfl, hp, ⟨v, hv, hrow, hO, hB⟩, hlen⟩
    simp only at hrow hO hlen
    have hc0 := hv.cell
    have hf0 := hv.frozen
    have hp0 : X.cell? ⟨p, 0, none⟩ = some (.int .u8 ((x / 65536 : Nat) : Int)) := by rw [cell_of_row _ _ _ _ _ _ hp]; rfl
    have hp1 : X.cell? ⟨p, 1, none⟩ = some (.int .u8 ((x / 256 % 256 : Nat) : Int)) := by rw [cell_of_row _ _ _ _ _ _ hp]; rfl
    have hp2 : X.cell? ⟨p, 2, none⟩ = some (.int .u8 ((x % 256 : Nat) : Int)) := by rw [cell_of_row _ _ _ _ _ _ hp]; rfl
    have hnew : ∀ j u, (gl x)[j]? = some u → (X.alloc (.cells (gl x).toArray 51)).cell? ((⟨X.heap.size, 0, none⟩ : Addr).add j) = some u := fun j u h => by rw [show (⟨X.heap.size, 0, none⟩ : Addr).add j = ⟨X.heap.size, j, none⟩ by unfold Addr.add; split <;> simp_all]; exact gl_cells X x _ j u h
    have hone : ∀ u ∈ gl x, u.oneCell' = true := fun u hu => by simp [gl] at hu; rcases hu with rfl | rfl | rfl <;> rfl
    have hrA := owns_thruS hrow (below_alloc X (.cells (gl x).toArray 51))
    have hsz := hB.size
    have hsn := gcl_snoc pre x
    have HI0 := hide hI0
    have HV := hide hv
    have HR := hide hrow
    have HO := hide hO
    have HB := hide hB
    have HHB := hide hB1
    clear hI0 hv hrow hO hB hB1 hW1 hp
    unfold gv
    unfold gl at hnew hone hrA hsn ⊢
    generalize x / 65536 = d0 at *
    generalize x / 256 % 256 = d1 at *
    generalize x % 256 = d2 at *
    gi_wp2_with (gi_at_builtin; refine wpListIn_append_footS _ rfl _ _ 52 rfl 51 i0 _ 3 3 Tryz.underlying52 hi hq0 hq1 hq2 rfl (by decide) w.heap.size v pre.length (gcl pre) rfl hrA ⟨X.heap.size, 0, none⟩ 1 1 [.int .u8 (d0 : Nat), .int .u8 (d1 : Nat), .int .u8 (d2 : Nat)] rfl rfl hnew hone (by unfold maxLen; omega) (by omega) (by simp; omega) ?_; intro A' C' w1 hown' hG'; obtain ⟨hv1, hv2, hr2, hk2, ho2⟩ := grow_postS HV.out (by decide) HR.out hown' hG'; have hc1 := hv1.cell; have hf1 := hv1.frozen)
    refine ⟨hk2.keepsOthers.from _, fun k => k = w.heap.size ∨ (Value.slice A' (pre.length + 1) C').ownBlock = some k, ⟨_, hv2, ?_, fun k => Iff.rfl, HB.out.trans (hk2.below (fun k hk => ?_) hsz)⟩, (KeptO.of_kept hk2).mono (fun k h => (HO.out k).2 h), fun k hk => ?_⟩
    · rw [List.length_append, hsn]; exact hr2
    · rcases hk with rfl | hk
      · exact Nat.le_refl _
      · exact (owns_cells HR.out k hk).2.1
    · rcases hk with rfl | hk
      · exact ⟨.inl ((HO.out _).2 (.inl rfl)), hv2.lt⟩
      · obtain ⟨h1 | h1, h2⟩ := ho2 k hk
        · exact ⟨.inl ((HO.out _).2 (.inr h1)), h2⟩
        · exact ⟨.inr h1, h2⟩
  case done =>
    rintro D xs X hD ⟨⟨O, v, hv, hrow, hO, hB⟩, hx⟩ hKD
    have hc0 := hv.cell
    have HI0 := hide hI0
    have HV := hide hv
    have HR := hide hrow
    have HO := hide hO
    have HB := hide hB
    clear hI0 hv hrow hO hB hW1
    gi_wp2
    refine ⟨by simp, .inl ⟨D, _, rfl, run_takeDeferred hKD, ?_⟩⟩
    exact ⟨_, results_tmp rfl _ _ _, v, rfl, xs, hx, ownsRow_putObj HR.out _ hKD rfl, HB.out.trans (belowK_b (w := w) (Nat.le_refl _) X D _ _ (by have := HS1.out; omega) hKD rfl rfl)⟩

set_option maxHeartbeats 1000000 in
theorem gcollect_in (n : Nat) (hn : 10 ≤ n) (gf : Nat) (lb : Array Value) (eg : ∀ args w, (callFunc gf args).run Tryz.prog w = .ok (.enter gf args) w) (G : Nat → List Nat → World → Nat → World → Prop) (ks : Nat → Prop) (S Sp : Nat → List Nat → World → World → Prop) (w : World)
    {Lv : World → Prop} (hLv : ∀ X, Below w.heap.size w X → Lv X) (hseq : SeqL Fence.wide (n - 1 - 1) Tryz.prog gf lb encK G ks S Sp Lv w) (M : Nat) (hM : M ≤ 14073748835532) (Sx : List Nat → Prop)
    (hG : ∀ N pre x A B, G N pre A x B → Still N A B ∧ pre.length < M) (hS : ∀ N xs A B, S N xs A B → Still N A B ∧ Sx xs) (hSp : ∀ N xs A B, Sp N xs A B → Still N A B) (hks : ∀ k, ks k → k ≠ w.heap.size) :
    CallsIn Fence.wide n Tryz.prog 60 #[.func (.func gf) #[] lb] w fun e w' => ∃ (v : Value) (xs : List Nat), e = .returned v ∧ Sx xs ∧ w'.ownsRow w.heap.size 51 3 v xs.length (gcl xs) ∧ Below w.heap.size w w' := by
  have hap := gappend_in (n - 1) (by omega) gf lb eg G ks S Sp w hLv hseq M hM Sx hG hS hSp hks
  refine callsIn_of_wp Tryz.func60 rfl trivial ?_ rfl
  simp only [Tryz.ntmps60, List.size_toArray, List.length_cons, List.length_nil, Nat.reduceAdd, Nat.reduceSub, Array.replicate_succ, Array.replicate_zero, List.push_toArray, List.append_toArray, List.nil_append, List.cons_append]
  gi_wp2
  refine ⟨trivial, wide_deep, hap.mono ?_⟩
  rintro e w1 ⟨v, xs, rfl, h1, h2, h3⟩
  gi_wp2
  go_ret
  exact ⟨v, xs, rfl, h1, h2, h3⟩
end Go.Proofs.YtpdlapnliiengaaGreat
