/-
  lang.Of.
-/
import Derived.Test.YtdjdlkobfmahpaaGreatDoorLOfR
import Derived.Test.YtdjdlkobfmahpaaGreatDoorLRight
namespace Go.Proofs.YtdjdlkobfmahpaaGreatDoor
open Go.RowKit Go.Shelf

attribute [local go_sem] Oper.semAt_some

/-- A path's last part; its language. -/
def lastP (l : List (List UInt8)) : List UInt8 := l.getLast?.getD []
def ofL (L : List UInt8) : List UInt8 := nameL (extL (lastP (partsL L)))
theorem lastP_push (l : List (List UInt8)) (x : List UInt8) : lastP (l ++ [x]) = x := by simp [lastP]
theorem lastP_le (L : List UInt8) : (lastP (partsL L)).length ≤ L.length := by
  unfold lastP
  cases h : (partsL L).getLast? with
  | none => simp
  | some x => exact part_length L x (List.mem_of_getLast? h)
/-- Between two rounds of Of. -/
def OfI (w0 : World) (Br : Nat) (s : List (List UInt8) × (Nat → Prop)) (X : World) : Prop :=
  Boxed X Br 9 (by8 (lastP s.1)) ∧ (∀ k, s.2 k ↔ k = Br) ∧ Below w0.heap.size w0 X
theorem OfI.own {w0 : World} {Br : Nat} {N : Nat} (hN : w0.heap.size ≤ N) : OwnFrom N (OfI w0 Br) := fun _ X _ _ ⟨h2, h3, h5⟩ hg hr => by
  have hs := (Still.refl N X).grown hg hr
  exact ⟨Boxed.still h2 hs, h3, h5.trans (hs.below hN h5.size)⟩
/-- What is told behind the loop. -/
def OfE (w0 : World) (Br : Nat) (L : List UInt8) (X : World) : Prop := Boxed X Br 9 (by8 (lastP (partsL L))) ∧ Below w0.heap.size w0 X
theorem OfE.own {w0 : World} {Br : Nat} {L : List UInt8} {N : Nat} {β : Type} (hN : w0.heap.size ≤ N) : OwnFrom N (fun (_ : β) X => OfE w0 Br L X) := fun _ X _ _ ⟨h1, h5⟩ hg hr => by
  have hs := (Still.refl N X).grown hg hr
  exact ⟨Boxed.still h1 hs, h5.trans (hs.below hN h5.size)⟩

set_option maxRecDepth 100000 in
set_option maxHeartbeats 2000000 in
theorem of_in (n : Nat) (hn : 20 ≤ n) (L : List UInt8) (w : World) (hL : L.length ≤ 1000000) :
    CallsIn Fence.wide n Tryz.prog 15 #[by8 L] w fun e w' => e = .returned (by8 (ofL L)) ∧ Below w.heap.size w w' := by
  obtain ⟨W1, hW1⟩ : ∃ W1, w.alloc (.cells #[.string ⟨#[]⟩] 9) = W1 := ⟨_, rfl⟩
  have hs1 : W1.heap.size = w.heap.size + 1 := by rw [← hW1]; simp
  have hB1 : Below w.heap.size w W1 := by rw [← hW1]; exact below_alloc _ _
  have hbr : Boxed W1 w.heap.size 9 (by8 (lastP [])) := by rw [← hW1]; exact Boxed.new w _ _
  obtain ⟨W2, hW2⟩ : ∃ W2, W1.alloc (.cells #[by8 L] 9) = W2 := ⟨_, rfl⟩
  have hs2 : W2.heap.size = W1.heap.size + 1 := by rw [← hW2]; simp
  have hB2 : Below W1.heap.size W1 W2 := by rw [← hW2]; exact below_alloc _ _
  have hbs : W2.cell? ⟨W1.heap.size, 0, none⟩ = some (by8 L) := by rw [← hW2]; exact (cell_new_l W1 _ _).1
  have hBw : Below w.heap.size w W2 := below_thru hB1 hB2
  have hseq := parts_seq (n - 1) W1.heap.size L hL W2 hbs
  have hI0 : OfI w w.heap.size ([], fun k => k = w.heap.size) W2 := ⟨by rw [← hW2]; exact hbr.alloc _, fun k => Iff.rfl, hBw⟩
  have hks : ∀ k, k = w.heap.size → ¬ (fun _ : Nat => False) k ∧ k < W2.heap.size := fun k hk => ⟨fun h => h, by omega⟩
  have HS := hide (And.intro hs1 hs2)
  have HW1 := hide hW1
  clear hbs hs1 hs2 hbr hW1
  refine callsIn_of_wp_marks Tryz.func15 rfl trivial ?_ rfl
  simp only [Tryz.ntmps15, List.size_toArray, List.length_cons, List.length_nil, Nat.reduceAdd, Nat.reduceSub, Array.replicate_succ, Array.replicate_zero, List.push_toArray, List.append_toArray, List.nil_append, List.cons_append]
  gi_wp2
  rw [HW1.out]
  refine ⟨trivial, wide_deep, (partsOf_in Fence.wide (n - 1) trivial rfl L W1).mono ?_⟩
  rintro e w4 ⟨rfl, rfl⟩
  rw [hW2]
  gi_wp2
  refine wpIn_rangeFunc_N rfl (by omega) (gf := 72) (lb := #[.pointer (some ⟨W1.heap.size, 0, none⟩)]) rfl trivial (enters_of Tryz.func72 (by kernel_rfl) rfl)
    hseq (fun _ _ _ _ h => by obtain ⟨⟨m, rfl⟩, _⟩ := h; exact KeepsTo.of_drewN _ _ _) (fun _ _ _ h => by rw [h.1]; exact KeepsTo.refl _ _) (fun _ _ _ h => by rw [h.1]; exact KeepsTo.refl _ _) (Below.refl _ _) (fun _ => rfl)
    (OfI w w.heap.size) (fun _ _ _ => False)
    (fun s x X => OfI w w.heap.size s X)
    (fun _ X => OfE w w.heap.size L X) (fun _ _ _ => False)
    (OfI.own hBw.size) ?ix (OfE.own hBw.size) ?ex ?mid ?eend ?xend (fun k => k = w.heap.size) hks hI0
    (fun s x a' X => a' = { tmps := #[by8 L, undef, .string ⟨#[]⟩, .pointer (some ⟨w.heap.size, 0, none⟩), by8 x, by8 L, .func (.func 72) #[] #[.pointer (some ⟨W1.heap.size, 0, none⟩)], by8 x, undef, undef, undef, undef, undef, undef], defers := [] } ∧
      OfI w w.heap.size s X) ?m2 ?assign ?body ?done ?stop
  case ix => rintro c pre X Y row h; exact h.elim
  case ex => rintro c pre X Y row h; exact h.elim
  case mid =>
    rintro pre O x A B ⟨h1, h2, h4⟩ ⟨⟨m, rfl⟩, r, hr⟩
    exact ⟨Boxed.drewN h1 m, h2, belowDrewN h4 m⟩
  case eend =>
    rintro xs O A B ⟨h1, h2, h5⟩ ⟨rfl, rfl⟩
    exact ⟨h1, h5⟩
  case xend => rintro c pre A B h; exact h.elim
  case m2 =>
    rintro x a' s X Y row ⟨h1, h2⟩ hg hr
    exact ⟨h1, OfI.own hBw.size s X Y row h2 hg hr⟩
  case assign =>
    intro l' pre O x X K hM hK
    have HK := hide (hK _ X ((KeepsFrom.refl _ _)) (KeptO.refl _ _) ⟨rfl, hM⟩)
    clear hK hseq hM hI0 hks
    simp only [encS]
    gi_wp2
    exact HK.out
  case body =>
    rintro l' pre O x a' X ⟨rfl, ⟨hA, hO, hB⟩⟩
    simp only at hO
    have c0 := hA.cell
    have f0 := hA.frozen
    have HA := hide hA
    have HO := hide hO
    have HB := hide hB
    clear hA hO hB hseq hI0 hks hW2 hB1 hB2
    unfold by8 at c0 ⊢
    gi_wp2
    refine ⟨(KeepsOthers.setCell _ _ _).from _, O, ⟨by rw [lastP_push]; exact HA.out.set (by8 x), HO.out, HB.out.setCell (p := ⟨w.heap.size, 0, none⟩) (Nat.le_refl _) _⟩, (KeptO.of_kept ((Kept.refl (fun k => k = w.heap.size) X).setCell (p := ⟨w.heap.size, 0, none⟩) (.inl rfl) _)).mono (fun k h => (HO.out k).2 h), fun k hk => ⟨.inl hk, ?_⟩⟩
    have := (HO.out k).1 hk
    have := HA.out.lt
    simp
    omega
  case done =>
    rintro D xs X hD ⟨h1, h3⟩ hKD
    have c0 := h1.cell
    have H3 := hide h3
    clear h1 hseq hI0 hks hW2
    gi_wp2
    have hlp := lastP_le L
    refine lofR wide_plain w.heap.size (lastP (partsL L)) _ _ _ _ _ _ rfl rfl c0 (by omega) rfl rfl ?_
    intro vs w5 hb5 h2
    simp only [List.foldl_cons, List.foldl_nil, List.setIfInBounds_toArray, List.set_cons_succ, List.set_cons_zero]
    rw [h2]
    have hKD5 : w5.heap[D]? = some (Obj.deferred (some [])) := (hb5.block _ (Array.getElem?_eq_some_iff.1 hKD).1).trans hKD
    have H5 := hide (H3.out.trans (hb5.mono H3.out.size))
    clear hb5 h2
    gi_wp2
    refine ⟨by simp, .inl ⟨D, _, rfl, run_takeDeferred hKD5, ?_⟩⟩
    exact ⟨_, results_tmp rfl _ _ _, rfl, H5.out.trans (belowK_b (w := w) (Nat.le_refl _) w5 D _ _ (by have := hBw.size; omega) hKD5 rfl rfl)⟩
  case stop => rintro D c pre X hD h hKD; exact h.elim
end Go.Proofs.YtdjdlkobfmahpaaGreatDoor
