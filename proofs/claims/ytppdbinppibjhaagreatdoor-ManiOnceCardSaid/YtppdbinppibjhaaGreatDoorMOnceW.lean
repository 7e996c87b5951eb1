/-
  mudlarklaw25.ManiOnce.
-/
import Derived.Test.YtppdbinppibjhaaGreatDoorMAwake
namespace Go.Proofs.YtppdbinppibjhaaGreatDoor
open Go.RowKit Go.Shelf
set_option linter.unusedVariables false
set_option linter.unusedSimpArgs false

theorem size_one {L : List Nat} (hl : L.length ≤ 3000) : sizeB [(1, L)] ≤ 4000 := by
  have := encN_len6 (n := L.length) (by unfold maxNum; omega)
  simp only [sizeB, bodyB, List.length_append, List.length_nil, partB, headP, List.length_cons]
  omega
set_option maxRecDepth 100000 in
set_option maxHeartbeats 2000000 in
theorem once25_any (A : Option Addr) (n C : Nat) (L : List Nat) (w : World) (hL : L.length = n) (h : SB w A C L) (h8 : ∀ b ∈ L, b < 256) :
    Calls Tryz.prog 8 #[.slice A n C] w fun e w' => e = .returned (.bool true) ∧ Below w.heap.size w w' := by
  have haw := awake25_any w
  have HH := hide (And.intro h h8)
  clear h h8
  go_enter Tryz.func8, Tryz.ntmps8
  go_wp2_with fail
  refine haw.mono ?_
  rintro e w1 ⟨rfl, hb1⟩
  by_cases hbig : n ≤ 3000
  rotate_left
  · have hbz : (3000 : Int) < (n : Int) := by omega
    have HB := hide hb1
    clear haw hb1
    go_wp2_with fail
    go_ret
    exact ⟨rfl, HB.out⟩
  have hbz : (n : Int) ≤ 3000 := by omega
  have hl3 : L.length ≤ 3000 := by omega
  have hsz := size_one hl3
  have hok : ∀ p ∈ [((1, L) : PT)], okPart p := fun p hp => by
    rw [List.mem_singleton.1 hp]
    exact ⟨show (1 : Nat) < 256 by omega, HH.out.2, by show L.length ≤ _; unfold maxNum; omega⟩
  have hs1 := HH.out.1.below hb1
  obtain ⟨W2, hW2⟩ : ∃ W2, w1.alloc (.cells #[.int .u8 1, .slice A n C] 40) = W2 := ⟨_, rfl⟩
  have hb2 : Below w1.heap.size w1 W2 := by rw [← hW2]; exact below_alloc _ _
  have h2 : W2.heap[w1.heap.size]? = some (.cells #[.int .u8 1, .slice A n C] 40 (0, 0)) := by rw [← hW2]; exact heap_alloc_new _ _
  have hs2 := hs1.below hb2
  have hP : Prts W2 (some ⟨w1.heap.size, 0, none⟩) 1 (fun _ => ⟨1, L, A, C⟩) := by
    refine .inr ⟨_, 0, rfl, fun i hi => ?_⟩
    obtain rfl : i = 0 := by omega
    obtain ⟨c0, c1⟩ := cells2_at h2
    exact ⟨⟨c0, by rw [hL]; exact c1⟩, ⟨show (1 : Nat) < 256 by omega, hs2.l, hs2.m, hs2.n, hs2.o, hs2.b⟩⟩
  have hfp := fput_any _ 1 1 _ W2 hP (by omega) (show sizeB [(1, L)] ≤ 1000000 by omega)
  rw [show pts (fun _ => (⟨1, L, A, C⟩ : Prt)) 1 = [(1, L)] from rfl, ← fileB_len] at hfp
  rw [← fileB_len] at hsz
  have hlt := fileB_lt hok
  have HW2 := hide hW2
  have HB2 := hide (below_thru hb1 hb2)
  generalize hFB : fileB [((1, L) : PT)] = FB at *
  clear haw hb1 hs1 hW2 hb2 h2 hs2 hP hok HH
  go_wp2_with fail
  rw [HW2.out]
  refine hfp.mono ?_
  rintro e w3 ⟨v3, rfl, ho3, hb3⟩
  obtain ⟨_, A3, C3, rfl, hs3, _⟩ := SB.own ho3 hlt
  have hgt := mget_any A3 C3 FB.length FB w3 rfl hs3 (by omega)
  have H3 := hide hs3
  have HB3 := hide (below_thru HB2.out hb3)
  clear hfp ho3 hb3 hs3
  have hgc : getM FB = none ∨ ∃ m, getM FB = some m := by
    cases getM FB with
    | none => exact .inl rfl
    | some m => exact .inr ⟨m, rfl⟩
  generalize hfl : FB.length = fl at *
  have HFL := hide hfl
  have HLT := hide hlt
  rcases hgc with hgc | ⟨m, hgc⟩
  · rw [hgc] at hgt
    clear hsz hFB hlt hgc hfl
    go_wp2_with fail
    refine hgt.mono ?_
    rintro e w4 ⟨hg4, hb4⟩
    have hg4' : e = .returned (.tuple #[.agg #[.int .i64 0, .slice none 0 0], .int .i64 9]) := hg4
    subst hg4'
    obtain ⟨W5, hW5⟩ : ∃ W5, w4.alloc (.cells #[.int .i64 0, .slice none 0 0] 24) = W5 := ⟨_, rfl⟩
    have h5 : W5.heap[w4.heap.size]? = some (.cells #[.int .i64 0, .slice none 0 0] 24 (0, 0)) := by rw [← hW5]; exact heap_alloc_new _ _
    have hsm := sameMani_any 0 none none 0 0 0 (fun _ => ⟨0, 0, 0, [], none, 0⟩) (fun _ => ⟨0, 0, 0, [], none, 0⟩) W5 (by omega) (.inl rfl) (.inl rfl) (fun i hi => by omega) (fun i hi => rfl)
    obtain ⟨x0, x1⟩ := cells2_at h5
    rw [← hW5] at x0 x1
    have HW5 := hide hW5
    have HB5 := hide (below_thru HB3.out (below_thru hb4 (show Below w4.heap.size w4 W5 by rw [← hW5]; exact below_alloc _ _)))
    clear hgt hg4 hb4 hW5 h5
    go_wp2_with fail
    rw [HW5.out]
    refine hsm.mono ?_
    rintro e w6 ⟨rfl, hb6⟩
    have HB6 := hide (below_thru HB5.out hb6)
    clear hsm hb6
    go_wp2_with fail
    go_ret
    exact ⟨rfl, HB6.out⟩
  · rw [hgc] at hgt
    obtain ⟨hfm, hrm, hS⟩ := getM_is hlt hgc
    obtain ⟨_, _, hG1, hL40⟩ := rightM_ok hrm hS
    have hG0 := (rightM_ok hrm hS).2.1
    unfold maxNum at hG1
    have hwf : (Lit.int .i64 m.G).wf = true := wf64 (by omega) (by omega)
    clear hsz hFB hlt hgc hfl hG0 hG1 hS
    go_wp2_with fail
    refine hgt.mono ?_
    rintro e w4 ⟨hg4, hb4⟩
    obtain ⟨A4, C4, Q4, rfl, hQ4, hq4, _, _, _, hD4⟩ := hg4.some'
    have hmm : (⟨m.G, stsN Q4 m.L.length⟩ : MT) = m := by rw [hq4]
    obtain ⟨W5, hW5⟩ : ∃ W5, w4.alloc (.cells #[.int .i64 m.G, .slice A4 m.L.length C4] 24) = W5 := ⟨_, rfl⟩
    have hb5 : Below w4.heap.size w4 W5 := by rw [← hW5]; exact below_alloc _ _
    have h5 : W5.heap[w4.heap.size]? = some (.cells #[.int .i64 m.G, .slice A4 m.L.length C4] 24 (0, 0)) := by rw [← hW5]; exact heap_alloc_new _ _
    have hQ5 := hQ4.below hb5
    have hpt := mput_any m.G A4 m.L.length C4 Q4 W5 (by omega) hwf hQ5 (fun i hi => by have := hD4 i hi; omega)
    rw [hmm, hfm] at hpt
    simp only [hrm, if_true] at hpt
    have HD := hide hD4
    have HM := hide hmm
    have HQ := hide hQ5
    have HR := hide (And.intro hrm (And.intro hwf hL40))
    obtain ⟨x0, x1⟩ := cells2_at h5
    have HX := hide (And.intro x0 x1)
    rw [← hW5] at x0 x1
    have H5 := hide (H3.out.below (below_thru hb4 hb5))
    have HW5 := hide hW5
    have HB5 := hide (below_thru HB3.out (below_thru hb4 hb5))
    clear hgt hg4 hb4 hW5 h5 hb5 hq4 hmm hD4 hQ4 hQ5 hrm hfm hwf hL40 H3
    generalize m.L.length = k at *
    generalize m.G = G at *
    go_wp2_with fail
    rw [HW5.out]
    refine hpt.mono ?_
    rintro e w6 ⟨⟨v6, rfl, ho6⟩, hb6⟩
    obtain ⟨_, A6, C6, rfl, hs6, _⟩ := SB.own ho6 HLT.out
    rw [HFL.out]
    have hrt := mright_any G A4 k C4 Q4 w6 (by have := HR.out.2.2; omega) HR.out.2.1 (HQ.out.below hb6) (fun i hi => by have := HD.out i hi; omega)
    rw [HM.out, HR.out.1] at hrt
    have y0 := cell_thru HX.out.1 hb6
    have y1 := cell_thru HX.out.2 hb6
    have H6 := hide (And.intro (H5.out.below hb6) hs6)
    have HB6 := hide (below_thru HB5.out hb6)
    clear hpt x0 x1 ho6 hb6 hs6 HX H5
    go_wp2_with fail
    refine hrt.mono ?_
    rintro e w7 ⟨rfl, hb7⟩
    have hsb := sameBytes_any A3 A6 fl C3 C6 FB w7 HFL.out (by have := H6.out.1.l; have := H6.out.1.m; have := HFL.out; omega) (H6.out.1.below hb7).b (H6.out.2.below hb7).b
    have HB7 := hide (below_thru HB6.out hb7)
    clear hrt hb7 y0 y1
    go_wp2_with fail
    refine hsb.mono ?_
    rintro e w8 ⟨rfl, hb8⟩
    have HB8 := hide (below_thru HB7.out hb8)
    clear hsb hb8
    go_wp2_with fail
    go_ret
    exact ⟨rfl, HB8.out⟩
end Go.Proofs.YtppdbinppibjhaaGreatDoor
