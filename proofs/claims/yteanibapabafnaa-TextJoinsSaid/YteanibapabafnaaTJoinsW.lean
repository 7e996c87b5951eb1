/-
  TextJoins' walk.
-/
import Derived.Test.YteanibapabafnaaTAwake
import Derived.Test.YteanibapabafnaaTJoinsM
import Derived.Test.YteanibapabafnaaTJoinsR
namespace Go.Proofs.Yteanibapabafnaa
open Go.RowKit

theorem Grew.belowB {w w' : World} {v v' : Value} {B n : Nat} {xs : List Value} {e : TypeId} (h : Grew w w' v v') (hown : w.ownsRow B e 1 v n xs) (hB : B ≤ w.heap.size) : Below B w w' :=
  (h.kept (F := fun x => v.ownBlock = some x) (fun _ h => h)).below (fun x hx => (owns_cells hown x hx).2.1) hB
theorem cells_jn (za zb : Nat → Nat) (la lb : Nat) : ([] : List Value) ++ cellsOf za la ++ [.int .u8 10] ++ cellsOf zb lb = cellsOf (jn za zb la) (la + 1 + lb) := by
  have h : ∀ m, cellsOf (jn za zb la) (la + 1 + m) = cellsOf za la ++ [.int .u8 10] ++ cellsOf zb m := by
    intro m
    induction m with
    | zero =>
      rw [Nat.add_zero, cellsOf_succ, jn_m]
      have : cellsOf (jn za zb la) la = cellsOf za la := by
        unfold cellsOf
        apply List.map_congr_left
        intro i hi
        rw [jn_a (List.mem_range.1 hi)]
      rw [this]
      simp [cellsOf]
    | succ m ih => rw [← Nat.add_assoc, cellsOf_succ, ih, cellsOf_succ, jn_b]; simp
  rw [h lb]; simp

/-- What lies behind the three rows of starts, and stays. -/
structure JG (w : World) (a b A3 Ax Ay Az : Option Addr) (la lb nx ny nz : Nat) (za zb : Nat → Nat) (X : World) : Prop where
  below : Below w.heap.size w X
  ba : Byt X a la za
  bb : Byt X b lb zb
  ball : Byt X A3 (la + 1 + lb) (jn za zb la)
  ix : Ints X Ax nx (fun j => (((bg za la).getD j 0 : Nat) : Int))
  iy : Ints X Ay ny (fun j => (((bg zb lb).getD j 0 : Nat) : Int))
  iz : Ints X Az nz (fun j => (((bg (jn za zb la) (la + 1 + lb)).getD j 0 : Nat) : Int))
theorem JG.step {w X Y : World} {a b A3 Ax Ay Az : Option Addr} {la lb nx ny nz : Nat} {za zb : Nat → Nat} (h : JG w a b A3 Ax Ay Az la lb nx ny nz za zb X) (hb : Below X.heap.size X Y) : JG w a b A3 Ax Ay Az la lb nx ny nz za zb Y :=
  ⟨h.below.trans (hb.mono h.below.size), h.ba.below hb, h.bb.below hb, h.ball.below hb, h.ix.below hb, h.iy.below hb, h.iz.below hb⟩
set_option maxRecDepth 100000 in
set_option maxHeartbeats 8000000 in
theorem joins_any (a b : Option Addr) (la ca lb cb : Nat) (za zb : Nat → Nat) (line : Int) (w : World) (hna : a = none → ca = 0) (hnb : b = none → cb = 0) (hca : la ≤ ca) (hcb : lb ≤ cb) (hla : ca ≤ 140737488351232) (hlb : cb ≤ 140737488351232)
    (haa : ca = 0 ∨ ∃ b off, a = some ⟨b, off, none⟩) (hbb : cb = 0 ∨ ∃ b' off, b = some ⟨b', off, none⟩) (ha : Byt w a la za) (hb : Byt w b lb zb) :
    Calls Try.prog 6 #[.slice a la ca, .slice b lb cb, .int .i64 line] w fun e w' => e = .returned (.bool true) ∧ Below w.heap.size w w' := by
  obtain ⟨i0, hi, hq0, hq1, hq2⟩ := info_parts info_u8
  have HB := hide (And.intro ha hb)
  clear ha hb
  go_enter Try.func6, Try.ntmps6
  go_wp2_with fail
  refine (awake_any w).mono ?_
  rintro e w1 ⟨rfl, hB1⟩
  by_cases hs : la + lb ≤ 4000
  · have hs1 : (la : Int) + (lb : Int) ≤ 4000 := by omega
    have hs2 : (0 : Int) ≤ (la : Int) := by omega
    have hs3 : (0 : Int) ≤ (lb : Int) := by omega
    have ha1 := HB.out.1.below hB1
    have hb1 := HB.out.2.below hB1
    have hnews1 : ∀ W, Below w1.heap.size w1 W → ∀ ad, a = some ad → ∀ j u, (cellsOf za la)[j]? = some u → W.cell? (ad.add j) = some u := by
      intro W hW ad had
      rcases ha1.2 with h | ⟨b0, off, h, hc⟩
      · intro j u hj
        subst h
        simp [cellsOf] at hj
      · rw [h] at had
        cases had
        exact cellsOf_news (fun i hi => cell_thru (hc i hi) hW)
    have hnews2 : ∀ W, Below w1.heap.size w1 W → ∀ ad, b = some ad → ∀ j u, (cellsOf zb lb)[j]? = some u → W.cell? (ad.add j) = some u := by
      intro W hW ad had
      rcases hb1.2 with h | ⟨b0, off, h, hc⟩
      · intro j u hj
        subst h
        simp [cellsOf] at hj
      · rw [h] at had
        cases had
        exact cellsOf_news (fun i hi => cell_thru (hc i hi) hW)
    obtain ⟨W2, hW2⟩ : ∃ W2, w1.alloc (.cells #[] 5) = W2 := ⟨_, rfl⟩
    have hr0 : W2.ownsRow w1.heap.size 5 1 (.slice (some ⟨w1.heap.size, 0, none⟩) 0 0) 0 [] := ⟨rfl, .inr ⟨w1.heap.size, 0, #[], rfl, Nat.le_refl _, by rw [← hW2]; exact heap_alloc_new _ _, Nat.le_refl _, by unfold maxLen; omega, rfl, rfl⟩⟩
    have hb2 : Below w1.heap.size w1 W2 := by rw [← hW2]; exact below_alloc _ _
    have ha2 : a = none → la = 0 ∧ ca = 0 := fun h => by have := hna h; omega
    have hb22 : b = none → lb = 0 ∧ cb = 0 := fun h => by have := hnb h; omega
    have hsz2 := hb2.size
    have HB1 := hide hB1
    clear hB1 ha1 hb1
    go_wp2_with (first
      | (at_builtin; refine wpList_append_foot _ rfl (.tmp 21) (.tmp 22) 22 rfl 5 i0 (.int .u8 0) 1 Try.underlying22 hi hq0 hq1 hq2 rfl w1.heap.size _ 0 [] rfl hr0 a la ca (cellsOf za la) rfl (cellsOf_length _ _) ha2 (hnews1 W2 hb2) (cellsOf_one _ _) (by unfold maxLen; omega) (by omega) hsz2 ?_; intro A1 C1 wA hownA hGA; rw [Nat.zero_add] at hownA hGA; have hbA : Below w1.heap.size w1 wA := hb2.trans (hGA.belowB hr0 hsz2); have hszA := hbA.size; have hnewA := cell_one_new wA (.int .u8 10) 5; have hownA2 := owns_thru hownA (below_alloc wA (.cells #[.int .u8 10] 5)))
      | (at_builtin; refine wpList_append_foot _ rfl (.tmp 23) (.tmp 24) 22 rfl 5 i0 (.int .u8 0) 1 Try.underlying22 hi hq0 hq1 hq2 rfl w1.heap.size _ la _ rfl hownA2 (some ⟨wA.heap.size, 0, none⟩) 1 1 [.int .u8 10] rfl rfl (fun e => by cases e) (fun ad e => by cases e; exact hnewA) (by simp [Value.oneCell']) (by unfold maxLen; omega) (by omega) (by simp; omega) ?_; intro A2 C2 wB hownB hGB; have hbB : Below w1.heap.size w1 wB := (hbA.alloc hbA.size _).trans (hGB.belowB hownA2 (by simp; omega)); have hszB := hbB.size)
      | (at_builtin; refine wpList_append_foot _ rfl (.tmp 25) (.tmp 26) 22 rfl 5 i0 (.int .u8 0) 1 Try.underlying22 hi hq0 hq1 hq2 rfl w1.heap.size _ (la + 1) _ rfl hownB b lb cb (cellsOf zb lb) rfl (cellsOf_length _ _) hb22 (hnews2 wB hbB) (cellsOf_one _ _) (by unfold maxLen; omega) (by omega) hszB ?_; intro A3 C3 wC hownC hGC; have hbC : Below w1.heap.size w1 wC := hbB.trans (hGC.belowB hownB hszB)))
    rw [cells_jn] at hownC
    obtain ⟨A3', C3', e3, hn3, hC3, hsh3, hz3⟩ := owns_byt hownC (fun i => jn_lt HB.out.1.1 HB.out.2.1 la i)
    simp only [Value.slice.injEq, true_and] at e3
    obtain ⟨rfl, rfl⟩ := e3
    have hBC : Below w.heap.size w wC := below_thru HB1.out hbC
    have hLa := lines_any a la ca za wC (by omega) (HB.out.1.below hBC)
    have HC := hide (And.intro hBC (And.intro hz3 (And.intro hn3 (And.intro hC3 hsh3))))
    clear hownA hGA hbA hszA hnewA hownA2 hownB hGB hbB hszB hownC hGC hbC hBC hz3 hn3 hC3 hsh3 hr0 hb2 hsz2 hnews1 hnews2 hW2 ha2 hb22
    refine hLa.mono ?_
    rintro e wD ⟨vx, rfl, hox, hBD⟩
    rw [icl_icells] at hox
    obtain ⟨Ax, Cx, rfl, _, _, _, hIx, _⟩ := owns_ints hox
    obtain ⟨nx, hnx⟩ : ∃ nx, (bg za la).length = nx := ⟨_, rfl⟩
    have hBD' := HC.out.1.trans (hBD.mono HC.out.1.size)
    have hLb := lines_any b lb cb zb wD (by omega) (HB.out.2.below hBD')
    have hIx' : Ints wD Ax (bg za la).length (fun j => (((bg za la).getD j 0 : Nat) : Int)) := hIx
    rw [hnx] at hIx' ⊢
    have HD := hide (And.intro hBD (And.intro hBD' (And.intro hIx' hnx)))
    clear hLa hox hIx hIx' hBD hBD' hnx
    go_wp2_with fail
    refine hLb.mono ?_
    rintro e wE ⟨vy, rfl, hoy, hBE⟩
    rw [icl_icells] at hoy
    obtain ⟨Ay, Cy, rfl, _, _, _, hIy, _⟩ := owns_ints hoy
    obtain ⟨ny, hny⟩ : ∃ ny, (bg zb lb).length = ny := ⟨_, rfl⟩
    have hBE' := HD.out.2.1.trans (hBE.mono HD.out.2.1.size)
    have hBCE := HD.out.1.trans (hBE.mono HD.out.1.size)
    have hLz := lines_any A3 (la + 1 + lb) C3 (jn za zb la) wE (by omega) (HC.out.2.1.below hBCE)
    have hIy' : Ints wE Ay (bg zb lb).length (fun j => (((bg zb lb).getD j 0 : Nat) : Int)) := hIy
    rw [hny] at hIy' ⊢
    have HE := hide (And.intro hBE (And.intro hBE' (And.intro hIy' (And.intro hny hBCE))))
    clear hLb hoy hIy hIy' hBE hBE' hny hBCE
    go_wp2_with fail
    refine hLz.mono ?_
    rintro e wF ⟨vz, rfl, hoz, hBF⟩
    rw [icl_icells] at hoz
    obtain ⟨Az, Cz, rfl, _, _, _, hIz, _⟩ := owns_ints hoz
    obtain ⟨nz, hnz⟩ : ∃ nz, (bg (jn za zb la) (la + 1 + lb)).length = nz := ⟨_, rfl⟩
    have hIz' : Ints wF Az (bg (jn za zb la) (la + 1 + lb)).length (fun j => (((bg (jn za zb la) (la + 1 + lb)).getD j 0 : Nat) : Int)) := hIz
    rw [hnz] at hIz' ⊢
    have hBF' := HE.out.2.1.trans (hBF.mono HE.out.2.1.size)
    have hG : JG w a b A3 Ax Ay Az la lb nx ny nz za zb wF := ⟨hBF', HB.out.1.below hBF', HB.out.2.below hBF', HC.out.2.1.below (HE.out.2.2.2.2.trans (hBF.mono HE.out.2.2.2.2.size)), HD.out.2.2.1.below (HE.out.1.trans (hBF.mono HE.out.1.size)), HE.out.2.2.1.below hBF, hIz'⟩
    have hsum : nz = nx + ny := by rw [← hnz, ← HD.out.2.2.2, ← HE.out.2.2.2.1, bg_jn, List.length_append, List.length_map]
    have hnx1 : nx ≤ 4001 := by rw [← HD.out.2.2.2]; have := bg_length_le za la; omega
    have hny1 : ny ≤ 4001 := by rw [← HE.out.2.2.2.1]; have := bg_length_le zb lb; omega
    have HF := hide (And.intro hG (And.intro hnz hsum))
    have hsum' : (nz : Int) = (nx : Int) + (ny : Int) := by omega
    clear hLz hoz hIz hIz' hBF hBF' hnz hG hsum
    go_wp2_with fail
    clear hsum'
    go_loopg [11] nz (fun q s11 wx => ∃ i : Nat, i + q = nz ∧ s11 = .int .i64 i ∧ JG w a b A3 Ax Ay Az la lb nx ny nz za zb wx)
    case atStart => exact ⟨0, by omega, rfl, HF.out.1⟩
    case round =>
      obtain ⟨i, hiq, rfl, hG⟩ := hrel
      cases gk with
      | zero =>
        obtain rfl : i = nz := by omega
        have HG := hide hG
        clear hG
        have hzz : ¬ ((i : Int) < (i : Int)) := by omega
        go_wp2_with fail
        go_ret
        exact ⟨rfl, HG.out.below⟩
      | succ g =>
        have hiz : (i : Int) < (nz : Int) := by omega
        have hi0 : (0 : Int) ≤ (i : Int) := by omega
        have HG := hide hG
        have hgi := hide (And.intro hiq HF.out.2.2)
        clear hG hiq
        obtain ⟨bz, oz, rfl, cz0⟩ := HG.out.iz.cell (by omega)
        have hz1 : nz ≤ 8002 := by have := hgi.out.2; omega
        have cz : ∀ W, Below wr.heap.size wr W → W.cell? ⟨bz, oz + i, none⟩ = some (.int .i64 (((bg (jn za zb la) (la + 1 + lb)).getD i 0 : Nat) : Int)) := fun W hW => cell_thru (cz0 i (by omega)) hW
        have HZ := hide cz
        clear cz0 cz
        by_cases hin : i < nx
        · have hin' : (i : Int) < (nx : Int) := by omega
          have hd1 : (i : Int) - (nx : Int) < 0 := by omega
          have hd2 : (i : Int) - (nx : Int) ≥ -9223372036854775808 := by omega
          obtain ⟨bx, ox, rfl, cx0⟩ := HG.out.ix.cell (by omega)
          obtain ⟨e1, S, t1, t2⟩ := text_left za zb la lb i (by rw [HD.out.2.2.2]; exact hin)
          rw [HD.out.2.2.2] at t1
          rw [HF.out.2.1] at t2
          have cx : ∀ W, Below wr.heap.size wr W → W.cell? ⟨bx, ox + i, none⟩ = some (.int .i64 (((bg (jn za zb la) (la + 1 + lb)).getD i 0 : Nat) : Int)) := fun W hW => by rw [e1]; exact cell_thru (cx0 i hin) hW
          have hh : Hid (i < nx ∧ i < nz ∧ nz ≤ 100000 ∧ nx ≤ 100000) := ⟨hin, by omega, by omega, by omega⟩
          have c1 : ∀ W, Below wr.heap.size wr W → Calls Try.prog 15 #[.slice A3 (la + 1 + lb) C3, .slice (some ⟨bz, oz, none⟩) nz Cz, .int .i64 ((i : Int) + 1)] W fun e w' => e = .returned (.string S) ∧ Below W.heap.size W w' := fun W hW =>
            (text_any A3 (some ⟨bz, oz, none⟩) (la + 1 + lb) C3 nz Cz (jn za zb la) _ ((i : Int) + 1) W (by omega) (by omega) HC.out.2.2.1 HC.out.2.2.2.2 (by omega) (by omega) (HG.out.step hW).ball (HG.out.step hW).iz).mono (by rintro e w' ⟨v, rfl, ht, hb⟩; exact ⟨by rw [ht.one t2], hb⟩)
          have c2 : ∀ W, Below wr.heap.size wr W → Calls Try.prog 15 #[.slice a la ca, .slice (some ⟨bx, ox, none⟩) nx Cx, .int .i64 ((i : Int) + 1)] W fun e w' => e = .returned (.string S) ∧ Below W.heap.size W w' := fun W hW =>
            (text_any a (some ⟨bx, ox, none⟩) la ca nx Cx za _ ((i : Int) + 1) W (by omega) (by omega) hca haa (by omega) (by omega) (HG.out.step hW).ba (HG.out.step hW).ix).mono (by rintro e w' ⟨v, rfl, ht, hb⟩; exact ⟨by rw [ht.one t1], hb⟩)
          have HH := hide (And.intro cx (And.intro c1 c2))
          clear cx0 e1 t1 t2 cx c1 c2
          go_wp2_with fail
          refine tj12T a A3 la ca (la + 1 + lb) C3 bx ox nx Cx bz oz nz Cz i _ S _ _ _ rfl rfl rfl rfl rfl rfl hh HZ.out HH.out.1 HH.out.2.1 HH.out.2.2 ?_
          intro vs w4 hB4 hv4
          simp only [List.foldl_cons, List.foldl_nil, List.setIfInBounds_toArray, List.set_cons_succ, List.set_cons_zero]
          rw [hv4]
          generalize vs 48 = z48
          generalize vs 49 = z49
          generalize vs 50 = z50
          generalize vs 51 = z51
          generalize vs 52 = z52
          generalize vs 53 = z53
          generalize vs 54 = z54
          generalize vs 55 = z55
          generalize vs 56 = z56
          generalize vs 57 = z57
          generalize vs 58 = z58
          generalize vs 59 = z59
          generalize vs 60 = z60
          generalize vs 61 = z61
          generalize vs 62 = z62
          generalize vs 63 = z63
          generalize vs 64 = z64
          generalize vs 65 = z65
          generalize vs 66 = z66
          generalize vs 67 = z67
          generalize vs 68 = z68
          generalize vs 69 = z69
          generalize vs 70 = z70
          generalize vs 71 = z71
          generalize vs 72 = z72
          generalize vs 73 = z73
          generalize vs 74 = z74
          have HG4 := hide (HG.out.step hB4)
          clear hB4 hv4 HG HH HZ
          go_wp2_with fail
          refine tj15F ((i : Int) - (nx : Int)) _ _ _ rfl rfl (hide hd1) ?_
          intro vt w5 hB5 hv5
          simp only [List.foldl_cons, List.foldl_nil, List.setIfInBounds_toArray, List.set_cons_succ, List.set_cons_zero]
          rw [hv5]
          generalize vt 80 = y80
          generalize vt 81 = y81
          generalize vt 82 = y82
          generalize vt 83 = y83
          generalize vt 84 = y84
          generalize vt 85 = y85
          generalize vt 86 = y86
          generalize vt 87 = y87
          generalize vt 88 = y88
          generalize vt 89 = y89
          generalize vt 90 = y90
          generalize vt 91 = y91
          generalize vt 92 = y92
          generalize vt 93 = y93
          generalize vt 94 = y94
          generalize vt 95 = y95
          generalize vt 96 = y96
          generalize vt 97 = y97
          generalize vt 98 = y98
          generalize vt 99 = y99
          generalize vt 100 = y100
          generalize vt 101 = y101
          generalize vt 102 = y102
          generalize vt 103 = y103
          generalize vt 104 = y104
          generalize vt 105 = y105
          generalize vt 106 = y106
          generalize vt 107 = y107
          generalize vt 108 = y108
          have HG5 := hide (HG4.out.step hB5)
          clear hB5 hv5 HG4
          go_wp2_with fail
          go_roundg g
          case measure => omega
          case rel => exact ⟨i + 1, by have := hgi.out.1; omega, by go_num, HG5.out⟩
        · obtain ⟨k, hk⟩ : ∃ k, i = nx + k := ⟨i - nx, by omega⟩
          have hkn : k < ny := by have := hgi.out.2; omega
          have hd1 : (i : Int) - (nx : Int) = (k : Int) := by omega
          obtain ⟨by_, oy, rfl, cy0⟩ := HG.out.iy.cell (by omega)
          obtain ⟨e1, S, t1, t2⟩ := text_right za zb la lb k (by rw [HE.out.2.2.2.1]; exact hkn)
          rw [HE.out.2.2.2.1] at t1
          rw [HF.out.2.1] at t2
          rw [HD.out.2.2.2, ← hk] at e1 t2
          obtain ⟨u, hu⟩ : ∃ u, (bg zb lb).getD k 0 = u := ⟨_, rfl⟩
          have hul : u ≤ lb := by rw [← hu]; exact bg_get_le zb lb k (by rw [HE.out.2.2.2.1]; exact hkn)
          have cy : ∀ W, Below wr.heap.size wr W → W.cell? ⟨by_, oy + k, none⟩ = some (.int .i64 (u : Nat)) := fun W hW => by rw [← hu]; exact cell_thru (cy0 k hkn) hW
          have cz : ∀ W, Below wr.heap.size wr W → W.cell? ⟨bz, oz + i, none⟩ = some (.int .i64 ((u : Int) + (la : Int) + 1)) := fun W hW => by rw [HZ.out W hW, e1, hu]; rw [show ((u + (la + 1) : Nat) : Int) = (u : Int) + (la : Int) + 1 by omega]
          have hh : Hid (k < ny ∧ i < nz ∧ nz ≤ 100000 ∧ ny ≤ 100000 ∧ la ≤ 100000 ∧ u ≤ 100000) := ⟨hkn, by omega, by omega, by have := hgi.out.2; omega, by omega, by omega⟩
          have c1 : ∀ W, Below wr.heap.size wr W → Calls Try.prog 15 #[.slice A3 (la + 1 + lb) C3, .slice (some ⟨bz, oz, none⟩) nz Cz, .int .i64 ((i : Int) + 1)] W fun e w' => e = .returned (.string S) ∧ Below W.heap.size W w' := fun W hW =>
            (text_any A3 (some ⟨bz, oz, none⟩) (la + 1 + lb) C3 nz Cz (jn za zb la) _ ((i : Int) + 1) W (by omega) (by omega) HC.out.2.2.1 HC.out.2.2.2.2 (by omega) (by omega) (HG.out.step hW).ball (HG.out.step hW).iz).mono (by rintro e w' ⟨v, rfl, ht, hb⟩; exact ⟨by rw [ht.one t2], hb⟩)
          have c2 : ∀ W, Below wr.heap.size wr W → Calls Try.prog 15 #[.slice b lb cb, .slice (some ⟨by_, oy, none⟩) ny Cy, .int .i64 ((k : Int) + 1)] W fun e w' => e = .returned (.string S) ∧ Below W.heap.size W w' := fun W hW =>
            (text_any b (some ⟨by_, oy, none⟩) lb cb ny Cy zb _ ((k : Int) + 1) W (by omega) (by omega) hcb hbb (by omega) (by omega) (HG.out.step hW).bb (HG.out.step hW).iy).mono (by rintro e w' ⟨v, rfl, ht, hb⟩; exact ⟨by rw [ht.one t1], hb⟩)
          have HH := hide (And.intro cz (And.intro cy (And.intro c1 c2)))
          have hnk : Hid (nx ≤ i) := (by omega : nx ≤ i)
          clear cy0 e1 t1 t2 cy cz c1 c2 hu hk hin
          have hnxp : 0 < nx := by rw [← HD.out.2.2.2]; simp [bg]
          obtain ⟨bx, ox, rfl, _⟩ := HG.out.ix.cell hnxp
          go_wp2_with fail
          refine tj12F bx ox nx Cx i _ _ _ rfl rfl rfl hnk ?_
          intro vs w4 hB4 hv4
          simp only [List.foldl_cons, List.foldl_nil, List.setIfInBounds_toArray, List.set_cons_succ, List.set_cons_zero]
          rw [hv4]
          generalize vs 48 = z48
          generalize vs 49 = z49
          generalize vs 50 = z50
          generalize vs 51 = z51
          generalize vs 52 = z52
          generalize vs 53 = z53
          generalize vs 54 = z54
          generalize vs 55 = z55
          generalize vs 56 = z56
          generalize vs 57 = z57
          generalize vs 58 = z58
          generalize vs 59 = z59
          generalize vs 60 = z60
          generalize vs 61 = z61
          generalize vs 62 = z62
          generalize vs 63 = z63
          generalize vs 64 = z64
          generalize vs 65 = z65
          generalize vs 66 = z66
          generalize vs 67 = z67
          generalize vs 68 = z68
          generalize vs 69 = z69
          generalize vs 70 = z70
          generalize vs 71 = z71
          generalize vs 72 = z72
          generalize vs 73 = z73
          generalize vs 74 = z74
          have HB4 := hide hB4
          clear hB4 hv4
          go_wp2_with fail
          refine tj15T a b A3 la ca lb cb (la + 1 + lb) C3 by_ oy ny Cy bz oz nz Cz i k u S _ _ _ rfl rfl rfl rfl rfl rfl rfl rfl hh (fun W hW => HH.out.1 W (HB4.out.trans (hW.mono HB4.out.size))) (fun W hW => HH.out.2.1 W (HB4.out.trans (hW.mono HB4.out.size))) (fun W hW => HH.out.2.2.1 W (HB4.out.trans (hW.mono HB4.out.size))) (fun W hW => HH.out.2.2.2 W (HB4.out.trans (hW.mono HB4.out.size))) ?_
          intro vt w5 hB5 hv5
          simp only [List.foldl_cons, List.foldl_nil, List.setIfInBounds_toArray, List.set_cons_succ, List.set_cons_zero]
          rw [hv5]
          generalize vt 80 = y80
          generalize vt 81 = y81
          generalize vt 82 = y82
          generalize vt 83 = y83
          generalize vt 84 = y84
          generalize vt 85 = y85
          generalize vt 86 = y86
          generalize vt 87 = y87
          generalize vt 88 = y88
          generalize vt 89 = y89
          generalize vt 90 = y90
          generalize vt 91 = y91
          generalize vt 92 = y92
          generalize vt 93 = y93
          generalize vt 94 = y94
          generalize vt 95 = y95
          generalize vt 96 = y96
          generalize vt 97 = y97
          generalize vt 98 = y98
          generalize vt 99 = y99
          generalize vt 100 = y100
          generalize vt 101 = y101
          generalize vt 102 = y102
          generalize vt 103 = y103
          generalize vt 104 = y104
          generalize vt 105 = y105
          generalize vt 106 = y106
          generalize vt 107 = y107
          generalize vt 108 = y108
          have HG5 := hide (HG.out.step (HB4.out.trans (hB5.mono HB4.out.size)))
          clear hB5 hv5 HB4 HH HZ HG
          go_wp2_with fail
          go_roundg g
          case measure => omega
          case rel => exact ⟨i + 1, by have := hgi.out.1; omega, by go_num, HG5.out⟩
  · have hs1 : (4000 : Int) < (la : Int) + (lb : Int) := by omega
    have hs2 : (0 : Int) ≤ (la : Int) := by omega
    have hs3 : (0 : Int) ≤ (lb : Int) := by omega
    have hs4 : (la : Int) ≤ 140737488351232 := by omega
    have hs5 : (lb : Int) ≤ 140737488351232 := by omega
    have HB1 := hide hB1
    clear hB1
    go_wp2_with fail
    go_ret
    exact ⟨rfl, HB1.out⟩
end Go.Proofs.Yteanibapabafnaa
