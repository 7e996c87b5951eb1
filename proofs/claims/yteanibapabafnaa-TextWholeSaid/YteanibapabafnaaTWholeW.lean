/-
  TextWhole's walk.
-/
import Derived.Test.YteanibapabafnaaTAwake
import Derived.Test.YteanibapabafnaaTContains
import Derived.Test.YteanibapabafnaaTWholeR
import Derived.Test.YteanibapabafnaaRows2
import Derived.Test.YteanibapabafnaaTJoinsM
namespace Go.Proofs.Yteanibapabafnaa
open Go.RowKit

theorem info_str : (Try.prog.info? 9).map (fun i => (i.zero, i.size, i.bytes)) = some (some (.string ⟨#[]⟩), 1, 16) := by kernel_rfl
/-- The lines' texts as cells. -/
def tcells (z : Nat → Nat) (len k : Nat) : List Value := (List.range k).map fun j => txt (lineL z len j)
theorem tcells_length (z : Nat → Nat) (len k : Nat) : (tcells z len k).length = k := by simp [tcells]
theorem tcells_succ (z : Nat → Nat) (len k : Nat) : tcells z len (k + 1) = tcells z len k ++ [txt (lineL z len k)] := by simp [tcells, List.range_succ]
theorem tcells_get (z : Nat → Nat) (len k j : Nat) (h : j < k) : (tcells z len k)[j]? = some (txt (lineL z len j)) := by simp [tcells, h]
/-- A line's text is told. -/
theorem line_is (z : Nat → Nat) (len i : Nat) (h : i < (bg z len).length) : TextIs z len (fun j => (((bg z len).getD j 0 : Nat) : Int)) (bg z len).length ((i : Int) + 1) (txt (lineL z len i)) :=
  TextIs.of h rfl (bgi_le z len i h) (endI_at z len i h)

/-- The region that asks where line i begins, whichever i. -/
theorem tw10 (a : Option Addr) (la ca bl ol n Cl i u : Nat) (Q : Exit → Act → World → Prop) (t0 : Array Value) (w0 : World) (ht : t0.size = 129) (hs0 : t0.getD 0 undef = .slice a la ca) (hs5 : t0.getD 5 undef = .slice (some ⟨bl, ol, none⟩) n Cl) (hs7 : t0.getD 7 undef = .int .i64 (i : Nat))
    (ci : ∀ W, Below w0.heap.size w0 W → W.cell? ⟨bl, ol + i, none⟩ = some (.int .i64 (u : Nat)))
    (h : (i = 0 ∧ u = 0 ∧ 0 < n) ∨ ∃ p v q b0 o0, a = some ⟨b0, o0, none⟩ ∧ (i = p + 1 ∧ i < n ∧ u = q + 1 ∧ v < u ∧ q < la ∧ n ≤ 100000 ∧ la ≤ 100000) ∧ (∀ W, Below w0.heap.size w0 W → W.cell? ⟨bl, ol + p, none⟩ = some (.int .i64 (v : Nat))) ∧ (∀ W, Below w0.heap.size w0 W → W.cell? ⟨b0, o0 + q, none⟩ = some (.int .u8 10)))
    (hQ : ∀ (vs : Nat → Value) (w : World), Below w0.heap.size w0 w → (vs 57 = .bool false) → Q .normal { tmps := [22, 23, 24, 25, 26, 27, 28, 29, 30, 31, 32, 33, 34, 35, 36, 37, 38, 39, 40, 41, 42, 43, 44, 45, 46, 47, 48, 49, 50, 51, 52, 53, 54, 55, 56, 57].foldl (fun y d => y.setIfInBounds d (vs d)) t0, defers := [] } w) :
    (Code.region 10 tw10_ops true).wp Try.prog Q { tmps := t0, defers := [] } w0 := by
  rcases h with h | ⟨p, v, q, b0, o0, rfl, h, cp, cq⟩
  · exact tw10Z bl ol n Cl i u Q t0 w0 ht hs5 hs7 h ci hQ
  · exact tw10S b0 o0 la ca bl ol n Cl i p u v q Q t0 w0 ht hs0 hs5 hs7 h ci cp cq hQ
set_option maxRecDepth 100000 in
set_option maxHeartbeats 8000000 in
theorem whole_any (a : Option Addr) (la ca : Nat) (za : Nat → Nat) (at_ : Int) (w : World) (hca : la ≤ ca) (haa : ca = 0 ∨ ∃ b off, a = some ⟨b, off, none⟩) (ha : Byt w a la za) :
    Calls Try.prog 5 #[.slice a la ca, .int .i64 at_] w fun e w' => e = .returned (.bool true) ∧ Below w.heap.size w w' := by
  obtain ⟨i0, hi, hq0, hq1, hq2⟩ := info_parts info_str
  have HA := hide ha
  clear ha
  go_enter Try.func5, Try.ntmps5
  go_wp2_with fail
  refine (awake_any w).mono ?_
  rintro e w1 ⟨rfl, hB1⟩
  by_cases hs : la ≤ 4000
  · have hs1 : (la : Int) ≤ 4000 := by omega
    have hL := lines_any a la ca za w1 (by omega) (HA.out.below hB1)
    have HB1 := hide hB1
    clear hB1
    go_wp2_with fail
    refine hL.mono ?_
    rintro e w2 ⟨vx, rfl, hox, hB2⟩
    rw [icl_icells] at hox
    obtain ⟨Ax, Cl, rfl, _, _, _, hIx, _⟩ := owns_ints hox
    have hIx' : Ints w2 Ax (bg za la).length (fun j => (((bg za la).getD j 0 : Nat) : Int)) := hIx
    obtain ⟨n, hn⟩ : ∃ n, (bg za la).length = n := ⟨_, rfl⟩
    rw [hn] at hIx' ⊢
    have hnp : 0 < n := by rw [← hn]; simp [bg]
    have hnl : n ≤ 4001 := by rw [← hn]; have := bg_length_le za la; omega
    obtain ⟨bl, ol, rfl, cl0⟩ := hIx'.cell hnp
    have hB12 := below_thru HB1.out hB2
    have HC : Hid (∀ W, Below w2.heap.size w2 W → ∀ j, j < n → W.cell? ⟨bl, ol + j, none⟩ = some (.int .i64 (bgi za la j : Nat))) := fun W hW j hj => cell_thru (cl0 j hj) hW
    have HX := hide (And.intro hB12 (And.intro hIx' (And.intro hn (HA.out.below hB12))))
    have hN := hide hn
    clear hL hox hIx hIx' cl0 hB2 hB12 hn HB1
    go_wp2_with fail
    go_loopg [6, 7] n (fun q s6 s7 wx => ∃ (i : Nat) (AL : Option Addr) (CL : Nat), i + q = n ∧ s7 = .int .i64 i ∧ s6 = .slice AL i CL ∧ wx.ownsRow w2.heap.size 9 1 (.slice AL i CL) i (tcells za la i) ∧ Below w2.heap.size w2 wx)
    case atStart => exact ⟨0, none, 0, by omega, rfl, rfl, World.ownsRow_nil _ _ _ _, Below.refl _ _⟩
    case round =>
      obtain ⟨i, AL, CL, hiq, rfl, rfl, hown, hB⟩ := hrel
      cases gk with
      | zero =>
        obtain rfl : i = n := by omega
        have hzz : ¬ ((i : Int) < (i : Int)) := by omega
        have HO := hide (And.intro hown hB)
        clear hown hB
        go_wp2_with fail
        obtain ⟨g0, _, hv0, _, _, hnC, _⟩ := owns_cell HO.out.1 (tcells_get za la i 0 hnp)
        simp only [Value.slice.injEq, true_and] at hv0
        obtain ⟨rfl, rfl⟩ := hv0
        have hcells : ∀ W, Below wr.heap.size wr W → ∀ j, j < i → W.cell? ⟨g0, j, none⟩ = some (txt (lineL za la j)) := fun W hW j hj => by
          obtain ⟨g', _, hv', hc', _⟩ := owns_cell (owns_thru HO.out.1 hW) (tcells_get za la i j hj)
          simp only [Value.slice.injEq, Option.some.injEq, Addr.mk.injEq, and_true, true_and] at hv'
          obtain ⟨rfl, _⟩ := hv'
          exact hc'
        have hg0 : g0 < wr.heap.size := (owns_cells HO.out.1 g0 rfl).1
        have hbW : ∀ W, Below wr.heap.size wr W → Byt W a la za ∧ Ints W (some ⟨bl, ol, none⟩) i (fun j => (((bg za la).getD j 0 : Nat) : Int)) := fun W hW =>
          ⟨HX.out.2.2.2.below (HO.out.2.trans (hW.mono HO.out.2.size)), HX.out.2.1.below (HO.out.2.trans (hW.mono HO.out.2.size))⟩
        obtain ⟨S, hS⟩ : ∃ S, txt (tx za la) = .string S := ⟨_, rfl⟩
        have cv : ∀ W, Below wr.heap.size wr W → (convert 22 9 (.slice a la ca)).run Try.prog W = .ok (.string S) W := fun W hW => by rw [← hS]; exact conv_byt (hbW W hW).1
        have c1 : ∀ W, Below wr.heap.size wr W → Calls Try.prog 21 #[.slice (some ⟨g0, 0, none⟩) i CL, .string ⟨#[10]⟩] W fun e w' => e = .returned (.string S) ∧ Below W.heap.size W w' := fun W hW => by
          rw [← hS]
          exact join_lines za la i g0 CL W hN.out (by omega) hnC (by have := hW.size; omega) (hcells W hW)
        have c2 : ∀ W, Below wr.heap.size wr W → Calls Try.prog 15 #[.slice a la ca, .slice (some ⟨bl, ol, none⟩) i Cl, .int .i64 0] W fun e w' => e = .returned (.string ⟨#[]⟩) ∧ Below W.heap.size W w' := fun W hW =>
          (text_any a (some ⟨bl, ol, none⟩) la ca i Cl za _ 0 W (by omega) (by omega) hca haa (by omega) (by omega) (hbW W hW).1 (hbW W hW).2).mono (by
            rintro e w' ⟨v, rfl, ht, hb⟩
            rcases ht with ⟨_, rfl⟩ | ⟨l, h, _⟩
            · exact ⟨rfl, hb⟩
            · omega)
        have c3 : ∀ W, Below wr.heap.size wr W → Calls Try.prog 15 #[.slice a la ca, .slice (some ⟨bl, ol, none⟩) i Cl, .int .i64 ((i : Int) + 1)] W fun e w' => e = .returned (.string ⟨#[]⟩) ∧ Below W.heap.size W w' := fun W hW =>
          (text_any a (some ⟨bl, ol, none⟩) la ca i Cl za _ ((i : Int) + 1) W (by omega) (by omega) hca haa (by omega) (by omega) (hbW W hW).1 (hbW W hW).2).mono (by
            rintro e w' ⟨v, rfl, ht, hb⟩
            rcases ht with ⟨_, rfl⟩ | ⟨l, h, hl, _⟩
            · exact ⟨rfl, hb⟩
            · omega)
        have HH := hide (And.intro cv (And.intro c1 (And.intro c2 c3)))
        have HBW := hide hbW
        clear cv c1 c2 c3 hcells hbW hS
        go_wp2_with fail
        refine tw15 a (some ⟨g0, 0, none⟩) la ca CL bl ol i Cl S _ _ _ rfl rfl rfl rfl (hide (by omega)) HH.out.1 HH.out.2.1 HH.out.2.2.1 HH.out.2.2.2 ?_
        intro vs w4 hB4 hv4
        simp only [List.foldl_cons, List.foldl_nil, List.setIfInBounds_toArray, List.set_cons_succ, List.set_cons_zero]
        rw [hv4]
        generalize vs 71 = z71
        generalize vs 72 = z72
        generalize vs 73 = z73
        generalize vs 74 = z74
        generalize vs 75 = z75
        generalize vs 76 = z76
        generalize vs 77 = z77
        generalize vs 78 = z78
        generalize vs 79 = z79
        generalize vs 80 = z80
        generalize vs 81 = z81
        generalize vs 82 = z82
        generalize vs 83 = z83
        generalize vs 84 = z84
        generalize vs 85 = z85
        generalize vs 86 = z86
        generalize vs 87 = z87
        generalize vs 88 = z88
        generalize vs 89 = z89
        have hl := line_any (some ⟨bl, ol, none⟩) i Cl _ at_ w4 (by omega) (HBW.out w4 hB4).2
        have hB24 := HO.out.2.trans (hB4.mono HO.out.2.size)
        have H4 := hide hB24
        clear hB4 hv4 HH hB24 HBW
        go_wp2_with fail
        refine hl.mono ?_
        rintro e w5 ⟨m, rfl, hm, hB5⟩
        have hB25 := H4.out.trans (hB5.mono H4.out.size)
        have HF := hide (HX.out.1.trans (hB25.mono HX.out.1.size))
        have HC5 : Hid (∀ j, j < i → w5.cell? ⟨bl, ol + j, none⟩ = some (.int .i64 (bgi za la j : Nat))) := fun j hj => HC.out w5 hB25 j hj
        obtain ⟨hm1, hm2, hm3⟩ := hm
        by_cases hat : at_ < 0
        · have hm0 : m = 0 := by
            rcases Nat.eq_zero_or_pos m with h | h
            · exact h
            · have h9 : (0 : Int) ≤ at_ := hm2 0 h
              omega
          subst hm0
          clear hl hB5 hB25 hm1 hm2 hm3
          go_wp2_with fail
          go_ret
          exact ⟨rfl, HF.out⟩
        · have hmp : 0 < m := by
            rcases Nat.eq_zero_or_pos m with h | h
            · rw [h] at hm3
              rcases hm3 with h3 | h3
              · omega
              · have h9 : at_ < (0 : Int) := h3
                omega
            · exact h
          obtain ⟨k, rfl⟩ : ∃ k, m = k + 1 := ⟨m - 1, by omega⟩
          have hle := hm2 k (by omega)
          have ck := HC5.out k (by omega)
          have hle' : ((bgi za la k : Nat) : Int) ≤ at_ := hle
          have hk1 : (k : Int) < (i : Int) := by omega
          have hk2 : (k : Int) + 1 ≤ (i : Int) := by omega
          have hk0 : (0 : Int) ≤ (k : Int) := by omega
          have hat' : (0 : Int) ≤ at_ := by omega
          generalize bgi za la k = u at ck hle'
          by_cases hmi : k + 1 = i
          · clear hl hB5 hB25 hm1 hm2 hm3 hle
            have hmi2 : ((k + 1 : Nat) : Int) = (i : Int) := by omega
            rw [hmi2]
            have hmi3 : (i : Int) - 1 = (k : Int) := by omega
            have hi0 : (0 : Int) < (i : Int) := by omega
            clear hmi2 hmi hk2
            go_wp2_with fail
            go_ret
            exact ⟨rfl, HF.out⟩
          · have hmi' : ¬ ((k : Int) + 1 = (i : Int)) := by omega
            have hk3 : (k : Int) + 1 < (i : Int) := by omega
            have hlt : at_ < ((bgi za la (k + 1) : Nat) : Int) := by
              rcases hm3 with h3 | h3
              · exact absurd h3 hmi
              · exact h3
            have ck1 := HC5.out (k + 1) (by omega)
            generalize bgi za la (k + 1) = u2 at ck1 hlt
            clear hl hB5 hB25 hm1 hm2 hm3 hle
            go_wp2_with fail
            go_ret
            exact ⟨rfl, HF.out⟩
      | succ g =>
        have hin : i < n := by omega
        have hiz : (i : Int) < (n : Int) := by omega
        have hi0 : (0 : Int) ≤ (i : Int) := by omega
        have HO := hide (And.intro hown hB)
        have hgi := hide hiq
        clear hown hB hiq
        have ci : ∀ W, Below wr.heap.size wr W → W.cell? ⟨bl, ol + i, none⟩ = some (.int .i64 (bgi za la i : Nat)) := fun W hW => HC.out W (HO.out.2.trans (hW.mono HO.out.2.size)) i hin
        have HCI := hide ci
        clear ci
        have hcase : (i = 0 ∧ bgi za la i = 0 ∧ 0 < n) ∨ ∃ p v q b0 o0, a = some ⟨b0, o0, none⟩ ∧ (i = p + 1 ∧ i < n ∧ bgi za la i = q + 1 ∧ v < bgi za la i ∧ q < la ∧ n ≤ 100000 ∧ la ≤ 100000) ∧ (∀ W, Below wr.heap.size wr W → W.cell? ⟨bl, ol + p, none⟩ = some (.int .i64 (v : Nat))) ∧ (∀ W, Below wr.heap.size wr W → W.cell? ⟨b0, o0 + q, none⟩ = some (.int .u8 10)) := by
          rcases Nat.eq_zero_or_pos i with h0 | h0
          · exact .inl ⟨h0, by rw [h0]; rfl, hnp⟩
          · obtain ⟨p, rfl⟩ : ∃ p, i = p + 1 := ⟨i - 1, by omega⟩
            have hp1 : p + 1 < (bg za la).length := by rw [hN.out]; exact hin
            obtain ⟨h1, h2⟩ := endI_lt za la p hp1
            have h3 := endI_at za la p (by omega)
            have h4 : za (endI za la p) = 10 := by
              rcases h3.2.2.2 with h5 | h5
              · omega
              · exact h5
            have hby := HX.out.2.2.2.below HO.out.2
            obtain ⟨b0, o0, rfl, hc0⟩ : ∃ b off, a = some ⟨b, off, none⟩ ∧ ∀ i, i < la → wr.cell? ⟨b, off + i, none⟩ = some (.int .u8 (za i : Nat)) := by
              rcases hby.2 with h | h
              · omega
              · exact h
            refine .inr ⟨p, bgi za la p, endI za la p, b0, o0, rfl, ⟨rfl, hin, h2, by have := h3.1; omega, h1, by omega, by omega⟩, fun W hW => HC.out W (HO.out.2.trans (hW.mono HO.out.2.size)) p (by omega), fun W hW => ?_⟩
            have := cell_thru (hc0 _ h1) hW
            rw [h4] at this
            exact this
        have HCA := hide hcase
        clear hcase
        go_wp2_with fail
        refine tw10 a la ca bl ol n Cl i (bgi za la i) _ _ _ rfl rfl rfl rfl HCI.out HCA.out ?_
        intro vs w4 hB4 hv4
        simp only [List.foldl_cons, List.foldl_nil, List.setIfInBounds_toArray, List.set_cons_succ, List.set_cons_zero]
        rw [hv4]
        generalize vs 22 = z22
        generalize vs 23 = z23
        generalize vs 24 = z24
        generalize vs 25 = z25
        generalize vs 26 = z26
        generalize vs 27 = z27
        generalize vs 28 = z28
        generalize vs 29 = z29
        generalize vs 30 = z30
        generalize vs 31 = z31
        generalize vs 32 = z32
        generalize vs 33 = z33
        generalize vs 34 = z34
        generalize vs 35 = z35
        generalize vs 36 = z36
        generalize vs 37 = z37
        generalize vs 38 = z38
        generalize vs 39 = z39
        generalize vs 40 = z40
        generalize vs 41 = z41
        generalize vs 42 = z42
        generalize vs 43 = z43
        generalize vs 44 = z44
        generalize vs 45 = z45
        generalize vs 46 = z46
        generalize vs 47 = z47
        generalize vs 48 = z48
        generalize vs 49 = z49
        generalize vs 50 = z50
        generalize vs 51 = z51
        generalize vs 52 = z52
        generalize vs 53 = z53
        generalize vs 54 = z54
        generalize vs 55 = z55
        generalize vs 56 = z56
        have hB24 := HO.out.2.trans (hB4.mono HO.out.2.size)
        have hil : i < (bg za la).length := by rw [hN.out]; exact hin
        have ht := text_any a (some ⟨bl, ol, none⟩) la ca n Cl za _ ((i : Int) + 1) w4 (by omega) (by omega) hca haa (by omega) (by omega) (HX.out.2.2.2.below hB24) (HX.out.2.1.below hB24)
        have H4 := hide (And.intro hB24 (And.intro (owns_thru HO.out.1 hB4) hil))
        clear hB4 hv4 HCA HCI HO hB24
        go_wp2_with fail
        refine ht.mono ?_
        rintro e w5 ⟨v5, rfl, htx, hB5⟩
        have hli := line_is za la i H4.out.2.2
        rw [hN.out] at hli
        obtain rfl := htx.one hli
        have hB25 := H4.out.1.trans (hB5.mono H4.out.1.size)
        have hr5 := owns_thru H4.out.2.1 hB5
        have hrA := owns_thru hr5 (below_alloc w5 (.cells #[txt (lineL za la i)] 9))
        have hnew := cell_one_new w5 (txt (lineL za la i)) 9
        have hsz := hB25.size
        have hget : (tcells za la i ++ [txt (lineL za la i)])[i]? = some (txt (lineL za la i)) := by rw [← tcells_succ]; exact tcells_get za la (i + 1) i (by omega)
        have H5 := hide (And.intro hB25 hr5)
        have hone : ∀ u ∈ [txt (lineL za la i)], u.oneCell' = true := fun u hu => by (simp only [List.mem_singleton] at hu; subst hu; rfl)
        have hcn := contains_no (strOfNums ((lineL za la i).map fun x : Nat => (x : Int))) (by rw [txt_data]; exact line_no za HA.out.1 la i H4.out.2.2)
        clear ht htx hli hB25 hB5 hr5
        obtain ⟨tx, htx⟩ : ∃ tx, txt (lineL za la i) = tx := ⟨_, rfl⟩
        have hTX := hide htx
        rw [htx] at hrA hnew hget hone ⊢
        obtain ⟨Sx, hSx⟩ : ∃ Sx, strOfNums ((lineL za la i).map fun x : Nat => (x : Int)) = Sx := ⟨_, rfl⟩
        have htS : tx = .string Sx := by rw [← htx, ← hSx]; rfl
        rw [hSx] at hcn
        clear htx hSx
        subst htS
        go_wp2_with (at_builtin; go_must (refine wpList_append_foot _ rfl (.tmp 58) (.tmp 64) 35 rfl 9 i0 (.string ⟨#[]⟩) 16 Try.underlying35 hi hq0 hq1 hq2 rfl w2.heap.size _ i (tcells za la i) rfl hrA (some ⟨w5.heap.size, 0, none⟩) 1 1 [.string Sx] rfl rfl (fun e => by cases e) (fun ad e => by cases e; exact hnew) hone (by unfold maxLen; omega) (by omega) (by simp; omega) ?_); intro A' C' w6 hown6 hG6; obtain ⟨g6, _, hv6, hc6, _, hnc6, _⟩ := owns_cell hown6 hget; simp only [Value.slice.injEq, true_and] at hv6; obtain ⟨rfl, rfl⟩ := hv6)
        refine (hcn w6).mono ?_
        rintro e w7 ⟨rfl, rfl⟩
        have hG6' : Grew (w5.alloc (.cells #[.string Sx] 9)) w7 (.slice AL i CL) (.slice (some ⟨g6, 0, none⟩) (i + 1) C') := hG6
        have hB27 : Below w2.heap.size w2 w7 := (H5.out.1.alloc H5.out.1.size _).trans (hG6'.belowC hrA (by simp; omega))
        clear hG6 hG6' hcn
        go_wp2_with fail
        go_roundg g
        case measure => omega
        case rel => exact ⟨i + 1, some ⟨g6, 0, none⟩, C', by have := hgi.out; omega, by go_num, rfl, by rw [tcells_succ, hTX.out]; exact hown6, hB27⟩
  · have hs1 : (4000 : Int) < (la : Int) := by omega
    have HB1 := hide hB1
    clear hB1
    go_wp2_with fail
    go_ret
    exact ⟨rfl, HB1.out⟩
end Go.Proofs.Yteanibapabafnaa
