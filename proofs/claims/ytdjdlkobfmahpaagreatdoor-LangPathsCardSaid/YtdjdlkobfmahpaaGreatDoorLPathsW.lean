/-
  ApartTexts; mudlarklaw06.LangPaths.
-/
import Derived.Test.YtdjdlkobfmahpaaGreatDoorLRAll
import Derived.Test.YtdjdlkobfmahpaaGreatDoorLAllW
import Derived.Test.YtdjdlkobfmahpaaGreatDoorLTellsW
import Derived.Test.YtdjdlkobfmahpaaGreatDoorTexts
import Derived.Test.YtdjdlkobfmahpaaGreatDoorTxt
import Derived.Test.YtdjdlkobfmahpaaGreatDoorShelfC
import Derived.Lib.Repeat
namespace Go.Proofs.YtdjdlkobfmahpaaGreatDoor
open Go.RowKit Go.Shelf
set_option linter.unusedVariables false
set_option linter.unusedSimpArgs false

theorem RowsOf.two' {e : TypeId} {sz : Nat} {W : World} {xs ys : List Value} (h1 : RowsOf e sz W xs) (h2 : RowsOf e sz W ys) (h3 : ∀ x ∈ xs, ∀ y ∈ ys, ∀ g, x.ownBlock = some g → y.ownBlock ≠ some g) : RowsOf e sz W (xs ++ ys) :=
  ⟨fun y hy => (List.mem_append.1 hy).elim (h1.1 y) (h2.1 y), List.pairwise_append.2 ⟨h1.2, h2.2, h3⟩⟩
theorem RowsOf.one' {e : TypeId} {sz n : Nat} {W : World} {v : Value} {xs : List Value} (h : W.ownsRow 0 e sz v n xs) (hn : n ≤ 1000000) : RowsOf e sz W [v] := by
  refine ⟨fun y hy => ?_, List.pairwise_singleton _ _⟩
  rw [List.mem_singleton.1 hy]
  obtain ⟨A, C, e⟩ := owns_slice h
  have hl : lenOf v = n := by rw [e]; rfl
  rw [hl]
  exact ⟨_, hn, h⟩
theorem owns_down {w : World} {B B' n : Nat} {v : Value} {xs : List Value} {e : TypeId} {size : Nat} (h : w.ownsRow B e size v n xs) (hB : B' ≤ B) : w.ownsRow B' e size v n xs :=
  ⟨h.1, h.2.imp (fun h => h) (fun ⟨g, c, u, h1, h2, h3⟩ => ⟨g, c, u, h1, by omega, h3⟩)⟩

set_option maxRecDepth 100000 in
set_option maxHeartbeats 2000000 in
theorem apartTexts_any (gg B0 B1 n C0 C1 : Nat) (A0 A1 : Option Addr) (xs0 xs1 : List Value) (w : World) (hb : w.heap[gg]? = some (.cells #[.slice A0 n C0, .slice A1 n C1] 24 (0, 0)))
    (o0 : w.ownsRow B0 9 1 (.slice A0 n C0) n xs0) (o1 : w.ownsRow B1 9 1 (.slice A1 n C1) n xs1) (hn : n ≤ 1000) (hlt : ∀ k, (Value.slice A0 n C0).ownBlock = some k → k < B1) :
    Calls Tryz.prog 11 #[.slice (some ⟨gg, 0, none⟩) 2 2] w fun e w' => e = .returned (.bool true) ∧ Kept (fun k => (Value.slice A0 n C0).ownBlock = some k ∨ (Value.slice A1 n C1).ownBlock = some k) w w' := by
  obtain ⟨W0, hW0⟩ : ∃ W0, w.alloc (.cells (bagOf (fun _ => .slice none 0 0)) 83) = W0 := ⟨_, rfl⟩
  have hBw : Below w.heap.size w W0 := by rw [← hW0]; exact below_alloc _ _
  have hs0 : W0.heap.size = w.heap.size + 1 := by rw [← hW0]; simp
  have hbg : BG W0 w.heap.size w.heap.size (fun _ => []) := by rw [← hW0]; exact BG.fresh w
  have hc0 : w.cell? ⟨gg, 0, none⟩ = some (.slice A0 n C0) := cell_of_row _ _ 0 _ _ _ hb
  have hc1 : w.cell? ⟨gg, 1, none⟩ = some (.slice A1 n C1) := cell_of_row _ _ 1 _ _ _ hb
  obtain ⟨E1, hE1⟩ : ∃ E1, addL (fun _ => []) 4 [.slice A0 n C0] = E1 := ⟨_, rfl⟩
  obtain ⟨E2, hE2⟩ : ∃ E2, addL E1 4 [.slice A1 n C1] = E2 := ⟨_, rfl⟩
  have f4 : E1 4 = [.slice A0 n C0] := by rw [← hE1]; simp [addL]
  have e4 : E2 4 = [.slice A0 n C0] ++ [.slice A1 n C1] := by rw [← hE2]; simp [addL, f4]
  have eo : ∀ i, i < 21 → i ≠ 4 → E2 i = [] := fun i _ h4 => by
    rw [← hE2, ← hE1]
    simp only [addL, if_neg h4]
  have hr := (RowsOf.one' (owns_down o0 (Nat.zero_le _)) (by omega)).two' (RowsOf.one' (owns_down o1 (Nat.zero_le _)) (by omega)) (fun x hx y hy g hg hg' => by
    rw [List.mem_singleton.1 hx] at hg
    rw [List.mem_singleton.1 hy] at hg'
    have := hlt g hg
    have := (owns_cells o1 g hg').2.1
    omega)
  rw [← e4] at hr
  have hF : ∀ k, FKG E2 21 k → (Value.slice A0 n C0).ownBlock = some k ∨ (Value.slice A1 n C1).ownBlock = some k := fun k hk => by
    obtain ⟨_, y, hy, hg⟩ := hk
    rw [e4] at hy
    rcases List.mem_append.1 hy with hy | hy
    · rw [List.mem_singleton.1 hy] at hg
      exact .inl hg
    · rw [List.mem_singleton.1 hy] at hg
      exact .inr hg
  have g4 : (E2 4).length = 2 := by rw [e4]; rfl
  have j4 : (E1 4).length = 1 := by rw [f4]; rfl
  have HH := hide (And.intro hBw (And.intro hs0 (And.intro hbg (And.intro hc0 hc1))))
  have HR := hide (And.intro hr (And.intro eo hF))
  have HG := hide (And.intro g4 j4)
  have HE := hide (And.intro hE1 hE2)
  clear hb o0 o1 hlt hBw hs0 hbg hc0 hc1 hE1 hE2 f4 e4 eo hr hF g4 j4
  go_enter Tryz.func11, Tryz.ntmps11
  go_wp2_with fail
  go_loopg [4] 2 (fun q s4 wr => ∃ k : Nat, k + q = 2 ∧ s4 = .int .i64 k ∧ Kept (fun k => w.heap.size ≤ k) w wr ∧ w.heap.size ≤ wr.heap.size ∧
    (k = 0 → BG wr w.heap.size w.heap.size (fun _ => [])) ∧ (k = 1 → BG wr w.heap.size w.heap.size E1) ∧ (k = 2 → BG wr w.heap.size w.heap.size E2))
  case atStart => exact ⟨0, by omega, rfl, hW0 ▸ Kept.of_below HH.out.1, hW0 ▸ HH.out.1.size, fun _ => hW0 ▸ HH.out.2.2.1, fun h => by omega, fun h => by omega⟩
  case round =>
    obtain ⟨k, hkq, rfl, hK, hsz, b0, b1, b2⟩ := hrel
    have hbw : Below w.heap.size w wr := hK.below (fun _ h => h) (Nat.le_refl _)
    cases gk with
    | zero =>
      obtain rfl : k = 2 := by omega
      obtain ⟨hr, eo, hF⟩ := HR.out
      have hno : Kept (fun _ => False) w wr := Kept.of_below hbw
      have hap := apart_bg w.heap.size w.heap.size E2 wr (b2 rfl) eo (hr.kept hno (fun _ _ h => h)) (by have := HG.out.1; omega)
      have HF := hide (And.intro hbw hF)
      clear hr eo hF hno hbw hK b0 b1 b2
      go_wp2_with fail
      refine hap.mono ?_
      rintro e w9 ⟨rfl, hk9⟩
      have H9 := hide ((Kept.of_below (F := fun k => (Value.slice A0 n C0).ownBlock = some k ∨ (Value.slice A1 n C1).ownBlock = some k) HF.out.1).trans (hk9.mono (G := fun k => (Value.slice A0 n C0).ownBlock = some k ∨ (Value.slice A1 n C1).ownBlock = some k) (fun k _ e => HF.out.2 k e)) (fun _ _ h => h))
      clear hap hk9
      go_wp2_with fail
      go_ret
      exact ⟨rfl, H9.out⟩
    | succ q =>
      obtain ⟨hE1, hE2⟩ := HE.out
      have j4 := HG.out.2
      rcases (show k = 0 ∨ k = 1 by omega) with rfl | rfl
      · have hc := cell_thru HH.out.2.2.2.1 hbw
        have hpm := put_Texts w.heap.size w.heap.size (fun _ => []) A0 n C0 wr (by simp) hsz (b0 rfl)
        rw [hE1] at hpm
        have HK := hide (And.intro hK hsz)
        clear hK hsz b0 b1 b2 hbw hE1 hE2 j4
        go_wp2_with fail
        refine hpm.mono ?_
        rintro e w3 ⟨rfl, hb3, hk3⟩
        have H3 := hide (And.intro hb3 (And.intro (HK.out.1.trans hk3 (fun _ _ h => h)) (Nat.le_trans HK.out.2 hk3.size)))
        clear hpm hb3 hk3
        go_wp2_with fail
        go_roundg q
        case measure => omega
        case rel => exact ⟨1, by omega, by go_num, H3.out.2.1, H3.out.2.2, fun h => by omega, fun _ => H3.out.1, fun h => by omega⟩
      · have hc := cell_thru HH.out.2.2.2.2 hbw
        have hpm := put_Texts w.heap.size w.heap.size E1 A1 n C1 wr (by omega) hsz (b1 rfl)
        rw [hE2] at hpm
        have HK := hide (And.intro hK hsz)
        clear hK hsz b0 b1 b2 hbw hE1 hE2 j4
        go_wp2_with fail
        refine hpm.mono ?_
        rintro e w3 ⟨rfl, hb3, hk3⟩
        have H3 := hide (And.intro hb3 (And.intro (HK.out.1.trans hk3 (fun _ _ h => h)) (Nat.le_trans HK.out.2 hk3.size)))
        clear hpm hb3 hk3
        go_wp2_with fail
        go_roundg q
        case measure => omega
        case rel => exact ⟨2, by omega, by go_num, H3.out.2.1, H3.out.2.2, fun h => by omega, fun h => by omega, fun _ => H3.out.1⟩

/-- Any text is told of as the reference tells. -/
theorem tells_ba (b : ByteArray) (w : World) (h : b.size ≤ 1000000) : Calls Tryz.prog 4 #[.string b] w fun e w' => e = .returned (.bool true) ∧ Below w.heap.size w w' :=
  langTells_any b.data.toList w (by have : b.data.toList.length = b.size := Array.length_toList; omega)
theorem one_txt (j : Nat) (hj : j < 256) : ∃ b8 : UInt8, ∀ W : World, (convert 22 9 (.slice (some ⟨W.heap.size, 0, none⟩) 1 1)).run Tryz.prog (W.alloc (.cells #[.int .u8 (j : Nat)] 5)) = .ok (.string ⟨#[b8]⟩) (W.alloc (.cells #[.int .u8 (j : Nat)] 5)) := by
  have hl : (strOfNums ((tx (fun _ => j) 1).map fun x : Nat => (x : Int))).data.toList.length = 1 := by simp [strOfNums, tx]
  obtain ⟨b8, hb8⟩ := List.length_eq_one_iff.1 hl
  refine ⟨b8, fun W => ?_⟩
  have hb : Byt (W.alloc (.cells #[.int .u8 (j : Nat)] 5)) (some ⟨W.heap.size, 0, none⟩) 1 (fun _ => j) := ⟨fun _ => hj, .inr ⟨W.heap.size, 0, rfl, fun i hi => by
    obtain rfl : i = 0 := by omega
    exact (cell_new_l W _ _).1⟩⟩
  rw [conv_byt (c := 1) hb]
  have e : strOfNums ((tx (fun _ => j) 1).map fun x : Nat => (x : Int)) = ⟨#[b8]⟩ := by
    apply ByteArray.ext
    apply Array.toList_inj.1
    exact hb8
  unfold txt
  rw [e]

theorem strs_own {w : World} {B n C : Nat} {A : Option Addr} (h : w.ownsRow B 9 1 (.slice A n C) n (allL.map by8)) : Strs w A n (fun j => ⟨(allL.getD j []).toArray⟩) := by
  have hl := h.1
  rcases Nat.eq_zero_or_pos n with h0 | h0
  · exact .inl h0
  · obtain ⟨g, c, hv, _⟩ := owns_cell h (show (allL.map by8)[0]? = some (by8 (allL.getD 0 [])) by rfl)
    cases hv
    refine .inr ⟨g, 0, rfl, fun j hj => ?_⟩
    have hjl : j < allL.length := by rw [List.length_map] at hl; omega
    obtain ⟨g2, c2, hv2, hc, _⟩ := owns_cell h (show (allL.map by8)[j]? = some (by8 (allL.getD j [])) by rw [List.getElem?_map, List.getElem?_eq_getElem hjl, List.getD_eq_getElem?_getD, List.getElem?_eq_getElem hjl]; rfl)
    cases hv2
    rw [Nat.zero_add]
    exact hc
def extsB : ByteArray := ⟨([99, 32, 104, 32, 99, 99, 32, 99, 112, 112, 32, 104, 112, 112, 32, 99, 115, 115, 32, 103, 111, 32, 104, 116, 109, 108, 32, 106, 97, 118, 97, 32, 106, 115, 32, 109, 106, 115, 32, 106].append [115, 111, 110, 32, 109, 100, 32, 112, 121, 32, 114, 98, 32, 114, 115, 32, 115, 104, 32, 115, 113, 108, 32, 116, 120, 116, 32, 116, 115, 32, 121, 97, 109, 108, 32, 121, 109, 108, 32, 120]).toArray⟩
theorem exts_count : Lib.countB extsB ⟨#[32]⟩ = 22 := by decide +kernel
theorem exts_ok : (Lib.splitB ⟨#[32]⟩ 0 22 extsB).length = 23 ∧ ∀ x ∈ Lib.splitB ⟨#[32]⟩ 0 22 extsB, (1 ≤ x.size ∧ x.size ≤ 10) ∧ ∀ b ∈ x.data.toList, b.toNat < 128 := by decide +kernel
theorem ba_size1 (a : UInt8) : (⟨#[a]⟩ : ByteArray).size = 1 := rfl

set_option maxRecDepth 100000 in
set_option maxHeartbeats 4000000 in
theorem paths_any (m : Int) (w : World) (hm : w.cell? ⟨1, 0, none⟩ = some (.int .i64 m)) :
    Calls Tryz.prog 3 #[] w fun e w' => e = .returned (.bool true) ∧ Below w.heap.size w w' := by
  have HM := hide hm
  clear hm
  go_enter Tryz.func3, Tryz.ntmps3
  go_wp2_with fail
  go_loopg [1] 256 (fun q s1 wr => ∃ j : Nat, j + q = 256 ∧ s1 = .int .i64 (j : Nat) ∧ Below w.heap.size w wr)
  case atStart => exact ⟨0, by omega, rfl, Below.refl _ _⟩
  case round =>
    obtain ⟨j, hjq, rfl, hB⟩ := hrel
    have HB := hide hB
    clear hB
    cases gk with
    | succ q =>
      have hj : ((j : Nat) : Int) < 256 := by omega
      have hwr : IntKind.u8.wrap ((j : Nat) : Int) = (j : Nat) := by rw [IntKind.wrap_u8]; omega
      have hmd : ((j : Nat) : Int) % 256 = (j : Nat) := by omega
      obtain ⟨b8, hcv⟩ := one_txt j (by omega)
      go_wp2_with fail
      refine (tells_ba _ _ (by simp [ByteArray.size_append, ByteArray.size])).mono ?_
      rintro e w2 ⟨rfl, hb2⟩
      have H2 := hide (show Below wr.heap.size wr w2 from (below_alloc _ _).trans (hb2.mono (by simp)))
      clear hb2 hcv
      go_wp2_with fail
      refine (tells_ba _ _ (by simp [ByteArray.size_append, ByteArray.size])).mono ?_
      rintro e w3 ⟨rfl, hb3⟩
      have H3 := hide (below_thru H2.out hb3)
      clear hb3
      go_wp2_with fail
      refine (tells_ba _ _ (by simp [ByteArray.size_append, ByteArray.size])).mono ?_
      rintro e w4 ⟨rfl, hb4⟩
      have H4 := hide (below_thru H3.out hb4)
      clear hb4
      go_wp2_with fail
      refine (tells_ba _ _ (by simp [ByteArray.size_append, ByteArray.size])).mono ?_
      rintro e w5 ⟨rfl, hb5⟩
      have H5 := hide (below_thru H4.out hb5)
      clear hb5
      go_wp2_with fail
      refine (tells_ba _ _ (by simp [ByteArray.size_append, ByteArray.size])).mono ?_
      rintro e w6 ⟨rfl, hb6⟩
      have H6 := hide (below_thru HB.out (below_thru H5.out hb6))
      clear hb6
      go_wp2_with fail
      go_roundg q
      case measure => omega
      case rel => exact ⟨j + 1, by omega, by go_num, H6.out⟩
    | zero =>
      go_wp2_with fail
      go_loopg [3] 1024 (fun q s3 wr => ∃ n : Nat, n + q = 1024 ∧ s3 = .int .i64 (n : Nat) ∧ Below w.heap.size w wr)
      case atStart => exact ⟨0, by omega, rfl, HB.out⟩
      case round =>
        obtain ⟨n, hnq, rfl, hB⟩ := hrel
        have HB := hide hB
        clear hB
        cases gk with
        | succ q =>
          have hn : ((n : Nat) : Int) < 1024 := by omega
          go_wp2_with fail
          go_loopg [4, 5] n (fun q2 s4 s5 wr => ∃ b : ByteArray, s4 = .string b ∧ s5 = .int .i64 (q2 : Nat) ∧ b.size + 2 * q2 ≤ 2046 ∧ Below w.heap.size w wr)
          case atStart => exact ⟨⟨#[]⟩, rfl, rfl, by show 0 + 2 * n ≤ 2046; omega, HB.out⟩
          case round =>
            obtain ⟨b, rfl, rfl, hbs, hB2⟩ := hrel
            have HB2 := hide hB2
            clear hB2
            cases gk with
            | zero =>
              have hq1 : ¬ 9223372036854775807 < 1 + b.size := by omega
              have HS := hide hbs
              clear hbs
              go_wp2_with fail
              refine (tells_ba _ _ (by have := HS.out; omega)).mono ?_
              rintro e w2 ⟨rfl, hb2⟩
              have H2 := hide hb2
              clear hb2
              go_wp2_with fail
              refine (tells_ba _ _ (by rw [ByteArray.size_append]; have := HS.out; rw [ba_size1]; omega)).mono ?_
              rintro e w3 ⟨rfl, hb3⟩
              have H3 := hide (below_thru HB2.out (below_thru H2.out hb3))
              clear hb3
              go_wp2_with fail
              go_roundg q
              case measure => omega
              case rel => exact ⟨n + 1, by omega, by go_num, H3.out⟩
            | succ k =>
              have hk0 : (0 : Int) < ((k + 1 : Nat) : Int) := by omega
              have hkb : k ≤ 1023 := by omega
              have hdv : ((k + 1 : Nat) : Int) / 4 = (((k + 1) / 4 : Nat) : Int) := by omega
              have hq1 : ¬ 9223372036854775807 < b.size + 1 := by omega
              have hq2 : ¬ 9223372036854775807 < b.size + 2 := by omega
              have hcs : ∀ i u, [Value.string ⟨#[47]⟩, .string ⟨#[46]⟩, .string ⟨#[99]⟩, .string ⟨#[103, 111]⟩][i]? = some u → (wr.alloc (.cells #[.string ⟨#[47]⟩, .string ⟨#[46]⟩, .string ⟨#[99]⟩, .string ⟨#[103, 111]⟩] 9)).cell? ⟨wr.heap.size, i, none⟩ = some u := fun i u h => by
                rw [cell_of_row _ wr.heap.size i _ _ _ (heap_alloc_new wr _), List.getElem?_toArray]
                exact h
              have k0 := hcs 0 _ rfl
              have k1 := hcs 1 _ rfl
              have k2 := hcs 2 _ rfl
              have k3 := hcs 3 _ rfl
              have hBa := hide (below_alloc wr (.cells #[.string ⟨#[47]⟩, .string ⟨#[46]⟩, .string ⟨#[99]⟩, .string ⟨#[103, 111]⟩] 9))
              have HS := hide hbs
              clear hcs hbs
              rcases (show (k + 1) % 4 = 0 ∨ (k + 1) % 4 = 1 ∨ (k + 1) % 4 = 2 ∨ (k + 1) % 4 = 3 by omega) with hr | hr | hr | hr
              all_goals
                go_wp2_with fail
                go_roundg ((k + 1) / 4)
                case measure => omega
                case rel => exact ⟨_, rfl, by go_num, by rw [ByteArray.size_append]; have := HS.out; simp only [ByteArray.size, List.size_toArray, List.length_cons, List.length_nil] at this ⊢; omega, below_thru HB2.out hBa.out⟩
        | zero =>
          go_wp2_with fail
          go_loopg [6] 5 (fun q s6 wr => ∃ n : Nat, n + q = 203 ∧ 198 ≤ n ∧ s6 = .int .i64 (n : Nat) ∧ Below w.heap.size w wr)
          case atStart => exact ⟨198, by omega, by omega, rfl, HB.out⟩
          case round =>
            obtain ⟨n, hnq, hn198, rfl, hB⟩ := hrel
            have HB := hide hB
            clear hB
            cases gk with
            | succ q =>
              have hn : ((n : Nat) : Int) < 203 := by omega
              have hn2 : n ≤ 203 := by omega
              have r1 := fun W => Tryz.strings_Repeat ⟨#[97]⟩ n W (by omega) (by rw [ba_size1]; omega)
              have r2 := fun W => Tryz.strings_Repeat ⟨#[97, 47]⟩ (n / 2) W (by omega) (by show 2 * (n / 2) ≤ _; omega)
              have l1 : (⟨(Lib.repeatL (⟨#[97]⟩ : ByteArray).data.toList n).toArray⟩ : ByteArray).size = n := by simp [ByteArray.size, Lib.repeatL_length]
              have l2 : (⟨(Lib.repeatL (⟨#[97, 47]⟩ : ByteArray).data.toList (n / 2)).toArray⟩ : ByteArray).size = n / 2 * 2 := by simp [ByteArray.size, Lib.repeatL_length]
              rw [show ((n / 2 : Nat) : Int) = ((n : Nat) : Int) / 2 by omega] at r2
              generalize (⟨(Lib.repeatL (⟨#[97]⟩ : ByteArray).data.toList n).toArray⟩ : ByteArray) = R1 at r1 l1
              generalize (⟨(Lib.repeatL (⟨#[97, 47]⟩ : ByteArray).data.toList (n / 2)).toArray⟩ : ByteArray) = R2 at r2 l2
              have HL := hide (And.intro l1 l2)
              have hq1 : ¬ 9223372036854775807 < R2.size + 1 := by omega
              have hn0 : (0 : Int) < ((n : Nat) : Int) := by omega
              have hn00 : (0 : Int) ≤ ((n : Nat) : Int) := by omega
              clear l1 l2
              go_wp2_with fail
              refine (r1 _).mono ?_
              rintro e w2 ⟨rfl, hb2⟩
              have H2 := hide hb2
              clear hb2 r1
              go_wp2_with fail
              refine (tells_ba _ _ (by have := HL.out.1; omega)).mono ?_
              rintro e w3 ⟨rfl, hb3⟩
              have H3 := hide (below_thru H2.out hb3)
              clear hb3
              go_wp2_with fail
              refine (r2 _).mono ?_
              rintro e w4 ⟨rfl, hb4⟩
              have H4 := hide (below_thru H3.out hb4)
              clear hb4 r2
              go_wp2_with fail
              refine (tells_ba _ _ (by rw [ByteArray.size_append, ba_size1]; have := HL.out.2; omega)).mono ?_
              rintro e w5 ⟨rfl, hb5⟩
              have H5 := hide (below_thru HB.out (below_thru H4.out hb5))
              clear hb5
              go_wp2_with fail
              go_roundg q
              case measure => omega
              case rel => exact ⟨n + 1, by omega, by omega, by go_num, H5.out⟩
            | zero =>
              obtain rfl : n = 203 := by omega
              have hsp := Tryz.strings_Split extsB ⟨#[32]⟩ m wr (by decide) (cell_thru HM.out HB.out) (by decide)
              rw [exts_count] at hsp
              simp only [Nat.reduceAdd] at hsp
              obtain ⟨hxl, hxo⟩ := exts_ok
              generalize Lib.splitB ⟨#[32]⟩ 0 22 extsB = X at hsp hxl hxo
              have HX := hide (And.intro hxl hxo)
              unfold extsB at hsp
              clear hxl hxo
              go_wp2_with fail
              refine hsp.mono ?_
              rintro e w2 ⟨rfl, hw2⟩
              have hrow : ∀ i x, X[i]? = some x → w2.cell? ⟨wr.heap.size, i, none⟩ = some (.string x) := fun i x h => by
                rw [hw2, cell_of_row _ wr.heap.size i _ _ _ (heap_alloc_new wr _), List.getElem?_toArray, List.getElem?_map, h]
                rfl
              have H2 := hide (And.intro hrow (show Below w.heap.size w w2 from below_thru HB.out (by rw [hw2]; exact below_alloc _ _)))
              clear hsp hw2 hrow
              go_wp2_with fail
              go_loopg [8] 23 (fun q s8 wx => ∃ i : Nat, i + q = 23 ∧ s8 = .int .i64 (i : Nat) ∧ Below w2.heap.size w2 wx)
              case atStart => exact ⟨0, by omega, rfl, Below.refl _ _⟩
              case round =>
                obtain ⟨i, hiq, rfl, hBx⟩ := hrel
                have HBx := hide hBx
                cases gk with
                | succ q =>
                  obtain ⟨x, hx⟩ : ∃ x, X[i]? = some x := ⟨_, List.getElem?_eq_getElem (show i < X.length by rw [HX.out.1]; omega)⟩
                  obtain ⟨hxs, hxa⟩ := HX.out.2 x (List.mem_of_getElem? hx)
                  have hc := cell_thru (H2.out.1 i x hx) hBx
                  have hi23 : ((i : Nat) : Int) < 23 := by omega
                  have hx1 : (1 : Int) ≤ (x.size : Int) := by omega
                  obtain ⟨y, hy⟩ : ∃ y, x.extract 1 x.size = y := ⟨_, rfl⟩
                  have hys : y.size ≤ 10 := by rw [← hy, ByteArray.size_extract]; omega
                  have hsl : ∀ W : World, (Instr.slice 9 (.string x) (some (.int .i64 1)) none none).run Tryz.prog W = .ok (.string y) W := fun W => by
                    rw [run_slice_string_l W 9 x Tryz.underlying9 _ _ (by omega) (by omega), ← hy]
                    rfl
                  have hup := fun W => Tryz.strings_ToUpper_ascii x W (by omega) (fun j b hb => hxa b (List.mem_of_getElem? hb))
                  obtain ⟨U, hU⟩ : ∃ U, (⟨(Lib.toUpperA x.data.toList).toArray⟩ : ByteArray) = U := ⟨_, rfl⟩
                  have hUs : U.size ≤ 10 := by
                    have hl : x.data.toList.length = x.size := Array.length_toList
                    rw [← hU]
                    show (Lib.toUpperA x.data.toList).toArray.size ≤ 10
                    rw [List.size_toArray]
                    unfold Lib.toUpperA
                    rw [List.length_map]
                    omega
                  rw [hU] at hup
                  have g1 : ¬ 9223372036854775807 < 2 + x.size := by omega
                  have g2 : ¬ 9223372036854775807 < 2 + x.size + 1 := by omega
                  have g3 : ¬ 9223372036854775807 < 2 + x.size + 2 := by omega
                  have g4 : ¬ 9223372036854775807 < 2 + y.size := by omega
                  have g5 : ¬ 9223372036854775807 < 2 + U.size := by omega
                  have g6 : ¬ 9223372036854775807 < 5 + x.size := by omega
                  have g7 : ¬ 9223372036854775807 < 1 + x.size := by omega
                  have g8 : ¬ 9223372036854775807 < 1 + x.size + 1 := by omega
                  have g9 : ¬ 9223372036854775807 < 1 + x.size + 1 + x.size := by omega
                  have HXS := hide (And.intro hxs (And.intro hys hUs))
                  have c1 : (⟨#[97, 46]⟩ : ByteArray).size = 2 := rfl
                  have c2 : (⟨#[47, 98]⟩ : ByteArray).size = 2 := rfl
                  have c3 : (⟨#[98, 46, 120, 47, 46]⟩ : ByteArray).size = 5 := rfl
                  have HC := hide (And.intro c1 (And.intro c2 c3))
                  clear hxs hxa hys hUs hU hy hx hBx c1 c2 c3
                  go_wp2_with fail
                  refine (tells_ba _ _ (by have := HXS.out; have := HC.out; simp only [ByteArray.size_append, ba_size1]; omega)).mono ?_
                  rintro e w3 ⟨rfl, hb3⟩
                  have H3 := hide hb3
                  clear hb3 hc
                  go_wp2_with fail
                  refine (tells_ba _ _ (by have := HXS.out; have := HC.out; simp only [ByteArray.size_append, ba_size1]; omega)).mono ?_
                  rintro e w4 ⟨rfl, hb4⟩
                  have H4 := hide (below_thru H3.out hb4)
                  clear hb4
                  go_wp2_with fail
                  refine (tells_ba _ _ (by have := HXS.out; have := HC.out; simp only [ByteArray.size_append, ba_size1]; omega)).mono ?_
                  rintro e w5 ⟨rfl, hb5⟩
                  have H5 := hide (below_thru H4.out hb5)
                  clear hb5
                  go_wp2_with fail
                  refine (hup _).mono ?_
                  rintro e w6 ⟨rfl, hb6⟩
                  have H6 := hide (below_thru H5.out hb6)
                  clear hb6 hup
                  go_wp2_with fail
                  refine (tells_ba _ _ (by have := HXS.out; have := HC.out; simp only [ByteArray.size_append, ba_size1]; omega)).mono ?_
                  rintro e w7 ⟨rfl, hb7⟩
                  have H7 := hide (below_thru H6.out hb7)
                  clear hb7
                  go_wp2_with fail
                  refine (tells_ba _ _ (by have := HXS.out; have := HC.out; simp only [ByteArray.size_append, ba_size1]; omega)).mono ?_
                  rintro e w8 ⟨rfl, hb8⟩
                  have H8 := hide (below_thru H7.out hb8)
                  clear hb8
                  go_wp2_with fail
                  refine (tells_ba _ _ (by have := HXS.out; have := HC.out; simp only [ByteArray.size_append, ba_size1]; omega)).mono ?_
                  rintro e w9 ⟨rfl, hb9⟩
                  have H9 := hide (below_thru H8.out hb9)
                  clear hb9
                  go_wp2_with fail
                  refine (tells_ba _ _ (by have := HXS.out; have := HC.out; simp only [ByteArray.size_append, ba_size1]; omega)).mono ?_
                  rintro e w10 ⟨rfl, hb10⟩
                  have H10 := hide (below_thru H9.out hb10)
                  clear hb10
                  go_wp2_with fail
                  refine (tells_ba _ _ (by have := HXS.out; omega)).mono ?_
                  rintro e w11 ⟨rfl, hb11⟩
                  have H11 := hide (below_thru HBx.out (below_thru H10.out hb11))
                  clear hb11
                  go_wp2_with fail
                  go_roundg q
                  case measure => omega
                  case rel => exact ⟨i + 1, by omega, by go_num, H11.out⟩
                | zero =>
                  have HW := hide (below_thru H2.out.2 hBx)
                  clear hBx
                  have hal : allL.length ≤ 1000 := by decide +kernel
                  obtain ⟨nL, hnL⟩ : ∃ n, allL.length = n := ⟨_, rfl⟩
                  have aO := fun W => all_own (w := W)
                  have rO := fun W => refAll_any (w := W)
                  rw [hnL] at aO rO hal
                  have HNL := hide hal
                  clear hal hnL
                  go_wp2_with fail
                  refine (aO _).mono ?_
                  rintro e w3 ⟨g1, C1, rfl, hg1, _, hb3, o1⟩
                  have HA := hide (And.intro o1 (And.intro (below_thru HW.out hb3) hb3.size))
                  clear hb3 o1
                  go_wp2_with fail
                  refine (aO _).mono ?_
                  rintro e w4 ⟨g2, C2, rfl, hg2, _, hb4, o2⟩
                  have HB2 := hide (And.intro o2 (And.intro (owns_thru HA.out.1 hb4) (below_thru HA.out.2.1 hb4)))
                  clear hb4 o2
                  go_wp2_with fail
                  refine (rO _).mono ?_
                  rintro e w5 ⟨A3, C3, rfl, o3, hb5⟩
                  have hs1 := sameTexts_any _ A3 nL C1 C3 _ w5 (by have := HNL.out; omega) (strs_own (owns_thru HB2.out.2.1 hb5)) (strs_own o3)
                  have H5 := hide (And.intro (owns_thru HB2.out.1 hb5) (And.intro (owns_thru HB2.out.2.1 hb5) (below_thru HB2.out.2.2 hb5)))
                  clear hb5 o3
                  go_wp2_with fail
                  refine hs1.mono ?_
                  rintro e w6 ⟨rfl, hb6⟩
                  obtain ⟨W7, hW7⟩ : ∃ W7, w6.alloc (.cells #[.slice (some ⟨g1, 0, none⟩) nL C1, .slice (some ⟨g2, 0, none⟩) nL C2] 24) = W7 := ⟨_, rfl⟩
                  have hb7 : Below w6.heap.size w6 W7 := by rw [← hW7]; exact below_alloc _ _
                  have h67 := below_thru hb6 hb7
                  have hap := apartTexts_any w6.heap.size _ _ nL C1 C2 _ _ _ _ W7 (by rw [← hW7]; exact heap_alloc_new _ _) (owns_thru H5.out.2.1 h67) (owns_thru H5.out.1 h67) HNL.out (fun k hk => (owns_cells HA.out.1 k hk).1)
                  have H7 := hide (And.intro (below_thru H5.out.2.2 h67) (And.intro (owns_thru H5.out.2.1 h67) (owns_thru H5.out.1 h67)))
                  have HW7 := hide hW7
                  clear hs1 hb6 hb7 h67 hW7
                  go_wp2_with fail
                  rw [HW7.out]
                  refine hap.mono ?_
                  rintro e w8 ⟨rfl, hk8⟩
                  have hB8 : Below w.heap.size w w8 := H7.out.1.trans (hk8.below (fun k hk => by
                    have s1 := HW.out.size
                    have s2 := HA.out.2.1.size
                    rcases hk with hk | hk
                    · have := (owns_cells H7.out.2.1 k hk).2.1; omega
                    · have := (owns_cells H7.out.2.2 k hk).2.1; omega) H7.out.1.size)
                  have H8 := hide hB8
                  clear hap hk8 hB8
                  go_wp2_with fail
                  refine (aO _).mono ?_
                  rintro e w9 ⟨g3, C4, rfl, hg3, _, hb9, o4⟩
                  have H9 := hide (And.intro o4 (below_thru H8.out hb9))
                  clear hb9 o4
                  go_wp2_with fail
                  refine (rO _).mono ?_
                  rintro e w10 ⟨A5, C5, rfl, o5, hb10⟩
                  have hs2 := sameTexts_any _ A5 nL C4 C5 _ w10 (by have := HNL.out; omega) (strs_own (owns_thru H9.out.1 hb10)) (strs_own o5)
                  have H10 := hide (below_thru H9.out.2 hb10)
                  clear hb10 o5 aO rO
                  go_wp2_with fail
                  refine hs2.mono ?_
                  rintro e w11 ⟨rfl, hb11⟩
                  have haw := awake_any w11
                  have H11 := hide (below_thru H10.out hb11)
                  clear hs2 hb11
                  go_wp2_with fail
                  refine haw.mono ?_
                  rintro e w12 ⟨rfl, hb12⟩
                  have H12 := hide (below_thru H11.out hb12)
                  clear haw hb12
                  go_wp2_with fail
                  go_ret
                  exact ⟨rfl, H12.out⟩
end Go.Proofs.YtdjdlkobfmahpaaGreatDoor
