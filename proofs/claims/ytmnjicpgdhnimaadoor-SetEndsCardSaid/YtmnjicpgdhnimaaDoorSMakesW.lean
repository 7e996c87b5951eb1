/-
  SetMakes's walk.
-/
import Derived.Test.YtmnjicpgdhnimaaDoorSMakesR
import Derived.Test.YtmnjicpgdhnimaaDoorLent
import Derived.Test.YtmnjicpgdhnimaaDoorRows2
import Derived.Deep.Upon
import Derived.Deep.AppendSrc
namespace Go.Proofs.YtmnjicpgdhnimaaDoor
open Go.RowKit Go.Shelf

attribute [local go_sem] Oper.semAt_some

/-- Sets appended to an own row, from nowhere too. -/
theorem wpList_append_sets {P : Program} (w : World) {ops : Array Oper} {rest : List Oper} {o : Oper} {a : Act} {Q : Exit → Act → World → Prop} (hgd : o.guard = none) (s x : Operand) (t : TypeId)
    (ho : o.op = .call { callee := .builtin .append, args := #[s, x], argTypes := #[t, t] })
    (e : TypeId) (i : TypeInfo) (z : Value) (size bytes : Nat) (ht : P.underlying t = some (.slice e)) (hi : P.info? e = some i) (hz : i.zero = some z)
    (hsize : i.size = size) (hby : i.bytes = bytes) (hzs : z.cells.size = size) (hsz : 0 < size)
    (base : Nat) (v : Value) (n : Nat) (xs : List Value) (hs : a.eval s = v) (hown : w.ownsRow base e size v n xs)
    (b : Option Addr) (m c : Nat) (news : List Value) (hx : a.eval x = .slice b m c) (hbn : b = none → m = 0) (hl : news.length = m * size) (hnews : ∀ ad, b = some ad → ∀ j u, news[j]? = some u → w.cell? (ad.add j) = some u) (h1 : ∀ u ∈ news, u.oneCell' = true)
    (h63 : n + m ≤ maxLen) (hbytes : (n + m) * bytes ≤ 140737488355328) (hbase : base ≤ w.heap.size)
    (h : ∀ A' C' w', w'.ownsRow base e size (.slice A' (n + m) C') (n + m) (xs ++ news) → Grew w w' v (.slice A' (n + m) C') → wpList P ops Q rest (a.put o.dst (.slice A' (n + m) C')) w') : wpList P ops Q (o :: rest) a w := by
  cases b with
  | some ad => exact wpList_append_keepS w hgd s x t ho e i z size bytes ht hi hz hsize hby hzs hsz base v n xs hs hown ad m c news hx hl (hnews ad rfl) h1 h63 hbytes hbase fun A' C' w' h2 h3 _ => h A' C' w' h2 h3
  | none =>
    obtain rfl := hbn rfl
    obtain rfl : news = [] := List.eq_nil_of_length_eq_zero (by omega)
    obtain ⟨A, C, rfl⟩ := owns_slice hown
    refine wpList_plain hgd fun K hK => ?_
    have hle : n ≤ C := by
      obtain ⟨_, ⟨hv, _⟩ | ⟨g, cap, cur, hv, _, _, hnc, _⟩⟩ := hown
      · cases hv; omega
      · cases hv; exact hnc
    have hr := run_append_nothing (P := P) w t t o.type e i ht hi A n C hle (.slice none 0 c) (Src.ofNil w ht c)
    unfold Oper.wp execOp
    simp only [ho, resolve, invoke, builtin, Sem.run_bind, Sem.run_pure, Result.andThen_ok, List.map_toArray, List.map_cons, List.map_nil, hs, hx, hr]
    refine hK _ _ (h A C w ?_ ?_)
    · rw [List.append_nil]; exact hown
    · intro F hF; exact ⟨Kept.refl F w, fun g hg => .inl (hF g hg)⟩
theorem setsC_news {w : World} {ad : Addr} {m : Nat} {F : Nat → Nat → Bool} (h : Sets w (some ad) m F) : ∀ j u, (setsC F m)[j]? = some u → w.cell? (ad.add j) = some u := by
  intro j u hj
  have hlt : j < m * 4 := by have := (List.getElem?_eq_some_iff.1 hj).1; rw [setsC_length] at this; exact this
  rcases h with h | ⟨b, off, e, hc⟩
  · omega
  · cases e
    have e2 : (⟨b, off, none⟩ : Addr).add j = ⟨b, off + j, none⟩ := by
      unfold Addr.add
      split
      · rename_i e; subst e; rfl
      · rfl
    have h4 : j = j / 4 * 4 + j % 4 := by omega
    have hg := setsC_get F m (j / 4) (j % 4) (by omega) (by omega)
    rw [← h4, hj] at hg
    cases hg
    have := hc (j / 4) (by omega) (j % 4) (by omega)
    rw [e2, show off + j = off + j / 4 * 4 + j % 4 by omega]
    exact this
theorem setsC_one (F : Nat → Nat → Bool) : ∀ n, ∀ u ∈ setsC F n, u.oneCell' = true
  | 0, u, h => by cases h
  | n + 1, u, h => by
    unfold setsC at h
    rcases List.mem_append.1 h with h | h
    · exact setsC_one F n u h
    · simp only [List.mem_cons, List.not_mem_nil, or_false] at h
      rcases h with rfl | rfl | rfl | rfl <;> rfl

set_option maxRecDepth 100000 in
set_option maxHeartbeats 4000000 in
theorem setMakes_any (a : Option Addr) (len cap : Nat) (z : Nat → Nat) (lo hi : Nat) (b : Option Addr) (m c : Nat) (F : Nat → Nat → Bool) (w : World) (hlc : len ≤ cap) (hnn : a = none → cap = 0) (hz : Byt w a len z)
    (hlo : lo < 256) (hhi : hi < 256) (hm : m ≤ 140737488351232) (hbn : b = none → c = 0) (hmc : m ≤ c) (hS : Sets w b m F) (hT : Tab w) :
    Calls Tryd.prog 4 #[.slice a len cap, .int .u8 lo, .int .u8 hi, .slice b m c] w fun e w' => e = .returned (.bool true) ∧ Below w.heap.size w w' := by
  have HZ := hide hz
  have HS := hide hS
  have HT := hide hT
  have HN := hide (And.intro hnn hbn)
  clear hz hS hT hnn hbn
  go_enter Tryd.func4, Tryd.ntmps4
  have hq1 : (len : Int) > 600 ↔ ¬ (len ≤ 600) := by omega
  have hq2 : (m : Int) > 600 ↔ ¬ (m ≤ 600) := by omega
  by_cases h1 : len ≤ 600
  · have h1' : ¬ (600 : Int) < (len : Int) := by omega
    by_cases h2 : m ≤ 600
    · have h2' : ¬ (600 : Int) < (m : Int) := by omega
      go_wp2_with fail
      refine (lentBytes_any a len cap z w (by omega) HN.out.1 hlc HZ.out).mono ?_
      rintro e w1 ⟨g, rfl, hg, hblk, hb1⟩
      have H1 := hide (And.intro hb1 (And.intro hblk hg))
      clear hb1 hblk hg
      obtain ⟨i0, hi0, hq0, hq1, hq2⟩ := info_parts info_set
      have hrow : (w1.alloc (.cells #[] 24)).ownsRow w1.heap.size 24 4 (.slice (some ⟨w1.heap.size, 0, none⟩) 0 0) 0 [] := ⟨rfl, .inr ⟨w1.heap.size, 0, #[], rfl, Nat.le_refl _, heap_alloc_new _ _, by omega, by omega, rfl, rfl⟩⟩
      have hbA := below_alloc w1 (.cells #[] 24)
      have hSA := (HS.out.below H1.out.1).below hbA
      go_wp2_with (at_builtin; go_must (refine wpList_append_sets _ rfl (.tmp 23) (.tmp 24) 31 rfl 24 i0 (.agg #[.int .u64 0, .int .u64 0, .int .u64 0, .int .u64 0]) 4 32 Tryd.underlying31 hi0 hq0 hq1 hq2 rfl (by omega) w1.heap.size _ 0 [] rfl hrow b m c (setsC F m) rfl (fun e => by have := HN.out.2 e; omega) (setsC_length F m) (fun ad e => setsC_news (by rw [← e]; exact hSA)) (setsC_one F m) (by unfold maxLen; omega) (by omega) (Nat.le_of_lt (by simp)) ?_); intro A C w2 hown2 hg2)
      have hg2' : Grew (w1.alloc (.cells #[] 24)) w2 (.slice (some ⟨w1.heap.size, 0, none⟩) 0 0) (.slice A (0 + m) C) := hg2
      rw [Nat.zero_add, List.nil_append] at hown2
      have hk2 := hg2'.kept (F := fun y => y = w1.heap.size) (fun y hy => by cases hy; rfl)
      have hbel2 : Below w1.heap.size w1 w2 := (Kept.of_below (F := fun y => y = w1.heap.size) hbA |>.trans hk2 (fun _ _ h => h)).below (fun y hy => by omega) (Nat.le_refl _)
      have H2 := hide (And.intro (H1.out.1.trans (hbel2.mono H1.out.1.size)) (And.intro hown2 hbel2))
      clear hk2 hbel2 hg2 hg2' hown2 hbA hSA hrow
      have he1 := fun W => eqSt (inz z len) (inz z len) W true (by simp)
      have he2 := fun W => eqSt (rng lo hi) (rng lo hi) W true (by simp)
      have he3 := fun W => eqSt (anyS F m) (anyS F m) W true (by simp)
      have he4 := fun W => eqSt (allS F m) (allS F m) W true (by simp)
      simp only [st, sc] at he1 he2 he3 he4
      go_wp2_with fail
      have hin := hide (fun W (h : Below w1.heap.size w1 W) => (show Byt W (some ⟨g, 0, none⟩) len z from ⟨HZ.out.1, .inr ⟨g, 0, rfl, fun i hi => by rw [Nat.zero_add, cell_thru (H1.out.2.1.cell (show i < len + 12 by omega)) h]; simp [lent, hi]⟩⟩))
      have hb12 := H2.out.2.2
      refine (of_any (some ⟨g, 0, none⟩) len (len + 12) z w2 (by omega) (hin.out w2 hb12)).mono ?_
      rintro e w3 ⟨rfl, hb3⟩
      have R3 := hide hb3
      clear hb3
      simp only [sv, st, sc]
      go_wp2_with fail
      refine (refOf_any a len cap z w3 (by omega) (HZ.out.below (H2.out.1.trans (R3.out.mono H2.out.1.size)))).mono ?_
      rintro e w4 ⟨rfl, hb4⟩
      have R4 := hide (R3.out.trans (hb4.mono R3.out.size))
      clear hb4
      simp only [sv, st, sc]
      go_wp2_with fail
      refine (range_any lo hi w4 hlo hhi).mono ?_
      rintro e w5 ⟨rfl, hb5⟩
      have R5 := hide (R4.out.trans (hb5.mono R4.out.size))
      clear hb5
      simp only [sv, st, sc]
      go_wp2_with fail
      refine (refRange_any lo hi w5 hlo hhi).mono ?_
      rintro e w6 ⟨rfl, hb6⟩
      have R6 := hide (R5.out.trans (hb6.mono R5.out.size))
      clear hb6
      simp only [sv, st, sc]
      go_wp2_with fail
      refine (union_any A m C F w6 (by omega) (owns_sets (owns_thruS H2.out.2.1 R6.out))).mono ?_
      rintro e w7 ⟨rfl, hb7⟩
      have R7 := hide (R6.out.trans (hb7.mono R6.out.size))
      clear hb7
      simp only [sv, st, sc]
      go_wp2_with fail
      refine (refUnion_any b m c F w7 (by omega) (HS.out.below (H2.out.1.trans (R7.out.mono H2.out.1.size)))).mono ?_
      rintro e w8 ⟨rfl, hb8⟩
      have R8 := hide (R7.out.trans (hb8.mono R7.out.size))
      clear hb8
      simp only [sv, st, sc]
      go_wp2_with fail
      refine (meet_any A m C F w8 (by omega) (owns_sets (owns_thruS H2.out.2.1 R8.out)) (HT.out.below (H2.out.1.trans (R8.out.mono H2.out.1.size)))).mono ?_
      rintro e w9 ⟨rfl, hb9⟩
      have R9 := hide (R8.out.trans (hb9.mono R8.out.size))
      clear hb9
      simp only [sv, st, sc]
      go_wp2_with fail
      refine (refMeet_any b m c F w9 (by omega) (HS.out.below (H2.out.1.trans (R9.out.mono H2.out.1.size)))).mono ?_
      rintro e w10 ⟨rfl, hb10⟩
      have R10 := hide (R9.out.trans (hb10.mono R9.out.size))
      clear hb10
      simp only [sv, st, sc]
      go_wp2_with fail
      clear he1 he2 he3 he4
      go_loopg [11] m (fun q s11 wr => ∃ k : Nat, k + q = m ∧ s11 = .int .i64 k ∧ Below w10.heap.size w10 wr)
      case atStart => exact ⟨0, by omega, rfl, Below.refl _ _⟩
      case round =>
        obtain ⟨k, hkq, rfl, hbr⟩ := hrel
        have HB := hide hbr
        clear hbr
        cases gk with
        | succ q =>
          have hkm : k < m := by omega
          have hk1 : (k : Int) < (m : Int) := by omega
          have hk0 : (0 : Int) ≤ (k : Int) := by omega
          obtain ⟨gA, CA, eA, _⟩ := owns_cellS H2.out.2.1 (setsC_get F m k 0 hkm (by omega))
          cases eA
          rcases HS.out with hz0 | ⟨gb, off, rfl, hcb⟩
          · omega
          have hA := hide (fun W (h : Below wr.heap.size wr W) j (hj : j < 4) => (show W.cell? ⟨gA, k * 4 + j, none⟩ = some (.int .u64 (wd (F k) j : Nat)) from by
            obtain ⟨g1, C1, e1, c1, _⟩ := owns_cellS H2.out.2.1 (setsC_get F m k j hkm hj)
            cases e1
            exact cell_thru c1 (R10.out.trans ((HB.out.trans (h.mono HB.out.size)).mono R10.out.size))))
          have hb2 := hide (fun W (h : Below wr.heap.size wr W) j (hj : j < 4) => cell_thru (hcb k hkm j hj) (H2.out.1.trans ((R10.out.trans ((HB.out.trans (h.mono HB.out.size)).mono R10.out.size)).mono H2.out.1.size)))
          clear hcb
          go_wp2_with fail
          refine (wpIn_wide (n := 0)).1 (smk10 wide_plain gA gb off m C c k (F k) _ _ _ _ rfl rfl rfl rfl hkm hA.out hb2.out ?_)
          intro vs w11 hb11 h68
          simp only [List.foldl_cons, List.foldl_nil, List.setIfInBounds_toArray, List.set_cons_succ, List.set_cons_zero]
          rw [h68]
          have HB2 := hide (HB.out.trans (hb11.mono HB.out.size))
          clear hb11 h68
          go_wp2_with fail
          go_roundg q
          case measure => omega
          case rel => exact ⟨k + 1, by omega, by go_num, HB2.out⟩
        | zero =>
          obtain rfl : k = m := by omega
          have hkz : ¬ ((k : Int) < (k : Int)) := by omega
          have hw1 := hide (H2.out.2.2.trans ((R10.out.trans (HB.out.mono R10.out.size)).mono H2.out.2.2.size))
          have HW := hide (H1.out.1.trans (hw1.out.mono H1.out.1.size))
          go_wp2_with fail
          refine (keptBytes_any g a len cap z wr (by omega) (H1.out.2.1.below hw1.out) (HZ.out.below HW.out)).mono ?_
          rintro e w12 ⟨rfl, hb12⟩
          have H12 := hide (HW.out.trans (hb12.mono HW.out.size))
          clear hb12
          go_wp2_with fail
          refine (awake_any w12 (HT.out.below H12.out)).mono ?_
          rintro e w13 ⟨rfl, hb13⟩
          have H13 := hide (H12.out.trans (hb13.mono H12.out.size))
          clear hb13
          go_wp2_with fail
          go_ret
          exact ⟨rfl, H13.out⟩
    · have h2' : (600 : Int) < (m : Int) := by omega
      go_wp2_with fail
      refine (awake_any w HT.out).mono ?_
      rintro e w1 ⟨rfl, hb1⟩
      go_wp2_with fail
      go_ret
      exact ⟨rfl, hb1⟩
  · have h1' : (600 : Int) < (len : Int) := by omega
    go_wp2_with fail
    refine (awake_any w HT.out).mono ?_
    rintro e w1 ⟨rfl, hb1⟩
    go_wp2_with fail
    go_ret
    exact ⟨rfl, hb1⟩
end Go.Proofs.YtmnjicpgdhnimaaDoor
