/-
  gram.Grams.
-/
import Derived.Test.YtpdlapnliiengaaGreatGSets
namespace Go.Proofs.YtpdlapnliiengaaGreat
open Go.RowKit Go.Shelf

attribute [local go_sem] Oper.semAt_some

theorem info_string : (Tryz.prog.info? 9).map (fun i => (i.zero, i.size, i.bytes)) = some (some (.string ⟨#[]⟩), 1, 16) := by kernel_rfl
/-- Between two rounds. -/
def GrI (z : Nat → Nat) (w0 : World) (B m : Nat) (s : List Nat × (Nat → Prop)) (X : World) : Prop :=
  X.heap[B]? = some (.cells #[.map (some m)] 55 (0, 0)) ∧ MapG X m (esL z s.1) ∧ (∀ k, ¬ s.2 k) ∧ Below w0.heap.size w0 X
theorem GrI.still {z : Nat → Nat} {w0 : World} {B m N : Nat} {s : List Nat × (Nat → Prop)} {X Y : World} (h : GrI z w0 B m s X) (hs : Still N X Y) (hN : w0.heap.size ≤ N) (hm : m < N) : GrI z w0 B m s Y := by
  obtain ⟨h1, h2, h3, h4⟩ := h
  exact ⟨hs.cells _ _ _ _ h1, h2.keep ((hs.others _ _ hm h2.at_ rfl).trans h2.at_.symm), h3, h4.trans (hs.below hN h4.size)⟩

set_option maxRecDepth 100000 in
set_option maxHeartbeats 2000000 in
theorem grams_any (a : Option Addr) (len cap : Nat) (z : Nat → Nat) (w : World) (hlen : len ≤ 1000000) (hz : Byt w a len z) :
    Calls Tryz.prog 10 #[.slice a len cap] w fun e w' => ∃ v, e = .returned v ∧ w'.ownsRow w.heap.size 9 1 v (esL z (List.range (len - 2))).length ((sortK (esL z (List.range (len - 2)))).map gtx) ∧ Below w.heap.size w w' := by
  refine callsIn_wide.1 (show CallsIn Fence.wide 40 _ _ _ _ _ from ?_)
  refine callsIn_of_wp_marks Tryz.func10 rfl trivial ?_ rfl
  simp only [Tryz.ntmps10, List.size_toArray, List.length_cons, List.length_nil, Nat.reduceAdd, Nat.reduceSub, Array.replicate_succ, Array.replicate_zero, List.push_toArray, List.append_toArray, List.nil_append, List.cons_append]
  have hmk : (Instr.makeMap 55 none).run Tryz.prog w = .ok (.map (some w.heap.size)) (w.alloc (.map #[] 0)) := rfl
  obtain ⟨W0, hW0⟩ : ∃ W0, w.alloc (.map #[] 0) = W0 := ⟨_, rfl⟩
  rw [hW0] at hmk
  have hs0 : W0.heap.size = w.heap.size + 1 := by rw [← hW0]; simp
  have hB0 : Below w.heap.size w W0 := by rw [← hW0]; exact below_alloc _ _
  have hM0 : MapG W0 w.heap.size [] := ⟨by rw [← hW0]; exact World.alloc_heap_new _ _, (fun _ h => by cases h), List.nodup_nil⟩
  obtain ⟨W1, hW1⟩ : ∃ W1, W0.alloc (.cells #[.map (some w.heap.size)] 55) = W1 := ⟨_, rfl⟩
  have hs1 : W1.heap.size = w.heap.size + 2 := by rw [← hW1]; simp [hs0]
  have hB1 : Below w.heap.size w W1 := hB0.trans (by rw [← hW1]; exact (below_alloc _ _).mono (by omega))
  have hM1 : MapG W1 w.heap.size [] := hM0.keep (by rw [← hW1]; exact Below.heap_alloc _ _ _ (by omega))
  have hb1 : W1.heap[w.heap.size + 1]? = some (.cells #[.map (some w.heap.size)] 55 (0, 0)) := by rw [← hW1, ← hs0]; exact World.alloc_heap_new _ _
  have hgo := gramsOf_in Fence.wide 39 trivial rfl a len cap W1
  obtain ⟨W2, hW2⟩ : ∃ W2, W1.alloc (.cells #[.slice a len cap] 22) = W2 := ⟨_, rfl⟩
  rw [hW2] at hgo
  have hs2 : W2.heap.size = w.heap.size + 3 := by rw [← hW2]; simp [hs1]
  have hB12 : Below W1.heap.size W1 W2 := by rw [← hW2]; exact below_alloc _ _
  have hB2 : Below w.heap.size w W2 := hB1.trans (hB12.mono (by omega))
  have hc2 : W2.cell? ⟨w.heap.size + 2, 0, none⟩ = some (.slice a len cap) := by rw [← hW2, ← hs1]; exact (cell_new_l _ _ _).1
  have hI0 : GrI z w (w.heap.size + 1) w.heap.size ([], fun _ => False) W2 := ⟨(hB12.block _ (by omega)).trans hb1, hM1.keep (hB12.block _ (by omega)), fun _ h => h, hB2⟩
  have hseq := grams_seq 39 (w.heap.size + 2) a len cap z (by omega) W2 hc2 (hz.below hB2)
  rw [hs1] at hgo
  have HI0 := hide hI0
  have HS := hide hseq
  have HW := hide hW1
  have HN := hide (And.intro hs0 (And.intro hs1 hs2))
  clear hW0 hM0 hB0 hB1 hM1 hb1 hW2 hB12 hB2 hc2 hI0 hseq hs0 hs1 hs2 hW1
  gi_wp2
  rw [HW.out, HN.out.1]
  refine ⟨trivial, hgo.mono ?_⟩
  rintro e w3 ⟨rfl, rfl⟩
  gi_wp2
  refine wpIn_rangeFunc_N rfl (by omega) (gf := 30) (lb := #[.pointer (some ⟨w.heap.size + 2, 0, none⟩)]) rfl trivial (enters_of Tryz.func30 (by kernel_rfl) rfl) HS.out (fun pre x A B h => h.1.to) (fun xs A B h => h.1.to) (fun xs A B h => h.1.to) (Below.refl _ _) (fun _ => rfl)
    (GrI z w (w.heap.size + 1) w.heap.size) (fun _ _ _ => False) (fun s x X => GrI z w (w.heap.size + 1) w.heap.size s X) (fun xs X => (∃ O, GrI z w (w.heap.size + 1) w.heap.size (xs, O) X) ∧ xs = List.range (len - 2)) (fun _ _ _ => False)
    (fun _ X _ _ h hg hr => h.still ((Still.refl _ X).grown hg hr) (by have := HN.out.2.2; omega) (by have := HN.out.2.2; omega)) (fun _ _ _ _ _ h _ _ => h) ?ee (fun _ _ _ _ _ h _ _ => h) (fun pre O x A B h g => h.still g.1 (by have := HN.out.2.2; omega) (by have := HN.out.2.2; omega)) (fun xs O A B h g => ⟨⟨O, h.still g.1 (by have := HN.out.2.2; omega) (by have := HN.out.2.2; omega)⟩, g.2⟩) (fun _ _ _ _ h _ => h)
    (fun _ => False) (fun k hk => hk.elim) HI0.out
    (fun s x a' X => ∃ p, a' = { tmps := #[.slice a len cap, undef, .slice none 0 0, .pointer (some ⟨w.heap.size + 1, 0, none⟩), undef, .pointer (some ⟨p, 0, none⟩), undef, undef, undef, .map (some w.heap.size), .slice a len cap, .func (.func 30) #[] #[.pointer (some ⟨w.heap.size + 2, 0, none⟩)], .int .i64 (x : Int), gv (gN z x), undef, undef, undef, undef, undef, undef, undef, undef, undef, undef, undef, undef, undef, undef, undef, undef, undef], defers := [] } ∧ X.heap[p]? = some (.cells (gl (gN z x)).toArray 51 (0, 0)) ∧ GrI z w (w.heap.size + 1) w.heap.size s X)
    ?m2 ?assign ?body ?done (fun _ _ _ _ _ h _ => h.elim)
  case ee =>
    rintro xs X Y row ⟨⟨O, h1⟩, h2⟩ hg hr
    exact ⟨⟨O, h1.still ((Still.refl _ X).grown hg hr) (by have := HN.out.2.2; omega) (by have := HN.out.2.2; omega)⟩, h2⟩
  case m2 =>
    rintro x a' s X Y row ⟨p, h1, hp, h2⟩ hg hr
    exact ⟨p, h1, ((Still.refl w3.heap.size X).grown hg hr).cells _ _ _ _ hp, h2.still ((Still.refl _ X).grown hg hr) (by have := HN.out.2.2; omega) (by have := HN.out.2.2; omega)⟩
  case assign =>
    intro l' pre O x X K hM2 hK
    have HK := hide (hK { tmps := #[.slice a len cap, undef, .slice none 0 0, .pointer (some ⟨w.heap.size + 1, 0, none⟩), undef, .pointer (some ⟨X.heap.size, 0, none⟩), undef, undef, undef, .map (some w.heap.size), .slice a len cap, .func (.func 30) #[] #[.pointer (some ⟨w.heap.size + 2, 0, none⟩)], .int .i64 (x : Int), gv (gN z x), undef, undef, undef, undef, undef, undef, undef, undef, undef, undef, undef, undef, undef, undef, undef, undef, undef], defers := [] } (X.alloc (.cells (gl (gN z x)).toArray 51)) ⟨by simp, fun k o _ hk _ => (Below.heap_alloc _ _ k (Array.getElem?_eq_some_iff.1 hk).1).trans hk⟩ (KeptO.of_still ((Still.refl 0 X).alloc _) _) ⟨X.heap.size, rfl, World.alloc_heap_new _ _, hM2.still ((Still.refl w3.heap.size X).alloc _) (by have := HN.out.2.2; omega) (by have := HN.out.2.2; omega)⟩)
    clear hK hM2
    simp only [encG]
    unfold gv gl at HK ⊢
    generalize gN z x / 65536 = d0 at *
    generalize gN z x / 256 % 256 = d1 at *
    generalize gN z x % 256 = d2 at *
    gi_wp2
    exact HK.out
  case body =>
    rintro l' pre O x a' X ⟨p, rfl, hp, hbx, hM, hO, hB⟩
    have hcB : X.cell? ⟨w.heap.size + 1, 0, none⟩ = some (.map (some w.heap.size)) := by rw [cell_of_row _ _ _ _ _ _ hbx]; rfl
    have hp0 : X.cell? ⟨p, 0, none⟩ = some (.int .u8 ((gN z x / 65536 : Nat) : Int)) := by rw [cell_of_row _ _ _ _ _ _ hp]; rfl
    have hp1 : X.cell? ⟨p, 1, none⟩ = some (.int .u8 ((gN z x / 256 % 256 : Nat) : Int)) := by rw [cell_of_row _ _ _ _ _ _ hp]; rfl
    have hp2 : X.cell? ⟨p, 2, none⟩ = some (.int .u8 ((gN z x % 256 : Nat) : Int)) := by rw [cell_of_row _ _ _ _ _ _ hp]; rfl
    obtain ⟨X2, hrun, hM2, hsame, hsz, hb⟩ := hM.put (gN_ok hz.1 x) (.agg #[]) Tryz.underlying55
    have HF := hide (And.intro hM (And.intro hM2 (And.intro hsame (And.intro hsz (And.intro (hb w.heap.size (Nat.le_refl _)) (And.intro hbx (And.intro hO hB)))))))
    clear hM hM2 hsame hsz hb hbx hO hB hp
    unfold gv gl at hrun
    unfold gv
    unfold gl
    generalize gN z x / 65536 = d0 at *
    generalize gN z x / 256 % 256 = d1 at *
    generalize gN z x % 256 = d2 at *
    gi_wp2
    obtain ⟨hM, hM2, hsame, hsz, hb, hbx, hO, hB⟩ := HF.out
    have hn := HN.out.2.2
    exact ⟨⟨by omega, fun k o hk hx _ => (hsame k (by omega)).trans hx⟩, fun _ => False, ⟨(hsame _ (by omega)).trans hbx, by rw [esL_snoc]; exact hM2, fun _ h => h, hB.trans hb⟩,
      ⟨by omega, fun k c t f _ hx => (hsame k (fun e => by rw [e, hM.at_] at hx; cases hx)).trans hx⟩, fun k hk => hk.elim⟩
  case done =>
    rintro D xs X hD ⟨⟨O, hbx, hM, hO, hB⟩, rfl⟩ hKD
    simp only at hM
    have hcB : X.cell? ⟨w.heap.size + 1, 0, none⟩ = some (.map (some w.heap.size)) := by rw [cell_of_row _ _ _ _ _ _ hbx]; rfl
    have hel := esL_len z (List.range (len - 2))
    rw [List.length_range] at hel
    have hri := grising_any w.heap.size _ X hM (by omega)
    have hMok := hM.ok
    have HB := hide hB
    have HKD := hide hKD
    clear hbx hM hB hKD
    gi_wp2
    refine ⟨trivial, (callsIn_wide.2 hri).mono ?_⟩
    rintro e w4 ⟨v4, rfl, ho4, hb4⟩
    have hok : ∀ x ∈ sortK (esL z (List.range (len - 2))), Okg x := fun x hx => by
      obtain ⟨p, hp, e⟩ := List.mem_map.1 ((sortK_mem hMok x).1 hx)
      rw [← e]; exact hMok p hp
    have hkl := sortK_len (esL z (List.range (len - 2)))
    have H4 := hide ho4
    have HB4 := hide hb4
    clear hri hcB hMok HI0 HS HW
    generalize hks : sortK (esL z (List.range (len - 2))) = ks at *
    generalize hn : (esL z (List.range (len - 2))).length = n at *
    obtain ⟨a4, c4, rfl⟩ := owns_slice ho4
    clear ho4 hb4
    gi_wp2
    gi_loopg [6, 8, 20] n (fun q s6 s8 s20 wr => ∃ k : Nat, k + q = n ∧ s20 = .int .i64 (k : Nat) ∧ wr.ownsRow w4.heap.size 9 1 s6 k ((ks.take k).map gtx) ∧ Below w4.heap.size w4 wr)
    case atStart => exact ⟨0, by omega, rfl, World.ownsRow_nil _ _ _ _, Below.refl _ _⟩
    case round =>
      obtain ⟨k, hkq, rfl, hrow, hbl⟩ := hrel
      cases gk with
      | zero =>
        obtain rfl : k = n := by omega
        have hkz : ¬ ((k : Int) < (k : Int)) := by omega
        have HR := hide hrow
        have HBL := hide hbl
        clear hrow hbl
        gi_wp2
        have hKX : X.heap[D]? = some (.deferred (some [])) := HKD.out
        have hDX : D < X.heap.size := (Array.getElem?_eq_some_iff.1 hKX).1
        have hK4 : w4.heap[D]? = some (.deferred (some [])) := (HB4.out.block D hDX).trans hKX
        have hKr : wr.heap[D]? = some (.deferred (some [])) := (HBL.out.block D (by have := HB4.out.size; omega)).trans hK4
        refine ⟨by simp, .inl ⟨D, _, rfl, run_takeDeferred hKr, ?_⟩⟩
        have hrow : wr.ownsRow w.heap.size 9 1 u6 k (ks.map gtx) := by
          have h := HR.out
          rw [List.take_of_length_le (by omega)] at h
          have h4 := HB4.out.size
          have h5 := HB.out.size
          exact ⟨h.1, h.2.imp (fun h => h) (fun ⟨g, c, u, h1, h2, h3⟩ => ⟨g, c, u, h1, by omega, h3⟩)⟩
        have hbb : Below w.heap.size w wr := (HB.out.trans (HB4.out.mono HB.out.size)).trans (HBL.out.mono (by have := HB4.out.size; have := HB.out.size; omega))
        exact ⟨_, results_tmp rfl _ _ _, u6, rfl, ownsRow_putObj hrow _ hKr rfl, hbb.trans (belowK_b (w := w) (Nat.le_refl _) wr D _ _ (by have := HN.out.2.2; omega) hKr rfl rfl)⟩
      | succ q =>
        have hkn : k < n := by omega
        have hkz : (k : Int) < (n : Int) := by omega
        have hk0 : (0 : Int) ≤ (k : Int) := by omega
        obtain ⟨g4, rfl, hnc, hcm, hcell⟩ := row_gcl H4.out hkl hkn
        have hx : Okg (ks.getD k 0) := hok _ (by rw [List.getD_eq_getElem?_getD, List.getElem?_eq_getElem (by omega)]; exact List.getElem_mem _)
        have htk : (ks.take (k + 1)).map gtx = (ks.take k).map gtx ++ [gtx (ks.getD k 0)] := by
          rw [List.take_add_one, List.map_append, List.getD_eq_getElem?_getD, List.getElem?_eq_getElem (by omega)]; rfl
        have hT := fun N W => gtext_in N (ks.getD k 0) hx W
        obtain ⟨t0, ht0⟩ : ∃ t0, gtx (ks.getD k 0) = .string t0 := ⟨_, rfl⟩
        have c0 := cell_thru (hcell.1) hbl
        have c1 := cell_thru (hcell.2.1) hbl
        have c2 := cell_thru (hcell.2.2) hbl
        have hsz4 := hbl.size
        have HR := hide hrow
        have HBL := hide hbl
        have HTK := hide htk
        clear hrow hbl hcell htk
        unfold gv gl at hT
        rw [ht0] at hT HTK
        generalize ks.getD k 0 / 65536 = d0 at *
        generalize ks.getD k 0 / 256 % 256 = d1 at *
        generalize ks.getD k 0 % 256 = d2 at *
        clear ht0 hx hok
        gi_wp2
        refine ⟨trivial, (hT _ _).mono ?_⟩
        rintro e w5 ⟨rfl, rfl⟩
        obtain ⟨w5, hw5⟩ : ∃ w5, (wr.alloc (.cells #[.int .u8 (d0 : Nat), .int .u8 (d1 : Nat), .int .u8 (d2 : Nat)] 51)).alloc (.cells #[.int .u8 (d0 : Nat), .int .u8 (d1 : Nat), .int .u8 (d2 : Nat)] 51) = w5 := ⟨_, rfl⟩
        have hb5 : Below wr.heap.size wr w5 := by rw [← hw5]; exact ((Below.refl _ _).alloc (Nat.le_refl _) _).alloc (by simp) _
        rw [hw5]
        have hrA : (w5.alloc (.cells #[.string t0] 9)).ownsRow w4.heap.size 9 1 u6 k ((ks.take k).map gtx) := owns_thruS HR.out (hb5.alloc hb5.size _)
        have hnew : ∀ j u, ([.string t0] : List Value)[j]? = some u → (w5.alloc (.cells #[.string t0] 9)).cell? ((⟨w5.heap.size, 0, none⟩ : Addr).add j) = some u := fun j u h => by
          match j, h with
          | 0, h => cases h; exact (cell_new_l _ _ _).1
        have hsz5 := hb5.size
        have HB5 := hide hb5
        obtain ⟨i0, hi, hq0, hq1, hq2⟩ := info_parts info_string
        clear hb5 hw5 c0 c1 c2
        gi_wp2_with (gi_at_builtin; refine wpListIn_append_foot _ rfl _ _ 29 rfl 9 i0 (.string ⟨#[]⟩) 16 Tryz.underlying29 hi hq0 hq1 hq2 rfl w4.heap.size u6 k ((ks.take k).map gtx) rfl hrA (some ⟨w5.heap.size, 0, none⟩) 1 1 [.string t0] rfl rfl (fun e => by cases e) (fun ad e => by cases e; exact hnew) (by simp [Value.oneCell']) (by unfold maxLen; omega) (by omega) (by simp; omega) ?_; intro A' C' w6 hown' hG')
        gi_roundg q
        case measure => omega
        case rel =>
          exact ⟨k + 1, by omega, by go_num, by rw [HTK.out]; exact hown', HBL.out.trans (((HB5.out.alloc hsz5 _).mono hsz4).trans ((hG'.kept (F := fun g => u6.ownBlock = some g) (fun _ h => h)).below (fun g hg => (owns_cells HR.out g hg).2.1) (by simp; omega)))⟩
end Go.Proofs.YtpdlapnliiengaaGreat
