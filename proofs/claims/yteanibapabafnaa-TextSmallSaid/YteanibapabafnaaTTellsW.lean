/-
  TextTells's walk: a contract, since TextSmall calls it too.
-/
import Derived.Test.YteanibapabafnaaTAwake
import Derived.Test.YteanibapabafnaaLent
import Derived.Test.YteanibapabafnaaLentI
import Derived.Test.YteanibapabafnaaApartInts
namespace Go.Proofs.Yteanibapabafnaa
open Go.RowKit

theorem TextIs.str {z : Nat → Nat} {len : Nat} {s : Nat → Int} {n : Nat} {line : Int} {v : Value} (h : TextIs z len s n line v) : ∃ S, v = .string S := by
  rcases h with ⟨_, rfl⟩ | ⟨l, _, _, ⟨_, rfl⟩ | ⟨i, k, _, _, _, rfl⟩⟩
  · exact ⟨_, rfl⟩
  · exact ⟨_, rfl⟩
  · exact ⟨_, rfl⟩
theorem ownsI_lower {w : World} {B B' n size : Nat} {v : Value} {xs : List Value} {e : TypeId} (h : w.ownsRow B e size v n xs) (hB : B' ≤ B) : w.ownsRow B' e size v n xs :=
  ⟨h.1, h.2.imp (fun h => h) (fun ⟨g, cap, cur, h4, h5, h6⟩ => ⟨g, cap, cur, h4, by omega, h6⟩)⟩
/-- Two rows of numbers in a row of rows. -/
theorem apart2I {A1 A2 : Option Addr} {C1 C2 s1 s2 : Nat} {X1 X2 : List Value} {w1 w : World} (g : Nat) (hb : w.heap[g]? = some (.cells #[.slice A1 s1 C1, .slice A2 s2 C2] 23 (0, 0))) (h1 : s1 ≤ 1000000) (h2 : s2 ≤ 1000000)
    (ho1 : w.ownsRow 0 3 1 (.slice A1 s1 C1) s1 X1) (ho2 : w.ownsRow w1.heap.size 3 1 (.slice A2 s2 C2) s2 X2) (hlt : ∀ g, (Value.slice A1 s1 C1).ownBlock = some g → g < w1.heap.size) :
    Calls Try.prog 19 #[.slice (some ⟨g, 0, none⟩) 2 2] w fun e w' => e = .returned (.bool true) ∧ Kept (fun k => (Value.slice A1 s1 C1).ownBlock = some k ∨ (Value.slice A2 s2 C2).ownBlock = some k) w w' := by
  refine (IntsFlat.apartInts_any g 0 2 2 (fun r => if r = 0 then A1 else A2) (fun r => if r = 0 then s1 else s2) (fun r => if r = 0 then C1 else C2) (fun r => if r = 0 then X1 else X2) w (by omega) (by omega) (fun r hr => by
    rcases (show r = 0 ∨ r = 1 by omega) with rfl | rfl
    · show s1 ≤ _; omega
    · show s2 ≤ _; omega)
    (fun r s k hr hs h1 h2 => by
      have hx2 : ∀ g, (Value.slice A2 s2 C2).ownBlock = some g → w1.heap.size ≤ g := fun g h => (owns_cells ho2 g h).2.1
      rcases (show r = 0 ∨ r = 1 by omega) with rfl | rfl <;> rcases (show s = 0 ∨ s = 1 by omega) with rfl | rfl
      · rfl
      · have := hlt k h1; have := hx2 k h2; omega
      · have := hlt k h2; have := hx2 k h1; omega
      · rfl)
    (fun r hr => by
      rw [Nat.zero_add, cell_of_row _ _ _ _ _ _ hb]
      rcases (show r = 0 ∨ r = 1 by omega) with rfl | rfl <;> rfl)
    (fun r hr => by
      rcases (show r = 0 ∨ r = 1 by omega) with rfl | rfl
      · exact ho1
      · exact ownsI_lower ho2 (Nat.zero_le _))).mono ?_
  rintro e w' ⟨he, hst⟩
  refine ⟨he, hst.1.mono (fun k _ hk => ?_)⟩
  obtain ⟨r, hr, h⟩ := hk
  rcases (show r = 0 ∨ r = 1 by omega) with rfl | rfl
  · exact .inl h
  · exact .inr h

/-- What lies behind the lending, and stays. -/
structure TGood (w : World) (a c : Option Addr) (len n g h : Nat) (z : Nat → Nat) (s : Nat → Int) (X : World) : Prop where
  below : Below w.heap.size w X
  b : Byt X a len z
  c : Ints X c n s
  x : Blk X g (len + 12) (lent z len)
  y : IBlk X h (n + 12) (lentI s n)
  zlt : ∀ i, z i < 256
variable {w X Y : World} {a c : Option Addr} {len n g h : Nat} {z : Nat → Nat} {s : Nat → Int}
theorem TGood.step (t : TGood w a c len n g h z s X) (hb : Below X.heap.size X Y) : TGood w a c len n g h z s Y :=
  ⟨t.below.trans (hb.mono t.below.size), t.b.below hb, t.c.below hb, t.x.below hb, t.y.below hb, t.zlt⟩
theorem TGood.xb (t : TGood w a c len n g h z s X) : Byt X (some ⟨g, 0, none⟩) len z := ⟨t.zlt, .inr ⟨g, 0, rfl, fun i hi => by
  have := t.x.cell (i := i) (by omega)
  rw [lent, if_pos hi] at this
  rw [Nat.zero_add]
  exact this⟩⟩
theorem TGood.yi (t : TGood w a c len n g h z s X) : Ints X (some ⟨h, 0, none⟩) n s := .inr ⟨h, 0, rfl, fun i hi => by
  have := t.y.cell (i := i) (by omega)
  rw [lentI, if_pos hi] at this
  rw [Nat.zero_add]
  exact this⟩
/-- Numbers in a row that was told. -/
abbrev LI (z : Nat → Nat) (len : Nat) (i : Nat) : Int := (((bg z len).getD i 0 : Nat) : Int)

set_option maxRecDepth 100000 in
set_option maxHeartbeats 2000000 in
theorem tells_any (a c : Option Addr) (len cap n cc : Nat) (z : Nat → Nat) (s : Nat → Int) (at_ line : Int) (w : World) (hn : a = none → cap = 0) (hcap : len ≤ cap) (hn2 : c = none → cc = 0) (hcc : n ≤ cc)
    (hl1 : -9223372036854775808 ≤ line) (hl2 : line ≤ 9223372036854775807) (hz : Byt w a len z) (hs : Ints w c n s) :
    Calls Try.prog 3 #[.slice a len cap, .slice c n cc, .int .i64 at_, .int .i64 line] w fun e w' => e = .returned (.bool true) ∧ Below w.heap.size w w' := by
  have HZ := hide (And.intro hz hs)
  clear hz hs
  go_enter Try.func3, Try.ntmps3
  by_cases hb1 : 4000 < len
  · have hb2 : (4000 : Int) < (len : Int) := by omega
    go_wp2_with fail
    refine (awake_any w).mono ?_
    rintro e w1 ⟨rfl, hB1⟩
    go_wp2_with fail
    go_ret
    exact ⟨rfl, hB1⟩
  by_cases hb3 : 4000 < n
  · have hb2 : (4000 : Int) < (n : Int) := by omega
    go_wp2_with fail
    refine (awake_any w).mono ?_
    rintro e w1 ⟨rfl, hB1⟩
    go_wp2_with fail
    go_ret
    exact ⟨rfl, hB1⟩
  have hlen : (len : Int) ≤ 4000 := by omega
  have hnn : (n : Int) ≤ 4000 := by omega
  have hb := lentBytes_any a len cap z w (by omega) hn hcap HZ.out.1
  go_wp2_with fail
  refine hb.mono ?_
  rintro e w1 ⟨g, rfl, hg, hx1, hB1⟩
  have hi := lentInts_any c n cc s w1 (by omega) hn2 hcc (HZ.out.2.below hB1)
  have H1 := hide (And.intro hx1 hB1)
  clear hb hx1 hB1
  go_wp2_with fail
  refine hi.mono ?_
  rintro e w2 ⟨h, rfl, hh, hy2, hB2⟩
  obtain ⟨hx1, hB1⟩ := H1.out
  have hG2 : TGood w a c len n g h z s w2 := ⟨below_thru hB1 hB2, HZ.out.1.below (below_thru hB1 hB2), HZ.out.2.below (below_thru hB1 hB2), hx1.below hB2, hy2, HZ.out.1.1⟩
  have hq := lines_any (some ⟨g, 0, none⟩) len (len + 12) z w2 (by omega) hG2.xb
  have HG2 := hide hG2
  clear hi hx1 hy2 hB1 hB2 H1 hG2
  go_wp2_with fail
  refine hq.mono ?_
  rintro e w3 ⟨v3, rfl, ho3, hB3⟩
  have HG3 : Hid (TGood w a c len n g h z s w3) := HG2.out.step hB3
  have hq := lines_any (some ⟨g, 0, none⟩) len (len + 12) z w3 (by omega) HG3.out.xb
  have ho3' := ho3
  rw [icl_icells] at ho3'
  obtain ⟨A3, C3, rfl, hC3, _, _, hI3, _⟩ := owns_ints ho3'
  obtain ⟨q, hqe⟩ : ∃ q, (bg z len).length = q := ⟨_, rfl⟩
  have hq1 : q ≤ 4001 := by rw [← hqe]; have := bg_length_le z len; omega
  rw [hqe] at ho3 hI3 hC3 hq ⊢
  have hI3' : Ints w3 A3 q (LI z len) := hI3
  have H3 := hide (And.intro ho3 (And.intro hI3' (And.intro hB3 (And.intro hC3 hqe))))
  clear ho3 ho3' hI3 hI3' hB3 hC3 hqe
  go_wp2_with fail
  refine hq.mono ?_
  rintro e w4 ⟨v4, rfl, ho4, hB4⟩
  have HG4 : Hid (TGood w a c len n g h z s w4) := HG3.out.step hB4
  have hr := refLines_any a len cap z w4 (by omega) HG4.out.b
  obtain ⟨A4, C4, rfl⟩ := owns_slice ho4
  rw [H3.out.2.2.2.2] at hr
  have H4 := hide (And.intro ho4 hB4)
  clear hq ho4 hB4
  go_wp2_with fail
  refine hr.mono ?_
  rintro e w5 ⟨v5, rfl, ho5, hB5⟩
  have HG5 : Hid (TGood w a c len n g h z s w5) := HG4.out.step hB5
  have ho5' := ho5
  rw [icl_icells, H3.out.2.2.2.2] at ho5'
  obtain ⟨A5, C5, rfl, _, _, _, hI5, _⟩ := owns_ints ho5'
  have hsi := sameInts_any A3 A5 q C3 C5 (LI z len) w5 (by omega) (H3.out.2.1.below (H4.out.2.trans (hB5.mono H4.out.2.size))) hI5
  have H5 := hide hB5
  clear hr ho5 ho5' hI5 hB5
  go_wp2_with fail
  refine hsi.mono ?_
  rintro e w6 ⟨rfl, hB6⟩
  have HG6 : Hid (TGood w a c len n g h z s w6) := HG5.out.step hB6
  have hB36 : Below w3.heap.size w3 w6 := (H4.out.2.trans ((H5.out.trans (hB6.mono H5.out.size)).mono H4.out.2.size))
  have hB46 : Below w4.heap.size w4 w6 := H5.out.trans (hB6.mono H5.out.size)
  have hI6 := H3.out.2.1.below hB36
  have hq := line_any (some ⟨h, 0, none⟩) n (n + 12) s at_ w6 (by omega) HG6.out.yi
  have H6 := hide (And.intro hB36 (And.intro hB46 hI6))
  clear hsi hB6 hB36 hB46 hI6
  go_wp2_with fail
  refine hq.mono ?_
  rintro e w7 ⟨m7, rfl, hm7, hB7⟩
  have HG7 : Hid (TGood w a c len n g h z s w7) := HG6.out.step hB7
  have hr := refLine_any c n cc s at_ w7 (by omega) HG7.out.c
  have H7 := hide (And.intro hm7 hB7)
  clear hq hm7 hB7
  go_wp2_with fail
  refine hr.mono ?_
  rintro e w8 ⟨m8, rfl, hm8, hB8⟩
  obtain rfl := H7.out.1.one hm8
  have HG8 : Hid (TGood w a c len n g h z s w8) := HG7.out.step hB8
  have hq := text_any (some ⟨g, 0, none⟩) (some ⟨h, 0, none⟩) len (len + 12) n (n + 12) z s line w8 (by omega) (by omega) (by omega) (.inr ⟨_, _, rfl⟩) hl1 hl2 HG8.out.xb HG8.out.yi
  have H8 : Hid (Below w6.heap.size w6 w8) := H7.out.2.trans (hB8.mono H7.out.2.size)
  clear hr hm8 hB8 H7
  go_wp2_with fail
  refine hq.mono ?_
  rintro e w9 ⟨v9, rfl, hv9, hB9⟩
  have HG9 : Hid (TGood w a c len n g h z s w9) := HG8.out.step hB9
  have hr := refText_any a c len cap n cc z s line w9 (by omega) (by omega) hcap hl1 hl2 HG9.out.b HG9.out.c
  obtain ⟨S9, rfl⟩ := hv9.str
  have H9 := hide (And.intro hv9 hB9)
  clear hq hv9 hB9
  go_wp2_with fail
  refine hr.mono ?_
  rintro e w10 ⟨v10, rfl, hv10, hB10⟩
  obtain rfl := H9.out.1.one hv10
  have HG10 : Hid (TGood w a c len n g h z s w10) := HG9.out.step hB10
  have hB610 : Below w6.heap.size w6 w10 := H8.out.trans ((H9.out.2.trans (hB10.mono H9.out.2.size)).mono H8.out.size)
  have hI10 := H6.out.2.2.below hB610
  have hq := line_any A3 q C3 (LI z len) at_ w10 (by omega) hI10
  have H10 := hide (And.intro hB610 hI10)
  clear hr hv10 hB10 hB610 hI10 H8 H9
  go_wp2_with fail
  refine hq.mono ?_
  rintro e w11 ⟨m11, rfl, hm11, hB11⟩
  have HG11 : Hid (TGood w a c len n g h z s w11) := HG10.out.step hB11
  have hr := refLine_any A3 q C3 (LI z len) at_ w11 (by omega) (H10.out.2.below hB11)
  have H11 := hide (And.intro hm11 hB11)
  clear hq hm11 hB11
  go_wp2_with fail
  refine hr.mono ?_
  rintro e w12 ⟨m12, rfl, hm12, hB12⟩
  obtain rfl := H11.out.1.one hm12
  have HG12 : Hid (TGood w a c len n g h z s w12) := HG11.out.step hB12
  have hB1012 : Below w10.heap.size w10 w12 := H11.out.2.trans (hB12.mono H11.out.2.size)
  have hI12 := H10.out.2.below hB1012
  have hq := text_any (some ⟨g, 0, none⟩) A3 len (len + 12) q C3 z (LI z len) line w12 (by omega) (by omega) (by omega) (.inr ⟨_, _, rfl⟩) hl1 hl2 HG12.out.xb hI12
  have H12 := hide (And.intro hB1012 hI12)
  clear hr hm12 hB12 hB1012 hI12 H11
  go_wp2_with fail
  refine hq.mono ?_
  rintro e w13 ⟨v13, rfl, hv13, hB13⟩
  have HG13 : Hid (TGood w a c len n g h z s w13) := HG12.out.step hB13
  have hr := refText_any a A3 len cap q C3 z (LI z len) line w13 (by omega) (by omega) hcap hl1 hl2 HG13.out.b (H12.out.2.below hB13)
  obtain ⟨S13, rfl⟩ := hv13.str
  have H13 := hide (And.intro hv13 hB13)
  clear hq hv13 hB13
  go_wp2_with fail
  refine hr.mono ?_
  rintro e w14 ⟨v14, rfl, hv14, hB14⟩
  obtain rfl := H13.out.1.one hv14
  have HG14 : Hid (TGood w a c len n g h z s w14) := HG13.out.step hB14
  have hB1214 : Below w12.heap.size w12 w14 := H13.out.2.trans (hB14.mono H13.out.2.size)
  have hB1014 : Below w10.heap.size w10 w14 := H12.out.1.trans (hB1214.mono H12.out.1.size)
  have hB614 : Below w6.heap.size w6 w14 := H10.out.1.trans (hB1014.mono H10.out.1.size)
  have hB414 : Below w4.heap.size w4 w14 := H6.out.2.1.trans (hB614.mono H6.out.2.1.size)
  have hB314 : Below w3.heap.size w3 w14 := H6.out.1.trans (hB614.mono H6.out.1.size)
  have hk := keptBytes_any g a len cap z w14 (by omega) HG14.out.x HG14.out.b
  have H14 := hide (And.intro hB414 hB314)
  clear hr hv14 hB14 hB1214 hB1014 hB614 hB414 hB314 H13 H12 H10
  go_wp2_with fail
  refine hk.mono ?_
  rintro e w15 ⟨rfl, hB15⟩
  have HG15 : Hid (TGood w a c len n g h z s w15) := HG14.out.step hB15
  have hk := keptInts_any h c n cc s w15 (by omega) HG15.out.y HG15.out.c
  have H15 := hide hB15
  clear hB15
  go_wp2_with fail
  refine hk.mono ?_
  rintro e w16 ⟨rfl, hB16⟩
  have HG16 : Hid (TGood w a c len n g h z s w16) := HG15.out.step hB16
  obtain ⟨W7, hW7⟩ : ∃ W7, w16.alloc (.cells #[.slice A3 q C3, .slice A4 q C4] 23) = W7 := ⟨_, rfl⟩
  have hb7 : W7.heap[w16.heap.size]? = some (.cells #[.slice A3 q C3, .slice A4 q C4] 23 (0, 0)) := by rw [← hW7]; exact heap_alloc_new _ _
  have hB167 : Below w16.heap.size w16 W7 := by rw [← hW7]; exact below_alloc _ _
  have HG7 : Hid (TGood w a c len n g h z s W7) := HG16.out.step hB167
  have hB1416 : Below w14.heap.size w14 w16 := H15.out.trans (hB16.mono H15.out.size)
  have hB147 : Below w14.heap.size w14 W7 := hB1416.trans (hB167.mono hB1416.size)
  have hB37 : Below w3.heap.size w3 W7 := H14.out.2.trans (hB147.mono H14.out.2.size)
  have hB47 : Below w4.heap.size w4 W7 := H14.out.1.trans (hB147.mono H14.out.1.size)
  have hap := apart2I (w1 := w3) w16.heap.size hb7 (by omega) (by omega) (ownsI_lower (owns_thru H3.out.1 hB37) (Nat.zero_le _)) (owns_thru H4.out.1 hB47) (fun g hg => (owns_cells H3.out.1 g hg).1)
  have hB27 : Below w2.heap.size w2 W7 := H3.out.2.2.1.trans (hB37.mono H3.out.2.2.1.size)
  have H77 := hide hB27
  clear hk hB16 hb7 hB167 hB1416 hB147 hB37 hB47 hB27
  go_wp2_with fail
  refine hap.mono ?_
  rintro e w18 ⟨rfl, hk8⟩
  have hF : ∀ k, ((Value.slice A3 q C3).ownBlock = some k ∨ (Value.slice A4 q C4).ownBlock = some k) → w2.heap.size ≤ k := fun k hk => by
    rcases hk with h | h
    · exact (owns_cells H3.out.1 k h).2.1
    · have := (owns_cells H4.out.1 k h).2.1; have := H3.out.2.2.1.size; omega
  have HG18 : Hid (TGood w a c len n g h z s w18) := HG2.out.step (H77.out.trans (hk8.below hF H77.out.size))
  have hk := keptBytes_any g a len cap z w18 (by omega) HG18.out.x HG18.out.b
  clear hap hk8 hF hW7
  go_wp2_with fail
  refine hk.mono ?_
  rintro e w19 ⟨rfl, hB19⟩
  have HG19 : Hid (TGood w a c len n g h z s w19) := HG18.out.step hB19
  clear hk hB19
  go_wp2_with fail
  refine (awake_any w19).mono ?_
  rintro e w20 ⟨rfl, hB20⟩
  go_wp2_with fail
  go_ret
  exact ⟨rfl, (HG19.out.step hB20).below⟩
end Go.Proofs.Yteanibapabafnaa
