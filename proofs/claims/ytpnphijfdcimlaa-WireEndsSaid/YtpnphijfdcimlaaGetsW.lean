/-
  gets: a reader gets just what the document's does, of any bytes, any things.
-/
import Derived.Test.YtpnphijfdcimlaaGetsM
import Derived.Deep.RegionHeld3
import Derived.BigQuiet
namespace Go.Proofs.Ytpnphijfdcimlaa
open Go.RowKit

set_option maxRecDepth 100000 in
set_option maxHeartbeats 4000000 in
theorem gets_any (pb : Option Addr) (cb : Nat) (Bh : List Nat) (a : Option Addr) (n cap : Nat) (T : Nat → Thg) (w : World) (hT : Things w a n T) (hn : n ≤ 100000) (hlb : Bh.length ≤ 20000) (hlbc : Bh.length ≤ cb) (hcb : cb ≤ 9223372036854775807) (hpb : pb = none → cb = 0) (hone : cb = 0 ∨ ∃ b off, pb = some ⟨b, off, none⟩) (hat : ∀ h o s, pb = some ⟨h, o, s⟩ → h < w.heap.size) (hBh : BL w pb Bh) (lb : Nat) (hBl : Bh.length = lb) :
    Calls Try.prog 9 #[.slice pb lb cb, .slice a n cap] w fun e w' => e = .returned (.bool true) ∧ Below w.heap.size w w' := by
  have hle := lentBytes_any pb Bh.length cb (fun i => Bh.getD i 0) w hlb hpb hlbc hBh
  have HTX : Hid (∀ wx, Below w.heap.size w wx → Things wx a n T) := fun wx hx => hT.kept (Kept.of_below (F := fun _ => False) hx) (fun _ _ h => h)
  have HBX : Hid (∀ wx, Below w.heap.size w wx → BL wx pb Bh) := fun wx hx => hBh.below hx
  have HAT := hide hat
  have HON := hide hone
  have HPB := hide hpb
  have HLT := hide hBh.lt
  clear hT hBh hone hpb hat
  subst hBl
  go_enter Try.func9, Try.ntmps9
  go_wp2_with fail
  refine hle.mono ?_
  rintro e w1 ⟨g, rfl, hg, hblk, hb1⟩
  have hrd := read_any (some ⟨g, 0, none⟩) Bh.length (Bh.length + 12) Bh w1 rfl (by omega) (by omega) (fun h => by cases h) (lent_bl HLT.out hblk)
  clear hle
  go_wp2_with fail
  refine hrd.mono ?_
  rintro e w2 ⟨p6, rfl, hR, hb2⟩
  have hs1 := hb1.size
  have hs2 := hb2.size
  have hgl := hblk.lt
  have hb12 : Below w.heap.size w w2 := hb1.trans (hb2.mono hs1)
  have htwo : Two w.heap.size (.pointer (some ⟨p6, 0, none⟩)) w2.heap.size pb cb Bh g (some Bh) (some Bh) (w2.alloc (.cells #[.slice pb Bh.length cb, .int .i64 0, .bool false] 66)) := by
    have hba : Below w2.heap.size w2 (w2.alloc (.cells #[.slice pb Bh.length cb, .int .i64 0, .bool false] 66)) := below_alloc _ _
    refine ⟨fun k => w1.heap.size ≤ k ∧ k < w2.heap.size, .inr ⟨p6, rfl, hR.kept (Kept.of_below (F := fun _ => False) hba) (fun _ _ h => h)⟩, ?_, (hblk.below hb2).below hba, fun k hk => ?_, by omega, by simp, by omega, by omega, fun h o s e _ => HAT.out h o s e, by simp; omega⟩
    · refine ⟨0, Nat.zero_le _, heap_alloc_new _ _, fun h o s e => ?_, HBX.out _ (hb12.alloc (by omega) _), hlbc, hcb, HPB.out, HON.out, fun M e => by cases e; rfl⟩
      have := HAT.out h o s e; omega
    · simp; have h1 := hk.1; have h2 := hk.2; omega
  have HTW := hide htwo
  have hBW : Below w.heap.size w (w2.alloc (.cells #[.slice pb Bh.length cb, .int .i64 0, .bool false] 66)) := hb12.alloc (by omega) _
  clear hrd hR hblk htwo hb2 hb12 hb1
  go_wp2_with fail
  go_loopg [8] n (fun q s8 wr => ∃ k : Nat, k + q = n ∧ s8 = .int .i64 (k : Nat) ∧ (∃ S, Two w.heap.size (.pointer (some ⟨p6, 0, none⟩)) w2.heap.size pb cb Bh g S S wr) ∧ Below w.heap.size w wr)
  case atStart => exact ⟨0, by omega, rfl, ⟨_, HTW.out⟩, hBW⟩
  case round =>
    obtain ⟨k, hkq, rfl, ⟨S, htw⟩, hB⟩ := hrel
    have hk0 : (0 : Int) ≤ (k : Int) := by omega
    have hs := hB.size
    clear hBW
    cases gk with
    | zero =>
      obtain rfl : k = n := by omega
      have hkz : ¬ ((k : Int) < (k : Int)) := by omega
      have hke := keptBytes_any g pb Bh.length cb (fun i => Bh.getD i 0) wr hlb htw.blk (HBX.out wr hB)
      clear htw
      go_wp2_with fail
      refine hke.mono ?_
      rintro e w9 ⟨rfl, hb9⟩
      go_wp2_with fail
      go_ret
      exact ⟨rfl, hB.trans (hb9.mono hs)⟩
    | succ q =>
      have hkz : (k : Int) < (n : Int) := by omega
      obtain ⟨b, off, rfl, ⟨c0, c1, c2, c3, c4⟩, hok⟩ := (HTX.out wr hB).cells k (by omega)
      obtain ⟨b', off', e', ⟨_, d1, d2, _, _⟩, _⟩ := (HTX.out w (Below.refl _ _)).cells k (by omega)
      cases e'
      have hwn := hok.N
      have hwm := hok.M
      have hpl := htw.plt
      have hBd : Below w.heap.size w wr.drew := below_drewN hB 1
      have htd : Two w.heap.size (.pointer (some ⟨p6, 0, none⟩)) w2.heap.size pb cb Bh g S S wr.drew := htw.drewN 1
      obtain ⟨c, hc⟩ : ∃ c : Int, ((pickN (T k).K 4 : Nat) : Int) = c := ⟨_, rfl⟩
      have hpick := fun W => pick4 (T k).K W hok.K _ rfl c hc
      have hpk := pickN_lt (T k).K 4 (by omega)
      have hpc : c = 0 ∨ c = 1 ∨ c = 2 ∨ c = 3 := by omega
      have HPC := hide hpc
      have HTW := hide htw
      have HTD := hide htd
      clear hpc hpk hc hok c3 c4 htw htd
      go_wp2_with fail
      refine (hpick _).mono ?_
      rintro e w9 ⟨rfl, rfl⟩
      clear hpick c0
      go_upto_block 2 with fail
      go_cut [] (fun wx => (∃ S', Two w.heap.size (.pointer (some ⟨p6, 0, none⟩)) w2.heap.size pb cb Bh g S' S' wx) ∧ Below w.heap.size w wx)
      case first =>
        rcases HPC.out with rfl | rfl | rfl | rfl
        · have hn := two_num _ _ _ _ _ _ _ S (T k).N _ HTD.out hwn (by omega)
          generalize hres : getNum (T k).N S = res at hn
          have HR := hide hres
          clear hres
          go_upto_region 11 with fail
          go_region_held3 (fun w' => w'.cell? ⟨b, off + k * 5 + 1, none⟩ = some (.int .i64 (T k).N))
            (first | exact c1 | exact cell_thru d1 hX9 | exact cell_thru d1 hX10)
            (first
            | (go_at_call 15; refine hn.mono ?_; rintro e w9 ⟨rfl, hT9, hB9⟩; have hX9 := hBd.trans hB9; have hn2 := two_refnum _ _ _ _ _ _ _ _ S (T k).N _ hT9 hwn; rw [HR.out] at hn2)
            | (go_at_call 36; refine hn2.mono ?_; rintro e w10 ⟨rfl, hT10, hB10⟩; have hX10 := hX9.trans hB10))
          all_goals
            go_wp2_with fail
            go_meet
            exact ⟨⟨_, hT10⟩, hX10⟩
        · have hn := two_fix _ _ _ _ _ _ _ S _ HTW.out
          generalize hres : getFix S = res at hn
          have HR := hide hres
          clear hres
          go_wp2_with fail
          refine hn.mono ?_
          rintro e w9 ⟨rfl, hT9, hB9⟩
          have hX9 := hB.trans hB9
          have hn2 := two_reffix _ _ _ _ _ _ _ _ S _ hT9
          rw [HR.out] at hn2
          clear hn hT9
          go_wp2_with fail
          refine hn2.mono ?_
          rintro e w10 ⟨rfl, hT10, hB10⟩
          have hX10 := hX9.trans hB10
          go_wp2_with fail
          go_meet
          exact ⟨⟨_, hT10⟩, hX10⟩
        · have hn := two_text _ _ _ _ _ _ _ S (T k).N _ HTD.out hwn (by omega)
          generalize hres : getText (T k).N S = res at hn
          have HR := hide hres
          clear hres
          go_upto_region 17 with fail
          go_region_held3 (fun w' => w'.cell? ⟨b, off + k * 5 + 1, none⟩ = some (.int .i64 (T k).N))
            (first | exact c1 | exact cell_thru d1 hX9 | exact cell_thru d1 hX10 | exact cell_thru d1 hX11)
            (first
            | (go_at_call 17; refine hn.mono ?_; rintro e w9 ⟨v9, rfl, ⟨A9, C9, rfl, hbl9, hl9, hf9⟩, hT9, hB9⟩; have hX9 := hBd.trans hB9; have hn2 := two_reftext _ _ _ _ _ _ _ _ S (T k).N _ hT9 hwn (by omega); rw [HR.out] at hn2)
            | (go_at_call 38; refine hn2.mono ?_; rintro e w10 ⟨v10, rfl, ⟨A10, C10, rfl, hbl10, _, _⟩, hk10, hT10, hB10⟩; have hX10 := hX9.trans hB10; have heq := bytesEq_any A9 A10 res.1.length C9 C10 res.1 w10 rfl hl9 (hbl9.kept hk10 (fun g' o s e hp => absurd (hf9 g' o s e) (by have hp' : g' = w2.heap.size := hp; have : wr.drew.heap.size = wr.heap.size := rfl; omega))) hbl10)
            | (go_at_call 25; refine heq.mono ?_; rintro e w11 ⟨rfl, hb11⟩; have hT11 := hT10.below hb11; have hX11 := hX10.trans (hb11.mono hX10.size)))
          all_goals
            go_wp2_with fail
            go_meet
            exact ⟨⟨_, hT11⟩, hX11⟩
        · have hn := two_rise _ _ _ _ _ _ _ S (T k).N (T k).M _ HTD.out hwm hwn (by omega)
          generalize hres : getRising (T k).M (T k).N S = res at hn
          have HR := hide hres
          clear hres
          go_upto_region 8 with fail
          go_region_held3 (fun w' => w'.cell? ⟨b, off + k * 5 + 1, none⟩ = some (.int .i64 (T k).N) ∧ w'.cell? ⟨b, off + k * 5 + 2, none⟩ = some (.int .i64 (T k).M))
            (first | exact ⟨c1, c2⟩ | exact ⟨cell_thru d1 hX9, cell_thru d2 hX9⟩ | exact ⟨cell_thru d1 hX10, cell_thru d2 hX10⟩ | exact ⟨cell_thru d1 hX11, cell_thru d2 hX11⟩)
            (first
            | (go_at_call 18; refine hn.mono ?_; rintro e w9 ⟨v9, rfl, ⟨A9, C9, rfl, hbl9, hl9, hf9⟩, hT9, hB9⟩; have hX9 := hBd.trans hB9; have hn2 := two_refrise _ _ _ _ _ _ _ _ S (T k).N (T k).M _ hT9 hwm hwn (by omega); rw [HR.out] at hn2)
            | (go_at_call 39; refine hn2.mono ?_; rintro e w10 ⟨v10, rfl, ⟨A10, C10, rfl, hbl10, _, _⟩, hk10, hT10, hB10⟩; have hX10 := hX9.trans hB10; have heq := intsEq_any A9 A10 res.1.length C9 C10 (fun i => res.1.getD i 0) w10 hl9 (hbl9.kept hk10 (fun g' o s e hp => absurd (hf9 g' o s e) (by have hp' : g' = w2.heap.size := hp; have : wr.drew.heap.size = wr.heap.size := rfl; omega))) hbl10)
            | (go_at_call 26; refine heq.mono ?_; rintro e w11 ⟨rfl, hb11⟩; have hT11 := hT10.below hb11; have hX11 := hX10.trans (hb11.mono hX10.size)))
          all_goals
            go_wp2_with fail
            go_meet
            exact ⟨⟨_, hT11⟩, hX11⟩
      case rest =>
        obtain ⟨⟨S', ht⟩, hX⟩ := hcut
        clear c1 c2
        have hl1 : ∀ m, Calls Try.prog 19 #[.pointer (some ⟨p6, 0, none⟩)] (wc.drewN m) fun e w' => e = .returned (.int .i64 (szO S' : Nat)) ∧ w' = wc.drewN m := fun m => (two_left _ _ _ _ _ _ _ _ _ _ (ht.drewN m)).mono fun _ _ h => ⟨h.1, h.2.symm⟩
        have hl2 : ∀ m, Calls Try.prog 40 #[.pointer (some ⟨w2.heap.size, 0, none⟩)] (wc.drewN m) fun e w' => e = .returned (.int .i64 (szO S' : Nat)) ∧ ∃ k, w' = (wc.drewN m).drewN k := fun m => two_refleft _ _ _ _ _ _ _ _ _ _ (ht.drewN m)
        have hl3 : ∀ m, Calls Try.prog 20 #[.pointer (some ⟨p6, 0, none⟩)] (wc.drewN m) fun e w' => e = .returned (.bool S'.isSome) ∧ w' = wc.drewN m := fun m => (two_ok _ _ _ _ _ _ _ _ _ _ (ht.drewN m)).mono fun _ _ h => ⟨h.1, h.2.symm⟩
        obtain ⟨e2, f2⟩ := ht.flag
        have hne : ((szO S' : Int) != (szO S' : Int)) = false := by simp
        have hHT := hide ht
        clear ht
        obtain ⟨t, htt⟩ : ∃ t, S'.isSome = t := ⟨_, rfl⟩
        have htn : S'.isNone = !t := by rw [← htt]; cases S' <;> rfl
        rw [htt] at hl3
        rw [htn] at e2
        clear htt htn
        generalize szO S' = z at *
        go_upto_region 19 with fail
        go_cut [109] (fun s wx => s = .bool false ∧ ∃ m, wx = wc.drewN m)
        case first =>
          go_quiet (first | (go_at_call 19; exact Calls.quiet_of_same (hl1 _)) | (go_at_call 40; exact Calls.quiet_of (hl2 _)) | (go_at_call 20; exact Calls.quiet_of_same (hl3 _)))
          all_goals
            go_wp2_with fail
            go_meet
            exact ⟨by cases t <;> rfl, _, rfl⟩
        case rest =>
          obtain ⟨rfl, m, rfl⟩ := hcut
          go_wp2_with fail
          go_roundg q
          case measure => omega
          case rel => exact ⟨k + 1, by omega, by go_num, ⟨_, hHT.out.drewN m⟩, below_drewN hX m⟩
end Go.Proofs.Ytpnphijfdcimlaa
