/-
  FrameOne's walk.
-/
import Derived.Test.YtlmjplpledilhaaFAwake
namespace Go.Proofs.Ytlmjplpledilhaa
open Go.RowKit

theorem row_sb {w : World} {a : Option Addr} {len cap : Nat} {zs : List Int} (h : IsRow .u8 w a len cap zs) : ∃ L, L.length = len ∧ SB w a cap L := by
  obtain ⟨hl, hm, hn, z, hz⟩ := h.byt
  exact ⟨tx z len, tx_length _ _, by rw [tx_length]; exact hl, hm, hn, h.addr, hz.bl⟩

set_option maxRecDepth 100000 in
set_option maxHeartbeats 1000000 in
theorem one_walk (a : Option Addr) (len cap : Nat) (L : List Nat) (w : World) (hL : L.length = len) (hS : SB w a cap L) :
    Calls Try.prog 4 #[.slice a len cap] w fun e w' => e = .returned (.bool true) ∧ Below w.heap.size w w' := by
  by_cases h1 : 10000 < len
  · clear hS hL
    go_enter Try.func4, Try.ntmps4
    go_wp2_with fail
    refine (awake_any w).mono ?_
    rintro e w1 ⟨rfl, hB1⟩
    go_wp2_with fail
    go_ret
    exact ⟨rfl, hB1⟩
  · have hlz : (len : Int) ≤ 10000 := by omega
    have HS := hide (And.intro hL hS)
    clear hS hL
    go_enter Try.func4, Try.ntmps4
    go_wp2_with fail
    refine (awake_any w).mono ?_
    rintro e w1 ⟨rfl, hB1⟩
    have hg := fget_any a cap len L w1 HS.out.1.symm (HS.out.2.below hB1) (by omega)
    have HB1 := hide hB1
    clear hB1
    cases hf : getFile L with
    | none =>
      rw [hf, show errG none = 9 from rfl] at hg
      go_wp2_with fail
      refine hg.mono ?_
      rintro e w2 ⟨v2, xs, rfl, ho, hx, hB2⟩
      have hxs : xs = [] := by simpa using hx
      subst hxs
      obtain ⟨A2, C2, rfl, _, _, _⟩ := ho.prts
      have hp := fput_any A2 0 C2 (prtAt []) w2 (.inl rfl) (by omega) (by rw [pts_none]; simp [sizeB, bodyB])
      have HB2 := hide (HB1.out.trans (hB2.mono HB1.out.size))
      clear hg ho hx hB2
      simp only [List.length_nil]
      go_wp2_with fail
      refine hp.mono ?_
      rintro e w3 ⟨v3, rfl, _, hB3⟩
      have HB3 := hide (HB2.out.trans (hB3.mono HB2.out.size))
      clear hp hB3
      go_wp2_with fail
      go_ret
      exact ⟨rfl, HB3.out⟩
    | some ps =>
      rw [hf, show errG (some ps) = 0 from rfl] at hg
      obtain ⟨hfile, hok, _, hsz⟩ := getFile_one HS.out.2.b.lt hf
      go_wp2_with fail
      refine hg.mono ?_
      rintro e w2 ⟨v2, xs, rfl, ho, hx, hB2⟩
      obtain ⟨A2, C2, rfl, hP, _, _⟩ := ho.prts
      have hpp := pts_prtAt xs
      have hx' : xs.map (fun x : PV => x.1) = ps := hx
      rw [hx'] at hpp
      have hL := HS.out.1
      have hxl : xs.length ≤ 10000 := by
        have e1 : ps.length = xs.length := by rw [← hx', List.length_map]
        have e2 : ∀ qs : List PT, qs.length ≤ (bodyB qs).length := by
          intro qs
          induction qs with
          | nil => simp
          | cons q r ih => have := partB_pos q; simp [bodyB]; omega
        have := e2 ps
        unfold sizeB at hsz
        omega
      have hp := fput_any A2 xs.length C2 (prtAt xs) w2 hP (by omega) (by rw [hpp]; omega)
      rw [hpp, hfile, hsz, hL] at hp
      have hB12 := HB1.out.trans (hB2.mono HB1.out.size)
      have HB2 := hide hB12
      clear hg ho hx hB2 hP hpp hx' hok hsz hfile hB12 hL hf
      go_wp2_with fail
      refine hp.mono ?_
      rintro e w3 ⟨v3, rfl, ho3, hB3⟩
      obtain ⟨hl3, A3, C3, rfl, hS3, _⟩ := SB.own ho3 HS.out.2.b.lt
      have hB13 := HB2.out.trans (hB3.mono HB2.out.size)
      have hsame := sameBytes_any a A3 len cap C3 L w3 HS.out.1 (by omega) (HS.out.2.b.below hB13) hS3.b
      rw [HS.out.1]
      have HB3 := hide hB13
      clear hp hB3 hS3 ho3 hB13 hl3
      go_wp2_with fail
      refine hsame.mono ?_
      rintro e w4 ⟨rfl, hB4⟩
      go_wp2_with fail
      go_ret
      exact ⟨rfl, HB3.out.trans (hB4.mono HB3.out.size)⟩
end Go.Proofs.Ytlmjplpledilhaa
