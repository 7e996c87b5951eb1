/-
  doc.Put.
-/
import Derived.Test.YtpmldopbjlnknaaGreatDOfs
import Derived.Test.YtpmldopbjlnknaaGreatSolo
import Derived.Test.YtpmldopbjlnknaaGreatRegC
import Derived.Test.YtpmldopbjlnknaaGreatTxt
set_option maxHeartbeats 4000000
set_option maxRecDepth 100000
set_option linter.unusedVariables false
set_option linter.unusedSimpArgs false
namespace Go.Proofs.YtpmldopbjlnknaaGreat
open Go.RowKit Go.Shelf
def docsN (f : Nat → DT) (n : Nat) : List DT := (List.range n).map f
theorem docsN_succ (f : Nat → DT) (n : Nat) : docsN f (n + 1) = docsN f n ++ [f n] := by simp [docsN, List.range_succ]
theorem docsN_length (f : Nat → DT) (n : Nat) : (docsN f n).length = n := by simp [docsN]
theorem rightD_eq (f : Nat → DT) (n : Nat) : rightD (docsN f n) = ((decide (n ≤ 4000) && riseP [] (pathsN (fun i => (f i).P) n)) && (List.range n).all fun i => fitD (f i)) := by
 unfold rightD pathsN
 rw [docsN_length]
 unfold docsN
 rw [List.map_map, List.all_map]
 rfl
theorem encD_len {d : DT} (h : okD d) : (encD d).length ≤ 216 := by
 obtain ⟨h1, h2, h3, h4, h5⟩ := h
 have e1 := encN_len6 (n := d.P.length) (by unfold maxNum; omega)
 have e2 := encN_len6 (n := d.Z.toNat) (by unfold maxNum; omega)
 simp [encD, fixB, nb_length]
 omega
theorem bodyD_len : ∀ ds : List DT, (∀ d ∈ ds, okD d) → (bodyD ds).length ≤ 216 * ds.length
 | [], _ => by simp [bodyD]
 | d :: r, h => by
   have h1 := encD_len (h d List.mem_cons_self)
   have h2 := bodyD_len r (fun x hx => h x (List.mem_cons_of_mem _ hx))
   simp [bodyD]
   omega
theorem tableD_lt (ds : List DT) : ∀ b ∈ tableD ds, b < 256 := by
 have hb : ∀ ds : List DT, ∀ b ∈ bodyD ds, b < 256 := by
  intro ds
  induction ds with
  | nil => intro b hb; simp [bodyD] at hb
  | cons d r ih =>
    intro b hb
    simp only [bodyD, encD, List.mem_append] at hb
    rcases hb with (hb | hb | hb | hb) | hb
    ·exact encN_lt _ _ hb
    ·exact nb_lt _ _ hb
    ·exact fixB_lt _ _ hb
    ·exact encN_lt _ _ hb
    ·exact ih _ hb
 intro b hb'
 rcases List.mem_append.1 hb' with h | h
 ·exact encN_lt _ _ h
 ·exact hb _ _ h
theorem docPut_any (a : Option Addr) (len cap : Nat) (f : Nat → DT) (w : World) (hlen : len ≤ 140737488355328) (hrow : RowK w a 4 len (fun i => cellD (f i))) (hP : ∀ i, i < len → (f i).P.length ≤ 1000000) (hS : ∀ i, i < len → (f i).S < 4294967296) :
  Calls Tryz.prog 8 #[.slice a len cap] w fun e w' => (if rightD (docsN f len) = true then ∃ v, e = .returned (.tuple #[v, .int .i64 0]) ∧ w'.ownsRow w.heap.size 5 1 v (tableD (docsN f len)).length (lc (tableD (docsN f len))) else e = .returned (.tuple #[.slice none 0 0, .int .i64 2])) ∧ Below w.heap.size w w' := by
 have h1 := rightDocs_any a len cap f w hlen hrow hP
 rw [← rightD_eq] at h1
 have HF := hide hrow
 clear hrow
 cases hr : rightD (docsN f len) with
 | false =>
   rw [hr] at h1
   clear hr
   go_enter Tryz.func8, Tryz.ntmps8
   go_wp2_with fail
   refine h1.mono ?_
   rintro e w2 ⟨rfl, hb2⟩
   have HB := hide hb2
   clear h1 hb2
   go_wp2_with fail
   go_ret2
   exact ⟨rfl, HB.out⟩
 | true =>
   rw [hr] at h1
   obtain ⟨hok, h4⟩ := rightD_ok hr (fun d hd => by obtain ⟨i, hi, rfl⟩ := List.mem_map.1 hd; exact hS i (List.mem_range.1 hi))
   rw [docsN_length] at h4
   have HH := hide (show ∀ i, i < len → okD (f i) from fun i hi => hok _ (List.mem_map.2 ⟨i, List.mem_range.2 hi, rfl⟩))
   clear hr hP hS hok
   go_enter Tryz.func8, Tryz.ntmps8
   go_wp2_with fail
   refine h1.mono ?_
   rintro e w2 ⟨rfl, hb2⟩
   have HB := hide hb2
   have hso := Solo.fresh w2 w2.heap.size rfl
   obtain ⟨w3, hw3⟩ : ∃ w3, w2.alloc (.cells #[.pointer none, .int .i64 0, .bool false] 52) = w3 := ⟨_, rfl⟩
   rw [hw3] at hso
   have HB3 := hide (show Below w2.heap.size w2 w3 by rw [← hw3]; exact below_alloc _ _)
   have HW := hide hw3
   clear h1 hb2 hw3
   go_wp2_with fail
   rw [HW.out]
   have hs3 : w2.heap.size + 1 = w3.heap.size := by rw [← HW.out]; simp
   refine (solo_num (len : Int) hso (by simp [szO]) (w2.heap.size + 1) hs3).mono ?_
   rintro e w4 ⟨rfl, hso4, hk4⟩
   have hb4 := soloF_below hk4 HB3.out.size
   rw [putNum_some [] (len : Int) (by omega) (by unfold maxNum; omega)] at hso4
   have HB4 := hide (HB3.out.trans hb4)
   clear hso hb4 hk4 hs3
   go_wp2_with fail
   go_loopg [16] len (fun q s16 wr => ∃ k : Nat, k + q = len ∧ s16 = .int .i64 k ∧ Solo w2.heap.size (fun _ => False) (.pointer (some ⟨w2.heap.size, 0, none⟩)) (some (encN len ++ bodyD (docsN f k))) wr ∧ Below w2.heap.size w2 wr)
   case atStart => exact ⟨0, by omega, rfl, by simpa [docsN, bodyD] using hso4, HB4.out⟩
   case round =>
    clear hso4
    obtain ⟨k, hkq, rfl, hso, hB2⟩ := hrel
    have HB2 := hide hB2
    have hbl : (bodyD (docsN f k)).length ≤ 216 * k := by
     have := bodyD_len (docsN f k) (fun d hd => by obtain ⟨i, hi, rfl⟩ := List.mem_map.1 hd; exact HH.out i (by have := List.mem_range.1 hi; omega))
     rwa [docsN_length] at this
    have hel := encN_len6 (n := len) (by unfold maxNum; omega)
    cases gk with
    | zero =>
      obtain rfl : k = len := by omega
      have hby := solo_bytes hso (by simp [szO]; omega)
      clear hso hB2
      go_wp2_with fail
      refine hby.mono ?_
      rintro e w5 ⟨v5, rfl, ho5, hb5⟩
      have HO := hide (And.intro ho5 hb5)
      clear hby ho5 hb5
      go_wp2_with fail
      go_ret2
      have e1 : hasO (some (encN k ++ bodyD (docsN f k))) = tableD (docsN f k) := by unfold tableD; rw [docsN_length]; rfl
      have e2 : szO (some (encN k ++ bodyD (docsN f k))) = (tableD (docsN f k)).length := by rw [← hasO_len, e1]
      have h := HO.out.1
      rw [e1, e2] at h
      exact ⟨⟨_, rfl, owns_lower h (Nat.le_trans HB.out.size HB2.out.size)⟩, HB.out.trans ((HB2.out.mono HB.out.size).trans (HO.out.2.mono (Nat.le_trans HB.out.size HB2.out.size)))⟩
    | succ q =>
      have hkl : k < len := by omega
      have hk1 : (k : Int) < (len : Int) := by omega
      have hokk := HH.out k hkl
      obtain ⟨b, off, rfl, q0, q1, q2, q3⟩ := (HF.out.below (HB.out.trans (hB2.mono HB.out.size))).at4 hkl
      obtain ⟨W1, hW1⟩ : ∃ W1, wr.alloc (.cells #[by8 (f k).P, by8 (f k).L, .int .u32 ((f k).S : Nat), .int .i64 (f k).Z] 47) = W1 := ⟨_, rfl⟩
      have hnew : W1.heap[wr.heap.size]? = some (.cells #[by8 (f k).P, by8 (f k).L, .int .u32 ((f k).S : Nat), .int .i64 (f k).Z] 47 (0, 0)) := by rw [← hW1]; exact heap_alloc_new _ _
      have hb1 : Below wr.heap.size wr W1 := by rw [← hW1]; exact below_alloc _ _
      obtain ⟨n0, _, n2, n3⟩ := cellsAt4 hnew
      obtain ⟨w5, cp, hcv, hb5, hs5, hL5, hc5, hm5⟩ := text_bytes W1 (f k).P
      have hs1 : W1.heap.size = wr.heap.size + 1 := by rw [← hW1]; simp
      have hL : BL w5 (some ⟨W1.heap.size, 0, none⟩) (nb (f k).P) := hL5
      have htx := solo_text (some ⟨W1.heap.size, 0, none⟩) cp w5.heap.size (nb (f k).P) (hso.fence hb1) hb5 (fun g off s e _ => by cases e; exact ⟨.inr (Nat.le_refl _), by omega⟩) rfl (by rw [nb_length]; exact hc5) (hm5 (by have := hokk.1; omega)) (fun e => by cases e) (by simp [szO, nb_length]; have := hokk.1; omega) hL
      rw [putText_some _ _ (by rw [nb_length]; have := hokk.1; unfold maxNum; omega), nb_length, hs1] at htx
      rw [hs1] at hcv
      have HN := hide (And.intro n2 (And.intro n3 (And.intro hb1 hs1)))
      clear hnew hb1 hL5 hL hb5 hc5 hm5 hso hB2 n2 n3 hs5 hs1
      unfold by8 at q0 q1 n0 hW1
      go_wp2_with fail
      refine htx.mono ?_
      rintro e w6 ⟨rfl, hso6, hk6⟩
      have hbox : ¬ soloF w2.heap.size (fun x => wr.heap.size ≤ x ∧ x < wr.heap.size + 1) wr.heap.size := fun h => h.2 ⟨Nat.le_refl _, by omega⟩
      have m2 := hk6.cell HN.out.1 hbox
      have m3 := hk6.cell HN.out.2.1 hbox
      have HK6 := hide hk6
      have HBX := hide hbox
      have hfx := solo_fix (f k).S hso6 hokk.2.2.1 (by simp [szO, nb_length]; have := hokk.1; have := encN_len6 (n := (f k).P.length) (by unfold maxNum; omega); omega)
      clear htx hso6 hk6 n0 hW1 hcv hbox
      go_wp2_with fail
      refine hfx.mono ?_
      rintro e w7 ⟨rfl, hso7, hk7⟩
      have m4 := hk7.cell m3 HBX.out
      have HK7 := hide hk7
      simp only [putRaw] at hso7
      have hnm := solo_num (f k).Z hso7 (by simp [szO, nb_length, fixB]; have := hokk.1; have := encN_len6 (n := (f k).P.length) (by unfold maxNum; omega); omega) w7.heap.size rfl
      rw [putNum_some _ _ hokk.2.2.2.1 (by have := hokk.2.2.2.2; unfold maxNum; omega)] at hnm
      clear hfx hso7 hk7 m2 m3
      go_wp2_with fail
      refine hnm.mono ?_
      rintro e w8 ⟨rfl, hso8, hk8⟩
      have H8 := hide (And.intro hso8 hk8)
      clear hnm hso8 hk8 m4
      go_wp2_with fail
      go_roundg q
      case measure => omega
      case rel =>
       have hkk := (HK6.out.trans HK7.out (fun _ _ h => h)).trans H8.out.2 (fun _ _ h => h)
       have hB8 : Below w2.heap.size wr w8 := (HN.out.2.2.1.mono HB2.out.size).trans (soloF_below hkk (by have := HB2.out.size; have := HN.out.2.2.1.size; omega))
       refine ⟨k + 1, by omega, by go_num, ?_, HB2.out.trans hB8⟩
       have h := H8.out.1.free (Y := fun _ => False) (fun _ h => h.elim)
       rw [docsN_succ, bodyD_snoc]
       simpa [encD, List.append_assoc] using h
open Go.RowKit Go.Shelf
open Go.RowKit Go.Shelf
theorem RP.lt {w : World} {pv : Value} {F : Nat → Prop} {M : List Nat} (h : RP w pv F (some M)) : ∀ b ∈ M, b < 256 := by
 rcases h with ⟨_, h⟩ | ⟨p, _, _, A, C, _, _, _, _, _, hb, _⟩
 ·cases h
 ·exact hb.lt
open Go.RowKit Go.Shelf
theorem docsN_at (ds : List DT) : docsN (dAt ds) ds.length = ds := by
 apply List.ext_getElem?
 intro i
 by_cases h : i < ds.length
 ·simp [docsN, dAt, List.getD_eq_getElem?_getD, h]
 ·simp [docsN, h]
theorem dAt_mem {ds : List DT} {i : Nat} (h : i < ds.length) : dAt ds i ∈ ds := by
 unfold dAt
 rw [List.getD_eq_getElem?_getD, List.getElem?_eq_getElem h]
 exact List.getElem_mem h
def errD (L : List Nat) : Int := if (getDocs L).isSome then 0 else 9
def outD (L : List Nat) : List DT := (getDocs L).getD []
theorem getD_some {L : List Nat} {ds : List DT} (h : getDocs L = some ds) : errD L = 0 ∧ outD L = ds := by
 unfold errD outD
 rw [h]
 exact ⟨rfl, rfl⟩
end Go.Proofs.YtpmldopbjlnknaaGreat
