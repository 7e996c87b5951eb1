/-
  doc.Put.
-/
import Derived.Test.YtpmldopbjlnknaaGreatDOfs
import Derived.Test.YtpmldopbjlnknaaGreatSolo
import Derived.Test.YtpmldopbjlnknaaGreatRegC
import Derived.Test.YtpmldopbjlnknaaGreatTxt
namespace Go.Proofs.YtpmldopbjlnknaaGreat
open Go.RowKit Go.Shelf

/-- Documents of a row. -/
def docsN (f : Nat → DT) (n : Nat) : List DT := (List.range n).map f
theorem docsN_succ (f : Nat → DT) (n : Nat) : docsN f (n + 1) = docsN f n ++ [f n] := by simp [docsN, List.range_succ]
theorem docsN_length (f : Nat → DT) (n : Nat) : (docsN f n).length = n := by simp [docsN]
theorem rightD_eq (f : Nat → DT) (n : Nat) : rightD (docsN f n) = ((decide (n ≤ 4000) && riseP [] (pathsN (fun i => (f i).P) n)) && (List.range n).all fun i => fitD (f i)) := by
  unfold rightD pathsN
  rw [docsN_length]
  unfold docsN
  rw [List.map_map, List.all_map]
  rfl
theorem encD_len {d : DT} (h : okD d) : (encD d).length ≤ 216 := by
  obtain ⟨h1, h2, h3, h4, h5⟩ := h
  have e1 := encN_len6 (n := d.P.length) (by unfold maxNum; omega)
  have e2 := encN_len6 (n := d.Z.toNat) (by unfold maxNum; omega)
  simp [encD, fixB, nb_length]
  omega
theorem bodyD_len : ∀ ds : List DT, (∀ d ∈ ds, okD d) → (bodyD ds).length ≤ 216 * ds.length
  | [], _ => by simp [bodyD]
  | d :: r, h => by
    have h1 := encD_len (h d List.mem_cons_self)
    have h2 := bodyD_len r (fun x hx => h x (List.mem_cons_of_mem _ hx))
    simp [bodyD]
    omega
theorem tableD_lt (ds : List DT) : ∀ b ∈ tableD ds, b < 256 := by
  have hb : ∀ ds : List DT, ∀ b ∈ bodyD ds, b < 256 := by
    intro ds
    induction ds with
    | nil => intro b hb; simp [bodyD] at hb
    | cons d r ih =>
      intro b hb
      simp only [bodyD, encD, List.mem_append] at hb
      rcases hb with (hb | hb | hb | hb) | hb
      · exact encN_lt _ _ hb
      · exact nb_lt _ _ hb
      · exact fixB_lt _ _ hb
      · exact encN_lt _ _ hb
      · exact ih _ hb
  intro b hb'
  rcases List.mem_append.1 hb' with h | h
  · exact encN_lt _ _ h
  · exact hb _ _ h

set_option maxRecDepth 100000 in
set_option maxHeartbeats 4000000 in
theorem docPut_any (a : Option Addr) (len cap : Nat) (f : Nat → DT) (w : World) (hlen : len ≤ 140737488355328) (hrow : RowK w a 4 len (fun i => cellD (f i))) (hP : ∀ i, i < len → (f i).P.length ≤ 1000000) (hS : ∀ i, i < len → (f i).S < 4294967296) :
    Calls Tryz.prog 8 #[.slice a len cap] w fun e w' => (if rightD (docsN f len) = true then ∃ v, e = .returned (.tuple #[v, .int .i64 0]) ∧ w'.ownsRow w.heap.size 5 1 v (tableD (docsN f len)).length (lc (tableD (docsN f len))) else e = .returned (.tuple #[.slice none 0 0, .int .i64 2])) ∧ Below w.heap.size w w' := by
  have h1 := rightDocs_any a len cap f w hlen hrow hP
  rw [← rightD_eq] at h1
  have HF := hide hrow
  clear hrow
  cases hr : rightD (docsN f len) with
  | false =>
    rw [hr] at h1
    clear hr
    go_enter Tryz.func8, Tryz.ntmps8
    go_wp2_with fail
    refine h1.mono ?_
    rintro e w2 ⟨rfl, hb2⟩
    have HB := hide hb2
    clear h1 hb2
    go_wp2_with fail
    go_ret2
    exact ⟨rfl, HB.out⟩
  | true =>
    rw [hr] at h1
    obtain ⟨hok, h4⟩ := rightD_ok hr (fun d hd => by obtain ⟨i, hi, rfl⟩ := List.mem_map.1 hd; exact hS i (List.mem_range.1 hi))
    rw [docsN_length] at h4
    have HH := hide (show ∀ i, i < len → okD (f i) from fun i hi => hok _ (List.mem_map.2 ⟨i, List.mem_range.2 hi, rfl⟩))
    clear hr hP hS hok
    go_enter Tryz.func8, Tryz.ntmps8
    go_wp2_with fail
    refine h1.mono ?_
    rintro e w2 ⟨rfl, hb2⟩
    have HB := hide hb2
    have hso := Solo.fresh w2 w2.heap.size rfl
    obtain ⟨w3, hw3⟩ : ∃ w3, w2.alloc (.cells #[.pointer none, .int .i64 0, .bool false] 52) = w3 := ⟨_, rfl⟩
    rw [hw3] at hso
    have HB3 := hide (show Below w2.heap.size w2 w3 by rw [← hw3]; exact below_alloc _ _)
    have HW := hide hw3
    clear h1 hb2 hw3
    go_wp2_with fail
    rw [HW.out]
    have hs3 : w2.heap.size + 1 = w3.heap.size := by rw [← HW.out]; simp
    refine (solo_num (len : Int) hso (by simp [szO]) (w2.heap.size + 1) hs3).mono ?_
    rintro e w4 ⟨rfl, hso4, hk4⟩
    have hb4 := soloF_below hk4 HB3.out.size
    rw [putNum_some [] (len : Int) (by omega) (by unfold maxNum; omega)] at hso4
    have HB4 := hide (HB3.out.trans hb4)
    clear hso hb4 hk4 hs3
    go_wp2_with fail
    go_loopg [16] len (fun q s16 wr => ∃ k : Nat, k + q = len ∧ s16 = .int .i64 k ∧ Solo w2.heap.size (fun _ => False) (.pointer (some ⟨w2.heap.size, 0, none⟩)) (some (encN len ++ bodyD (docsN f k))) wr ∧ Below w2.heap.size w2 wr)
    case atStart => exact ⟨0, by omega, rfl, by simpa [docsN, bodyD] using hso4, HB4.out⟩
    case round =>
      clear hso4
      obtain ⟨k, hkq, rfl, hso, hB2⟩ := hrel
      have HB2 := hide hB2
      have hbl : (bodyD (docsN f k)).length ≤ 216 * k := by
        have := bodyD_len (docsN f k) (fun d hd => by obtain ⟨i, hi, rfl⟩ := List.mem_map.1 hd; exact HH.out i (by have := List.mem_range.1 hi; omega))
        rwa [docsN_length] at this
      have hel := encN_len6 (n := len) (by unfold maxNum; omega)
      cases gk with
      | zero =>
        obtain rfl : k = len := by omega
        have hby := solo_bytes hso (by simp [szO]; omega)
        clear hso hB2
        go_wp2_with fail
        refine hby.mono ?_
        rintro e w5 ⟨v5, rfl, ho5, hb5⟩
        have HO := hide (And.intro ho5 hb5)
        clear hby ho5 hb5
        go_wp2_with fail
        go_ret2
        have e1 : hasO (some (encN k ++ bodyD (docsN f k))) = tableD (docsN f k) := by unfold tableD; rw [docsN_length]; rfl
        have e2 : szO (some (encN k ++ bodyD (docsN f k))) = (tableD (docsN f k)).length := by rw [← hasO_len, e1]
        have h := HO.out.1
        rw [e1, e2] at h
        exact ⟨⟨_, rfl, owns_lower h (Nat.le_trans HB.out.size HB2.out.size)⟩, HB.out.trans ((HB2.out.mono HB.out.size).trans (HO.out.2.mono (Nat.le_trans HB.out.size HB2.out.size)))⟩
      | succ q =>
        have hkl : k < len := by omega
        have hk1 : (k : Int) < (len : Int) := by omega
        have hokk := HH.out k hkl
        obtain ⟨b, off, rfl, q0, q1, q2, q3⟩ := (HF.out.below (HB.out.trans (hB2.mono HB.out.size))).at4 hkl
        obtain ⟨W1, hW1⟩ : ∃ W1, wr.alloc (.cells #[by8 (f k).P, by8 (f k).L, .int .u32 ((f k).S : Nat), .int .i64 (f k).Z] 47) = W1 := ⟨_, rfl⟩
        have hnew : W1.heap[wr.heap.size]? = some (.cells #[by8 (f k).P, by8 (f k).L, .int .u32 ((f k).S : Nat), .int .i64 (f k).Z] 47 (0, 0)) := by rw [← hW1]; exact heap_alloc_new _ _
        have hb1 : Below wr.heap.size wr W1 := by rw [← hW1]; exact below_alloc _ _
        obtain ⟨n0, _, n2, n3⟩ := cellsAt4 hnew
        obtain ⟨w5, cp, hcv, hb5, hs5, hL5, hc5, hm5⟩ := text_bytes W1 (f k).P
        have hs1 : W1.heap.size = wr.heap.size + 1 := by rw [← hW1]; simp
        have hL : BL w5 (some ⟨W1.heap.size, 0, none⟩) (nb (f k).P) := hL5
        have htx := solo_text (some ⟨W1.heap.size, 0, none⟩) cp w5.heap.size (nb (f k).P) (hso.fence hb1) hb5 (fun g off s e _ => by cases e; exact ⟨.inr (Nat.le_refl _), by omega⟩) rfl (by rw [nb_length]; exact hc5) (hm5 (by have := hokk.1; omega)) (fun e => by cases e) (by simp [szO, nb_length]; have := hokk.1; omega) hL
        rw [putText_some _ _ (by rw [nb_length]; have := hokk.1; unfold maxNum; omega), nb_length, hs1] at htx
        rw [hs1] at hcv
        have HN := hide (And.intro n2 (And.intro n3 (And.intro hb1 hs1)))
        clear hnew hb1 hL5 hL hb5 hc5 hm5 hso hB2 n2 n3 hs5 hs1
        unfold by8 at q0 q1 n0 hW1
        go_wp2_with fail
        refine htx.mono ?_
        rintro e w6 ⟨rfl, hso6, hk6⟩
        have hbox : ¬ soloF w2.heap.size (fun x => wr.heap.size ≤ x ∧ x < wr.heap.size + 1) wr.heap.size := fun h => h.2 ⟨Nat.le_refl _, by omega⟩
        have m2 := hk6.cell HN.out.1 hbox
        have m3 := hk6.cell HN.out.2.1 hbox
        have HK6 := hide hk6
        have HBX := hide hbox
        have hfx := solo_fix (f k).S hso6 hokk.2.2.1 (by simp [szO, nb_length]; have := hokk.1; have := encN_len6 (n := (f k).P.length) (by unfold maxNum; omega); omega)
        clear htx hso6 hk6 n0 hW1 hcv hbox
        go_wp2_with fail
        refine hfx.mono ?_
        rintro e w7 ⟨rfl, hso7, hk7⟩
        have m4 := hk7.cell m3 HBX.out
        have HK7 := hide hk7
        simp only [putRaw] at hso7
        have hnm := solo_num (f k).Z hso7 (by simp [szO, nb_length, fixB]; have := hokk.1; have := encN_len6 (n := (f k).P.length) (by unfold maxNum; omega); omega) w7.heap.size rfl
        rw [putNum_some _ _ hokk.2.2.2.1 (by have := hokk.2.2.2.2; unfold maxNum; omega)] at hnm
        clear hfx hso7 hk7 m2 m3
        go_wp2_with fail
        refine hnm.mono ?_
        rintro e w8 ⟨rfl, hso8, hk8⟩
        have H8 := hide (And.intro hso8 hk8)
        clear hnm hso8 hk8 m4
        go_wp2_with fail
        go_roundg q
        case measure => omega
        case rel =>
          have hkk := (HK6.out.trans HK7.out (fun _ _ h => h)).trans H8.out.2 (fun _ _ h => h)
          have hB8 : Below w2.heap.size wr w8 := (HN.out.2.2.1.mono HB2.out.size).trans (soloF_below hkk (by have := HB2.out.size; have := HN.out.2.2.1.size; omega))
          refine ⟨k + 1, by omega, by go_num, ?_, HB2.out.trans hB8⟩
          have h := H8.out.1.free (Y := fun _ => False) (fun _ h => h.elim)
          rw [docsN_succ, bodyD_snoc]
          simpa [encD, List.append_assoc] using h
end Go.Proofs.YtpmldopbjlnknaaGreat

/-
  The drawn region of doc's reader (written by tools/gen-dget.py).
-/
namespace Go.Proofs.YtpmldopbjlnknaaGreat
open Go.RowKit Go.Shelf
set_option linter.unusedVariables false
set_option linter.unusedSimpArgs false

abbrev dget6_o0 : Oper := { dst := some 22, op := Op.move (Operand.tmp 3), type := 22, pos := "doc.go:84", after := #[], guard := none }
abbrev dget6_o1 : Oper := { dst := some 23, op := Op.move (Operand.tmp 5), type := 9, pos := "doc.go:84", after := #[], guard := none }
abbrev dget6_o2 : Oper := { dst := some 24, op := Op.move (Operand.tmp 5), type := 9, pos := "doc.go:84", after := #[], guard := none }
abbrev dget6_o3 : Oper := { dst := some 25, op := Op.call { callee := Callee.value (Operand.func 32), args := #[Operand.tmp 24], argTypes := #[9] }, type := 9, pos := "doc.go:84", after := #[{ on := 2, ground := Ground.data }], guard := none }
abbrev dget6_o4 : Oper := { dst := some 26, op := Op.fieldAddr 157 (Operand.tmp 1) 0, type := 0, pos := "doc.go:84", after := #[], guard := none }
abbrev dget6_o5 : Oper := { dst := some 27, op := Op.load 154 (Operand.tmp 26), type := 154, pos := "doc.go:84", after := #[{ on := 4, ground := Ground.data }], guard := none }
abbrev dget6_o6 : Oper := { dst := some 28, op := Op.call { callee := Callee.value (Operand.func 136), args := #[Operand.tmp 27], argTypes := #[154] }, type := 45, pos := "doc.go:84", after := #[{ on := 5, ground := Ground.data }, { on := 3, ground := Ground.chain }], guard := none }
abbrev dget6_o7 : Oper := { dst := some 29, op := Op.fieldAddr 157 (Operand.tmp 1) 0, type := 0, pos := "doc.go:84", after := #[], guard := none }
abbrev dget6_o8 : Oper := { dst := some 30, op := Op.load 154 (Operand.tmp 29), type := 154, pos := "doc.go:84", after := #[{ on := 7, ground := Ground.data }], guard := none }
abbrev dget6_o9 : Oper := { dst := some 31, op := Op.call { callee := Callee.value (Operand.func 134), args := #[Operand.tmp 30, Operand.const (Value.int IntKind.i64 1048576)], argTypes := #[154, 3] }, type := 3, pos := "doc.go:84", after := #[{ on := 8, ground := Ground.data }, { on := 6, ground := Ground.chain }], guard := none }
abbrev dget6_o10 : Oper := { dst := some 32, op := Op.build 47 #[(0, Operand.tmp 23), (1, Operand.tmp 25), (2, Operand.tmp 28), (3, Operand.tmp 31)], type := 47, pos := "doc.go:84", after := #[{ on := 1, ground := Ground.data }, { on := 3, ground := Ground.data }, { on := 6, ground := Ground.data }, { on := 9, ground := Ground.data }], guard := none }
abbrev dget6_o11 : Oper := { dst := some 33, op := Op.buildSlice 22 1 #[(0, Operand.tmp 32)], type := 22, pos := "doc.go:84", after := #[{ on := 10, ground := Ground.data }], guard := none }
abbrev dget6_o12 : Oper := { dst := some 34, op := Op.call { callee := Callee.builtin Builtin.append, args := #[Operand.tmp 22, Operand.tmp 33], argTypes := #[22, 22] }, type := 22, pos := "doc.go:84", after := #[{ on := 0, ground := Ground.data }, { on := 11, ground := Ground.data }, { on := 9, ground := Ground.chain }], guard := none }
abbrev dget6_o13 : Oper := { dst := some 3, op := Op.assign (Operand.tmp 34), type := 22, pos := "doc.go:84", after := #[{ on := 12, ground := Ground.data }, { on := 12, ground := Ground.chain }, { on := 0, ground := Ground.phase }, { on := 1, ground := Ground.phase }, { on := 2, ground := Ground.phase }, { on := 3, ground := Ground.phase }, { on := 4, ground := Ground.phase }, { on := 5, ground := Ground.phase }, { on := 6, ground := Ground.phase }, { on := 7, ground := Ground.phase }, { on := 8, ground := Ground.phase }, { on := 9, ground := Ground.phase }, { on := 10, ground := Ground.phase }, { on := 11, ground := Ground.phase }, { on := 12, ground := Ground.phase }], guard := none }
def dget6_ops : Array Oper := #[dget6_o0, dget6_o1, dget6_o2, dget6_o3, dget6_o4, dget6_o5, dget6_o6, dget6_o7, dget6_o8, dget6_o9, dget6_o10, dget6_o11, dget6_o12, dget6_o13]
abbrev dget6_mem (s : Nat) : Prop := s ∈ [22, 23, 24, 25, 26, 27, 28, 29, 30, 31, 32, 33]
set_option maxRecDepth 100000 in
theorem dget6_slots : ∀ j, j < 12 → dget6_mem (slotOf dget6_ops j) := by
  intro j hj
  match j, hj with
  | 0, _ => exact (by decide : dget6_mem 22)
  | 1, _ => exact (by decide : dget6_mem 23)
  | 2, _ => exact (by decide : dget6_mem 24)
  | 3, _ => exact (by decide : dget6_mem 25)
  | 4, _ => exact (by decide : dget6_mem 26)
  | 5, _ => exact (by decide : dget6_mem 27)
  | 6, _ => exact (by decide : dget6_mem 28)
  | 7, _ => exact (by decide : dget6_mem 29)
  | 8, _ => exact (by decide : dget6_mem 30)
  | 9, _ => exact (by decide : dget6_mem 31)
  | 10, _ => exact (by decide : dget6_mem 32)
  | 11, _ => exact (by decide : dget6_mem 33)
  | k + 12, hj => omega
def dget6_val (b1 N0 : Nat) (pv : Value) (G : Nat → Prop) (P : List UInt8) (S : Option (List Nat)) (O : Value) : Nat → Value → World → Prop
  | 0, v, w => v = O
  | 1, v, w => v = by8 P
  | 2, v, w => v = by8 P
  | 3, v, w => v = by8 (ofL P)
  | 4, v, w => v = .pointer (some ⟨b1, 0, none⟩)
  | 5, v, w => v = pv
  | 6, v, w => v = .int .u32 ((getFix S).1 : Nat)
  | 7, v, w => v = .pointer (some ⟨b1, 0, none⟩)
  | 8, v, w => v = pv
  | 9, v, w => v = .int .i64 ((getNum 1048576 (getFix S).2).1 : Nat)
  | 10, v, w => v = .agg #[by8 P, by8 (ofL P), .int .u32 ((getFix S).1 : Nat), .int .i64 ((getNum 1048576 (getFix S).2).1 : Nat)]
  | 11, v, w => ∃ g, v = .slice (some ⟨g, 0, none⟩) 1 1 ∧ w.heap[g]? = some (.cells #[by8 P, by8 (ofL P), .int .u32 ((getFix S).1 : Nat), .int .i64 ((getNum 1048576 (getFix S).2).1 : Nat)] 47 (0, 0)) ∧ N0 ≤ g ∧ ¬ own1 pv g
  | _, _, _ => True
theorem dget6_below (b1 N0 : Nat) (pv : Value) (G : Nat → Prop) (P : List UInt8) (S : Option (List Nat)) (O : Value) (w w' : World) (hb : Kept (own1 pv) w w') : ∀ j v, dget6_val b1 N0 pv G P S O j v w → dget6_val b1 N0 pv G P S O j v w' := by
  intro j v h
  match j, h with
  | 0, h => exact h
  | 1, h => exact h
  | 2, h => exact h
  | 3, h => exact h
  | 4, h => exact h
  | 5, h => exact h
  | 6, h => exact h
  | 7, h => exact h
  | 8, h => exact h
  | 9, h => exact h
  | 10, h => exact h
  | 11, h => obtain ⟨g, h1, h2, h3, h4⟩ := h; exact ⟨g, h1, hb.heap h2 h4, h3, h4⟩
  | _ + 12, h => exact h
def dget6_T (b1 N0 : Nat) (pv : Value) (G : Nat → Prop) (P : List UInt8) (S : Option (List Nat)) (O : Value) : Nat → World → Prop
  | 0, w => RP w pv G S
  | 1, w => RP w pv G (getFix S).2
  | 2, w => RP w pv G (getNum 1048576 (getFix S).2).2
  | _, _ => True
theorem dget6_T_below (b1 N0 : Nat) (pv : Value) (G : Nat → Prop) (P : List UInt8) (S : Option (List Nat)) (O : Value) (w w' : World) (hb : Below w.heap.size w w') : ∀ k, dget6_T b1 N0 pv G P S O k w → dget6_T b1 N0 pv G P S O k w' := by
  intro k h
  match k, h with
  | 0, h => exact h.kept (Kept.of_below (F := fun _ => False) hb) (fun _ _ h => h)
  | 1, h => exact h.kept (Kept.of_below (F := fun _ => False) hb) (fun _ _ h => h)
  | 2, h => exact h.kept (Kept.of_below (F := fun _ => False) hb) (fun _ _ h => h)
  | _ + 3, h => trivial
set_option maxRecDepth 100000 in
set_option maxHeartbeats 2000000 in
theorem dget6_s0 {Fc : Fence} (hF : Wide Fc) {nC : Nat} (b1 N0 : Nat) (pv : Value) (G : Nat → Prop) (P : List UInt8) (S : Option (List Nat)) (O : Value) (Q : Exit → Act → World → Prop) (df : List Deferred) (w0 : World)
    (h1 : w0.cell? ⟨b1, 0, none⟩ = some pv) (hne : ¬ own1 pv b1) (hp : P.length ≤ 1000000) (hG : ∀ k, G k → k < w0.heap.size) (hpG : ∀ k, own1 pv k → G k) (hS : szO (getFix S).2 ≤ 9223372036854775807) (hN0 : w0.heap.size = N0)
    (x : Act) (w : World) (hB : Kept (own1 pv) w0 w) (hdef : x.defers = df) (u1 : x.tmps.getD 1 undef = .pointer (some ⟨b1, 0, none⟩)) (u3 : x.tmps.getD 3 undef = O) (u5 : x.tmps.getD 5 undef = by8 P)
    : wpOpIn Fc nC Tryz.prog dget6_ops Q 0 (fun a' w' => ∃ v, a' = x.put (some 22) v ∧ (v = O) ∧ Below w.heap.size w w') x w := by
  have ho : dget6_ops[0]? = some dget6_o0 := rfl
  simp only [Array.getD_eq_getD_getElem?] at u1 u3 u5
  refine wpOpIn_plain ho rfl (oper_inK hF.fn (fun K hK => ?_))
  clear ho
  rw [Oper.semAt_plain Fc _ _ (by intro c h; cases h)]
  simp only [dget6_o0]
  go_simp
  exact hK _ _ ⟨_, act_putD x hdef _ _, rfl, Below.refl _ _⟩
set_option maxRecDepth 100000 in
set_option maxHeartbeats 2000000 in
theorem dget6_s1 {Fc : Fence} (hF : Wide Fc) {nC : Nat} (b1 N0 : Nat) (pv : Value) (G : Nat → Prop) (P : List UInt8) (S : Option (List Nat)) (O : Value) (Q : Exit → Act → World → Prop) (df : List Deferred) (w0 : World)
    (h1 : w0.cell? ⟨b1, 0, none⟩ = some pv) (hne : ¬ own1 pv b1) (hp : P.length ≤ 1000000) (hG : ∀ k, G k → k < w0.heap.size) (hpG : ∀ k, own1 pv k → G k) (hS : szO (getFix S).2 ≤ 9223372036854775807) (hN0 : w0.heap.size = N0)
    (x : Act) (w : World) (hB : Kept (own1 pv) w0 w) (hdef : x.defers = df) (u1 : x.tmps.getD 1 undef = .pointer (some ⟨b1, 0, none⟩)) (u3 : x.tmps.getD 3 undef = O) (u5 : x.tmps.getD 5 undef = by8 P)
    : wpOpIn Fc nC Tryz.prog dget6_ops Q 1 (fun a' w' => ∃ v, a' = x.put (some 23) v ∧ (v = by8 P) ∧ Below w.heap.size w w') x w := by
  have ho : dget6_ops[1]? = some dget6_o1 := rfl
  simp only [Array.getD_eq_getD_getElem?] at u1 u3 u5
  refine wpOpIn_plain ho rfl (oper_inK hF.fn (fun K hK => ?_))
  clear ho
  rw [Oper.semAt_plain Fc _ _ (by intro c h; cases h)]
  simp only [dget6_o1]
  go_simp
  exact hK _ _ ⟨_, act_putD x hdef _ _, rfl, Below.refl _ _⟩
set_option maxRecDepth 100000 in
set_option maxHeartbeats 2000000 in
theorem dget6_s2 {Fc : Fence} (hF : Wide Fc) {nC : Nat} (b1 N0 : Nat) (pv : Value) (G : Nat → Prop) (P : List UInt8) (S : Option (List Nat)) (O : Value) (Q : Exit → Act → World → Prop) (df : List Deferred) (w0 : World)
    (h1 : w0.cell? ⟨b1, 0, none⟩ = some pv) (hne : ¬ own1 pv b1) (hp : P.length ≤ 1000000) (hG : ∀ k, G k → k < w0.heap.size) (hpG : ∀ k, own1 pv k → G k) (hS : szO (getFix S).2 ≤ 9223372036854775807) (hN0 : w0.heap.size = N0)
    (x : Act) (w : World) (hB : Kept (own1 pv) w0 w) (hdef : x.defers = df) (u1 : x.tmps.getD 1 undef = .pointer (some ⟨b1, 0, none⟩)) (u3 : x.tmps.getD 3 undef = O) (u5 : x.tmps.getD 5 undef = by8 P)
    : wpOpIn Fc nC Tryz.prog dget6_ops Q 2 (fun a' w' => ∃ v, a' = x.put (some 24) v ∧ (v = by8 P) ∧ Below w.heap.size w w') x w := by
  have ho : dget6_ops[2]? = some dget6_o2 := rfl
  simp only [Array.getD_eq_getD_getElem?] at u1 u3 u5
  refine wpOpIn_plain ho rfl (oper_inK hF.fn (fun K hK => ?_))
  clear ho
  rw [Oper.semAt_plain Fc _ _ (by intro c h; cases h)]
  simp only [dget6_o2]
  go_simp
  exact hK _ _ ⟨_, act_putD x hdef _ _, rfl, Below.refl _ _⟩
set_option maxRecDepth 100000 in
set_option maxHeartbeats 2000000 in
theorem dget6_s3 {Fc : Fence} (hF : Wide Fc) {nC : Nat} (b1 N0 : Nat) (pv : Value) (G : Nat → Prop) (P : List UInt8) (S : Option (List Nat)) (O : Value) (Q : Exit → Act → World → Prop) (df : List Deferred) (w0 : World)
    (h1 : w0.cell? ⟨b1, 0, none⟩ = some pv) (hne : ¬ own1 pv b1) (hp : P.length ≤ 1000000) (hG : ∀ k, G k → k < w0.heap.size) (hpG : ∀ k, own1 pv k → G k) (hS : szO (getFix S).2 ≤ 9223372036854775807) (hN0 : w0.heap.size = N0)
    (x : Act) (w : World) (hB : Kept (own1 pv) w0 w) (hdef : x.defers = df) (u1 : x.tmps.getD 1 undef = .pointer (some ⟨b1, 0, none⟩)) (u3 : x.tmps.getD 3 undef = O) (u5 : x.tmps.getD 5 undef = by8 P)
    (p2 : dget6_val b1 N0 pv G P S O 2 (x.tmps.getD 24 undef) w)
    : wpOpIn Fc nC Tryz.prog dget6_ops Q 3 (fun a' w' => ∃ v, a' = x.put (some 25) v ∧ (v = by8 (ofL P)) ∧ Below w.heap.size w w') x w := by
  have ho : dget6_ops[3]? = some dget6_o3 := rfl
  simp only [Array.getD_eq_getD_getElem?] at u1 u3 u5
  have q2 : x.tmps.getD 24 undef = by8 P := p2
  simp only [Array.getD_eq_getD_getElem?] at q2
  refine wpOpIn_plain ho rfl (oper_inK hF.fn (fun K hK => ?_))
  clear ho
  rw [Oper.semAt_plain Fc _ _ (by intro c h; cases h)]
  simp only [dget6_o3]
  go_simp
  refine ⟨hF.deep, (hF.call (of_any P w hp)).mono ?_⟩
  rintro e w' ⟨rfl, hb⟩
  exact hK _ _ ⟨_, act_putD x hdef _ _, rfl, hb⟩
set_option maxRecDepth 100000 in
set_option maxHeartbeats 2000000 in
theorem dget6_s4 {Fc : Fence} (hF : Wide Fc) {nC : Nat} (b1 N0 : Nat) (pv : Value) (G : Nat → Prop) (P : List UInt8) (S : Option (List Nat)) (O : Value) (Q : Exit → Act → World → Prop) (df : List Deferred) (w0 : World)
    (h1 : w0.cell? ⟨b1, 0, none⟩ = some pv) (hne : ¬ own1 pv b1) (hp : P.length ≤ 1000000) (hG : ∀ k, G k → k < w0.heap.size) (hpG : ∀ k, own1 pv k → G k) (hS : szO (getFix S).2 ≤ 9223372036854775807) (hN0 : w0.heap.size = N0)
    (x : Act) (w : World) (hB : Kept (own1 pv) w0 w) (hdef : x.defers = df) (u1 : x.tmps.getD 1 undef = .pointer (some ⟨b1, 0, none⟩)) (u3 : x.tmps.getD 3 undef = O) (u5 : x.tmps.getD 5 undef = by8 P)
    : wpOpIn Fc nC Tryz.prog dget6_ops Q 4 (fun a' w' => ∃ v, a' = x.put (some 26) v ∧ (v = .pointer (some ⟨b1, 0, none⟩)) ∧ Below w.heap.size w w') x w := by
  have ho : dget6_ops[4]? = some dget6_o4 := rfl
  simp only [Array.getD_eq_getD_getElem?] at u1 u3 u5
  refine wpOpIn_plain ho rfl (oper_inK hF.fn (fun K hK => ?_))
  clear ho
  rw [Oper.semAt_plain Fc _ _ (by intro c h; cases h)]
  simp only [dget6_o4]
  go_simp
  exact hK _ _ ⟨_, act_putD x hdef _ _, rfl, Below.refl _ _⟩
set_option maxRecDepth 100000 in
set_option maxHeartbeats 2000000 in
theorem dget6_s5 {Fc : Fence} (hF : Wide Fc) {nC : Nat} (b1 N0 : Nat) (pv : Value) (G : Nat → Prop) (P : List UInt8) (S : Option (List Nat)) (O : Value) (Q : Exit → Act → World → Prop) (df : List Deferred) (w0 : World)
    (h1 : w0.cell? ⟨b1, 0, none⟩ = some pv) (hne : ¬ own1 pv b1) (hp : P.length ≤ 1000000) (hG : ∀ k, G k → k < w0.heap.size) (hpG : ∀ k, own1 pv k → G k) (hS : szO (getFix S).2 ≤ 9223372036854775807) (hN0 : w0.heap.size = N0)
    (x : Act) (w : World) (hB : Kept (own1 pv) w0 w) (hdef : x.defers = df) (u1 : x.tmps.getD 1 undef = .pointer (some ⟨b1, 0, none⟩)) (u3 : x.tmps.getD 3 undef = O) (u5 : x.tmps.getD 5 undef = by8 P)
    (p4 : dget6_val b1 N0 pv G P S O 4 (x.tmps.getD 26 undef) w)
    : wpOpIn Fc nC Tryz.prog dget6_ops Q 5 (fun a' w' => ∃ v, a' = x.put (some 27) v ∧ (v = pv) ∧ Below w.heap.size w w') x w := by
  have ho : dget6_ops[5]? = some dget6_o5 := rfl
  simp only [Array.getD_eq_getD_getElem?] at u1 u3 u5
  have q4 : x.tmps.getD 26 undef = .pointer (some ⟨b1, 0, none⟩) := p4
  simp only [Array.getD_eq_getD_getElem?] at q4
  have m := hB.cell h1 hne
  refine wpOpIn_plain ho rfl (oper_inK hF.fn (fun K hK => ?_))
  clear ho
  rw [Oper.semAt_plain Fc _ _ (by intro c h; cases h)]
  simp only [dget6_o5]
  go_simp
  exact hK _ _ ⟨_, act_putD x hdef _ _, rfl, Below.refl _ _⟩
set_option maxRecDepth 100000 in
set_option maxHeartbeats 2000000 in
theorem dget6_s6 {Fc : Fence} (hF : Wide Fc) {nC : Nat} (b1 N0 : Nat) (pv : Value) (G : Nat → Prop) (P : List UInt8) (S : Option (List Nat)) (O : Value) (Q : Exit → Act → World → Prop) (df : List Deferred) (w0 : World)
    (h1 : w0.cell? ⟨b1, 0, none⟩ = some pv) (hne : ¬ own1 pv b1) (hp : P.length ≤ 1000000) (hG : ∀ k, G k → k < w0.heap.size) (hpG : ∀ k, own1 pv k → G k) (hS : szO (getFix S).2 ≤ 9223372036854775807) (hN0 : w0.heap.size = N0)
    (x : Act) (w : World) (hB : Kept (own1 pv) w0 w) (hdef : x.defers = df) (hT : dget6_T b1 N0 pv G P S O 0 w) (u1 : x.tmps.getD 1 undef = .pointer (some ⟨b1, 0, none⟩)) (u3 : x.tmps.getD 3 undef = O) (u5 : x.tmps.getD 5 undef = by8 P)
    (p5 : dget6_val b1 N0 pv G P S O 5 (x.tmps.getD 27 undef) w)
    : wpOpIn Fc nC Tryz.prog dget6_ops Q 6 (fun a' w' => ∃ v, a' = x.put (some 28) v ∧ (v = .int .u32 ((getFix S).1 : Nat)) ∧ Kept (own1 pv) w w' ∧ dget6_T b1 N0 pv G P S O 1 w') x w := by
  have ho : dget6_ops[6]? = some dget6_o6 := rfl
  simp only [Array.getD_eq_getD_getElem?] at u1 u3 u5
  have q5 : x.tmps.getD 27 undef = pv := p5
  simp only [Array.getD_eq_getD_getElem?] at q5
  refine wpOpIn_plain ho rfl (oper_inK hF.fn (fun K hK => ?_))
  clear ho
  rw [Oper.semAt_plain Fc _ _ (by intro c h; cases h)]
  simp only [dget6_o6]
  go_simp
  refine ⟨hF.deep, (hF.call (rdFixed_any pv G S w hT)).mono ?_⟩
  rintro e w' ⟨rfl, hr, hk⟩
  exact hK _ _ ⟨_, act_putD x hdef _ _, rfl, hk.mono (fun _ _ h => h), hr⟩
set_option maxRecDepth 100000 in
set_option maxHeartbeats 2000000 in
theorem dget6_s7 {Fc : Fence} (hF : Wide Fc) {nC : Nat} (b1 N0 : Nat) (pv : Value) (G : Nat → Prop) (P : List UInt8) (S : Option (List Nat)) (O : Value) (Q : Exit → Act → World → Prop) (df : List Deferred) (w0 : World)
    (h1 : w0.cell? ⟨b1, 0, none⟩ = some pv) (hne : ¬ own1 pv b1) (hp : P.length ≤ 1000000) (hG : ∀ k, G k → k < w0.heap.size) (hpG : ∀ k, own1 pv k → G k) (hS : szO (getFix S).2 ≤ 9223372036854775807) (hN0 : w0.heap.size = N0)
    (x : Act) (w : World) (hB : Kept (own1 pv) w0 w) (hdef : x.defers = df) (u1 : x.tmps.getD 1 undef = .pointer (some ⟨b1, 0, none⟩)) (u3 : x.tmps.getD 3 undef = O) (u5 : x.tmps.getD 5 undef = by8 P)
    : wpOpIn Fc nC Tryz.prog dget6_ops Q 7 (fun a' w' => ∃ v, a' = x.put (some 29) v ∧ (v = .pointer (some ⟨b1, 0, none⟩)) ∧ Below w.heap.size w w') x w := by
  have ho : dget6_ops[7]? = some dget6_o7 := rfl
  simp only [Array.getD_eq_getD_getElem?] at u1 u3 u5
  refine wpOpIn_plain ho rfl (oper_inK hF.fn (fun K hK => ?_))
  clear ho
  rw [Oper.semAt_plain Fc _ _ (by intro c h; cases h)]
  simp only [dget6_o7]
  go_simp
  exact hK _ _ ⟨_, act_putD x hdef _ _, rfl, Below.refl _ _⟩
set_option maxRecDepth 100000 in
set_option maxHeartbeats 2000000 in
theorem dget6_s8 {Fc : Fence} (hF : Wide Fc) {nC : Nat} (b1 N0 : Nat) (pv : Value) (G : Nat → Prop) (P : List UInt8) (S : Option (List Nat)) (O : Value) (Q : Exit → Act → World → Prop) (df : List Deferred) (w0 : World)
    (h1 : w0.cell? ⟨b1, 0, none⟩ = some pv) (hne : ¬ own1 pv b1) (hp : P.length ≤ 1000000) (hG : ∀ k, G k → k < w0.heap.size) (hpG : ∀ k, own1 pv k → G k) (hS : szO (getFix S).2 ≤ 9223372036854775807) (hN0 : w0.heap.size = N0)
    (x : Act) (w : World) (hB : Kept (own1 pv) w0 w) (hdef : x.defers = df) (u1 : x.tmps.getD 1 undef = .pointer (some ⟨b1, 0, none⟩)) (u3 : x.tmps.getD 3 undef = O) (u5 : x.tmps.getD 5 undef = by8 P)
    (p7 : dget6_val b1 N0 pv G P S O 7 (x.tmps.getD 29 undef) w)
    : wpOpIn Fc nC Tryz.prog dget6_ops Q 8 (fun a' w' => ∃ v, a' = x.put (some 30) v ∧ (v = pv) ∧ Below w.heap.size w w') x w := by
  have ho : dget6_ops[8]? = some dget6_o8 := rfl
  simp only [Array.getD_eq_getD_getElem?] at u1 u3 u5
  have q7 : x.tmps.getD 29 undef = .pointer (some ⟨b1, 0, none⟩) := p7
  simp only [Array.getD_eq_getD_getElem?] at q7
  have m := hB.cell h1 hne
  refine wpOpIn_plain ho rfl (oper_inK hF.fn (fun K hK => ?_))
  clear ho
  rw [Oper.semAt_plain Fc _ _ (by intro c h; cases h)]
  simp only [dget6_o8]
  go_simp
  exact hK _ _ ⟨_, act_putD x hdef _ _, rfl, Below.refl _ _⟩
set_option maxRecDepth 100000 in
set_option maxHeartbeats 2000000 in
theorem dget6_s9 {Fc : Fence} (hF : Wide Fc) {nC : Nat} (b1 N0 : Nat) (pv : Value) (G : Nat → Prop) (P : List UInt8) (S : Option (List Nat)) (O : Value) (Q : Exit → Act → World → Prop) (df : List Deferred) (w0 : World)
    (h1 : w0.cell? ⟨b1, 0, none⟩ = some pv) (hne : ¬ own1 pv b1) (hp : P.length ≤ 1000000) (hG : ∀ k, G k → k < w0.heap.size) (hpG : ∀ k, own1 pv k → G k) (hS : szO (getFix S).2 ≤ 9223372036854775807) (hN0 : w0.heap.size = N0)
    (x : Act) (w : World) (hB : Kept (own1 pv) w0 w) (hdef : x.defers = df) (hT : dget6_T b1 N0 pv G P S O 1 w) (u1 : x.tmps.getD 1 undef = .pointer (some ⟨b1, 0, none⟩)) (u3 : x.tmps.getD 3 undef = O) (u5 : x.tmps.getD 5 undef = by8 P)
    (p8 : dget6_val b1 N0 pv G P S O 8 (x.tmps.getD 30 undef) w)
    : wpOpIn Fc nC Tryz.prog dget6_ops Q 9 (fun a' w' => ∃ v, a' = x.put (some 31) v ∧ (v = .int .i64 ((getNum 1048576 (getFix S).2).1 : Nat)) ∧ Kept (own1 pv) w w' ∧ dget6_T b1 N0 pv G P S O 2 w') x w := by
  have ho : dget6_ops[9]? = some dget6_o9 := rfl
  simp only [Array.getD_eq_getD_getElem?] at u1 u3 u5
  have q8 : x.tmps.getD 30 undef = pv := p8
  simp only [Array.getD_eq_getD_getElem?] at q8
  refine wpOpIn_plain ho rfl (oper_inK hF.fn (fun K hK => ?_))
  clear ho
  rw [Oper.semAt_plain Fc _ _ (by intro c h; cases h)]
  simp only [dget6_o9]
  go_simp
  refine ⟨hF.deep, (hF.call (rdNumber_any pv G (getFix S).2 1048576 w hT (fun k hk => Nat.lt_of_lt_of_le (hG k hk) hB.size) (by decide) hS)).mono ?_⟩
  rintro e w' ⟨rfl, hr, hk⟩
  exact hK _ _ ⟨_, act_putD x hdef _ _, rfl, hk.mono (fun _ _ h => h), hr⟩
set_option maxRecDepth 100000 in
set_option maxHeartbeats 2000000 in
theorem dget6_s10 {Fc : Fence} (hF : Wide Fc) {nC : Nat} (b1 N0 : Nat) (pv : Value) (G : Nat → Prop) (P : List UInt8) (S : Option (List Nat)) (O : Value) (Q : Exit → Act → World → Prop) (df : List Deferred) (w0 : World)
    (h1 : w0.cell? ⟨b1, 0, none⟩ = some pv) (hne : ¬ own1 pv b1) (hp : P.length ≤ 1000000) (hG : ∀ k, G k → k < w0.heap.size) (hpG : ∀ k, own1 pv k → G k) (hS : szO (getFix S).2 ≤ 9223372036854775807) (hN0 : w0.heap.size = N0)
    (x : Act) (w : World) (hB : Kept (own1 pv) w0 w) (hdef : x.defers = df) (u1 : x.tmps.getD 1 undef = .pointer (some ⟨b1, 0, none⟩)) (u3 : x.tmps.getD 3 undef = O) (u5 : x.tmps.getD 5 undef = by8 P)
    (p1 : dget6_val b1 N0 pv G P S O 1 (x.tmps.getD 23 undef) w)
    (p3 : dget6_val b1 N0 pv G P S O 3 (x.tmps.getD 25 undef) w)
    (p6 : dget6_val b1 N0 pv G P S O 6 (x.tmps.getD 28 undef) w)
    (p9 : dget6_val b1 N0 pv G P S O 9 (x.tmps.getD 31 undef) w)
    : wpOpIn Fc nC Tryz.prog dget6_ops Q 10 (fun a' w' => ∃ v, a' = x.put (some 32) v ∧ (v = .agg #[by8 P, by8 (ofL P), .int .u32 ((getFix S).1 : Nat), .int .i64 ((getNum 1048576 (getFix S).2).1 : Nat)]) ∧ Below w.heap.size w w') x w := by
  have ho : dget6_ops[10]? = some dget6_o10 := rfl
  simp only [Array.getD_eq_getD_getElem?] at u1 u3 u5
  have q1 : x.tmps.getD 23 undef = by8 P := p1
  have q3 : x.tmps.getD 25 undef = by8 (ofL P) := p3
  have q6 : x.tmps.getD 28 undef = .int .u32 ((getFix S).1 : Nat) := p6
  have q9 : x.tmps.getD 31 undef = .int .i64 ((getNum 1048576 (getFix S).2).1 : Nat) := p9
  simp only [Array.getD_eq_getD_getElem?] at q1 q3 q6 q9
  refine wpOpIn_plain ho rfl (oper_inK hF.fn (fun K hK => ?_))
  clear ho
  rw [Oper.semAt_plain Fc _ _ (by intro c h; cases h)]
  simp only [dget6_o10]
  go_simp
  exact hK _ _ ⟨.agg #[by8 P, by8 (ofL P), .int .u32 ((getFix S).1 : Nat), .int .i64 ((getNum 1048576 (getFix S).2).1 : Nat)], rfl, rfl, Below.refl _ _⟩
set_option maxRecDepth 100000 in
set_option maxHeartbeats 2000000 in
theorem dget6_s11 {Fc : Fence} (hF : Wide Fc) {nC : Nat} (b1 N0 : Nat) (pv : Value) (G : Nat → Prop) (P : List UInt8) (S : Option (List Nat)) (O : Value) (Q : Exit → Act → World → Prop) (df : List Deferred) (w0 : World)
    (h1 : w0.cell? ⟨b1, 0, none⟩ = some pv) (hne : ¬ own1 pv b1) (hp : P.length ≤ 1000000) (hG : ∀ k, G k → k < w0.heap.size) (hpG : ∀ k, own1 pv k → G k) (hS : szO (getFix S).2 ≤ 9223372036854775807) (hN0 : w0.heap.size = N0)
    (x : Act) (w : World) (hB : Kept (own1 pv) w0 w) (hdef : x.defers = df) (u1 : x.tmps.getD 1 undef = .pointer (some ⟨b1, 0, none⟩)) (u3 : x.tmps.getD 3 undef = O) (u5 : x.tmps.getD 5 undef = by8 P)
    (p10 : dget6_val b1 N0 pv G P S O 10 (x.tmps.getD 32 undef) w)
    : wpOpIn Fc nC Tryz.prog dget6_ops Q 11 (fun a' w' => ∃ v, a' = x.put (some 33) v ∧ (∃ g, v = .slice (some ⟨g, 0, none⟩) 1 1 ∧ w'.heap[g]? = some (.cells #[by8 P, by8 (ofL P), .int .u32 ((getFix S).1 : Nat), .int .i64 ((getNum 1048576 (getFix S).2).1 : Nat)] 47 (0, 0)) ∧ N0 ≤ g ∧ ¬ own1 pv g) ∧ Below w.heap.size w w') x w := by
  have ho : dget6_ops[11]? = some dget6_o11 := rfl
  simp only [Array.getD_eq_getD_getElem?] at u1 u3 u5
  have q10 : x.tmps.getD 32 undef = .agg #[by8 P, by8 (ofL P), .int .u32 ((getFix S).1 : Nat), .int .i64 ((getNum 1048576 (getFix S).2).1 : Nat)] := p10
  simp only [Array.getD_eq_getD_getElem?] at q10
  refine wpOpIn_plain ho rfl (oper_inK hF.fn (fun K hK => ?_))
  clear ho
  rw [Oper.semAt_plain Fc _ _ (by intro c h; cases h)]
  simp only [dget6_o11]
  go_simp
  exact hK _ _ ⟨_, act_putD x hdef _ _, ⟨_, rfl, heap_alloc_new _ _, hN0 ▸ hB.size, fun ho => absurd (hG _ (hpG _ ho)) (Nat.not_lt.2 hB.size)⟩, below_alloc _ _⟩

set_option maxRecDepth 100000 in
set_option maxHeartbeats 4000000 in
theorem dget6 {Fc : Fence} (hF : Wide Fc) {nC : Nat} (b1 N0 : Nat) (pv : Value) (G : Nat → Prop) (P : List UInt8) (S : Option (List Nat)) (O : Value) (Q : Exit → Act → World → Prop) (t0 : Array Value) (df : List Deferred) (w0 : World) (ht : t0.size = 36)
    (hs1 : t0.getD 1 undef = .pointer (some ⟨b1, 0, none⟩)) (hs3 : t0.getD 3 undef = O) (hs5 : t0.getD 5 undef = by8 P)
    (h1 : w0.cell? ⟨b1, 0, none⟩ = some pv) (hne : ¬ own1 pv b1) (hp : P.length ≤ 1000000) (hG : ∀ k, G k → k < w0.heap.size) (hpG : ∀ k, own1 pv k → G k) (hS : szO (getFix S).2 ≤ 9223372036854775807) (hN0 : w0.heap.size = N0)
    (hT0 : dget6_T b1 N0 pv G P S O 0 w0)
    (hQ : ∀ (vs : Nat → Value) (w : World), Kept (own1 pv) w0 w → dget6_T b1 N0 pv G P S O 2 w → (vs 22 = O) → (∃ g, (vs 33) = .slice (some ⟨g, 0, none⟩) 1 1 ∧ w.heap[g]? = some (.cells #[by8 P, by8 (ofL P), .int .u32 ((getFix S).1 : Nat), .int .i64 ((getNum 1048576 (getFix S).2).1 : Nat)] 47 (0, 0)) ∧ N0 ≤ g ∧ ¬ own1 pv g) → wpOpIn Fc nC Tryz.prog dget6_ops Q 12 (fun a' w' => wpOpIn Fc nC Tryz.prog dget6_ops Q 13 (Q .normal) a' w') { tmps := [22, 23, 24, 25, 26, 27, 28, 29, 30, 31, 32, 33].foldl (fun y d => y.setIfInBounds d (vs d)) t0, defers := df } w) :
    (Code.region 6 dget6_ops true).wpIn Fc nC Tryz.prog Q { tmps := t0, defers := df } w0 := by
  refine wpIn_region_chain 12 (by decide) (by kernel_rfl) [6, 9] (fun a b => Kept (own1 pv) a b) (fun a b => Below a.heap.size a b) (dget6_T b1 N0 pv G P S O) (dget6_val b1 N0 pv G P S O) t0 df w0 (by rw [ht]; kernel_rfl) (by kernel_rfl) (by kernel_rfl) (by kernel_rfl) (by kernel_rfl) ((Below.refl _ _).drew) hT0 (fun _ _ h => Kept.of_below h) (fun a b h k => dget6_T_below b1 N0 pv G P S O a b h k) (fun _ _ _ h k => h.trans k (fun _ _ h => h)) (dget6_below b1 N0 pv G P S O) ?_ ?_ ?_
  · intro j o ho hj hnC x w hB hdef hsz hs hdeps
    have hs' : ∀ s, ¬ dget6_mem s → x.tmps.getD s undef = t0.getD s undef := fun s hn => hs s (fun j hj e => hn (by rw [e]; exact dget6_slots j hj))
    have u1 := (hs' 1 (by decide)).trans hs1
    have u3 := (hs' 3 (by decide)).trans hs3
    have u5 := (hs' 5 (by decide)).trans hs5
    match j, ho, hj with
    | 0, ho, _ =>
      have e : o = dget6_o0 := (Option.some.inj ho).symm
      subst e
      exact dget6_s0 hF b1 N0 pv G P S O Q df w0 h1 hne hp hG hpG hS hN0 x w hB hdef u1 u3 u5 
    | 1, ho, _ =>
      have e : o = dget6_o1 := (Option.some.inj ho).symm
      subst e
      exact dget6_s1 hF b1 N0 pv G P S O Q df w0 h1 hne hp hG hpG hS hN0 x w hB hdef u1 u3 u5 
    | 2, ho, _ =>
      have e : o = dget6_o2 := (Option.some.inj ho).symm
      subst e
      exact dget6_s2 hF b1 N0 pv G P S O Q df w0 h1 hne hp hG hpG hS hN0 x w hB hdef u1 u3 u5 
    | 3, ho, _ =>
      have e : o = dget6_o3 := (Option.some.inj ho).symm
      subst e
      exact dget6_s3 hF b1 N0 pv G P S O Q df w0 h1 hne hp hG hpG hS hN0 x w hB hdef u1 u3 u5 (hdeps { on := 2, ground := Ground.data } (by simp) rfl)
    | 4, ho, _ =>
      have e : o = dget6_o4 := (Option.some.inj ho).symm
      subst e
      exact dget6_s4 hF b1 N0 pv G P S O Q df w0 h1 hne hp hG hpG hS hN0 x w hB hdef u1 u3 u5 
    | 5, ho, _ =>
      have e : o = dget6_o5 := (Option.some.inj ho).symm
      subst e
      exact dget6_s5 hF b1 N0 pv G P S O Q df w0 h1 hne hp hG hpG hS hN0 x w hB hdef u1 u3 u5 (hdeps { on := 4, ground := Ground.data } (by simp) rfl)
    | 6, ho, _ => exact absurd (by decide) hnC
    | 7, ho, _ =>
      have e : o = dget6_o7 := (Option.some.inj ho).symm
      subst e
      exact dget6_s7 hF b1 N0 pv G P S O Q df w0 h1 hne hp hG hpG hS hN0 x w hB hdef u1 u3 u5 
    | 8, ho, _ =>
      have e : o = dget6_o8 := (Option.some.inj ho).symm
      subst e
      exact dget6_s8 hF b1 N0 pv G P S O Q df w0 h1 hne hp hG hpG hS hN0 x w hB hdef u1 u3 u5 (hdeps { on := 7, ground := Ground.data } (by simp) rfl)
    | 9, ho, _ => exact absurd (by decide) hnC
    | 10, ho, _ =>
      have e : o = dget6_o10 := (Option.some.inj ho).symm
      subst e
      exact dget6_s10 hF b1 N0 pv G P S O Q df w0 h1 hne hp hG hpG hS hN0 x w hB hdef u1 u3 u5 (hdeps { on := 1, ground := Ground.data } (by simp) rfl) (hdeps { on := 3, ground := Ground.data } (by simp) rfl) (hdeps { on := 6, ground := Ground.data } (by simp) rfl) (hdeps { on := 9, ground := Ground.data } (by simp) rfl)
    | 11, ho, _ =>
      have e : o = dget6_o11 := (Option.some.inj ho).symm
      subst e
      exact dget6_s11 hF b1 N0 pv G P S O Q df w0 h1 hne hp hG hpG hS hN0 x w hB hdef u1 u3 u5 (hdeps { on := 10, ground := Ground.data } (by simp) rfl)
    | k + 12, _, hj => omega
  · intro k j o hk ho x w hT hB hdef hsz hs hdeps
    have hs' : ∀ s, ¬ dget6_mem s → x.tmps.getD s undef = t0.getD s undef := fun s hn => hs s (fun j hj e => hn (by rw [e]; exact dget6_slots j hj))
    have u1 := (hs' 1 (by decide)).trans hs1
    have u3 := (hs' 3 (by decide)).trans hs3
    have u5 := (hs' 5 (by decide)).trans hs5
    match k, hk with
    | 0, hk =>
      obtain rfl : 6 = j := Option.some.inj hk
      have e : o = dget6_o6 := (Option.some.inj ho).symm
      subst e
      exact dget6_s6 hF b1 N0 pv G P S O Q df w0 h1 hne hp hG hpG hS hN0 x w hB hdef hT u1 u3 u5 (hdeps { on := 5, ground := Ground.data } (by simp) rfl)
    | 1, hk =>
      obtain rfl : 9 = j := Option.some.inj hk
      have e : o = dget6_o9 := (Option.some.inj ho).symm
      subst e
      exact dget6_s9 hF b1 N0 pv G P S O Q df w0 h1 hne hp hG hpG hS hN0 x w hB hdef hT u1 u3 u5 (hdeps { on := 8, ground := Ground.data } (by simp) rfl)
    | k + 2, hk => simp at hk
  · intro x w hB hT hdef hsz hs hv
    have hx := frame_sets x.tmps t0 hsz [22, 23, 24, 25, 26, 27, 28, 29, 30, 31, 32, 33] (fun s hn => hs s (fun j hj e => hn (by rw [e]; exact dget6_slots j hj)))
    have hq := hQ (fun d => x.tmps.getD d undef) w hB hT (hv 0 (by decide)) (hv 11 (by decide))
    obtain ⟨T, Df⟩ := x
    dsimp only at hx hdef hq
    subst hdef
    rw [← hx] at hq
    exact hq
end Go.Proofs.YtpmldopbjlnknaaGreat

/-
  doc's reader; doc.Get.
-/
namespace Go.Proofs.YtpmldopbjlnknaaGreat
open Go.RowKit Go.Shelf

theorem txt_by8 (L : List Nat) : txt L = by8 (u8 L) := by
  unfold txt by8 u8 strOfNums
  rw [List.map_map]
  rfl
theorem tx_all (L : List Nat) : tx (fun i => L.getD i 0) L.length = L := by
  apply List.ext_getElem?
  intro i
  by_cases h : i < L.length
  · simp [tx, h, List.getD_eq_getElem?_getD]
  · simp [tx, h]
theorem RP.lt {w : World} {pv : Value} {F : Nat → Prop} {M : List Nat} (h : RP w pv F (some M)) : ∀ b ∈ M, b < 256 := by
  rcases h with ⟨_, h⟩ | ⟨p, _, _, A, C, _, _, _, _, _, hb, _⟩
  · cases h
  · exact hb.lt
theorem getText_facts (M : List Nat) : (∀ x ∈ (getText 200 (some M)).1, x ∈ M) ∧ (getText 200 (some M)).1.length ≤ 200 ∧ szO (getText 200 (some M)).2 ≤ M.length := by
  unfold getText
  cases hn : getNum 200 (some M) with
  | mk n S =>
    cases S with
    | none => exact ⟨fun x hx => by simp at hx, by simp, by simp [szO]⟩
    | some R =>
      obtain ⟨k, _, rfl, h2, _⟩ := getNum_some hn
      simp only
      split
      · exact ⟨fun x hx => by simp at hx, by simp, by simp [szO]⟩
      · refine ⟨fun x hx => List.mem_of_mem_drop (List.mem_of_mem_take hx), by simp; omega, ?_⟩
        simp [szO]
theorem getFix_sz (S : Option (List Nat)) : szO (getFix S).2 ≤ szO S := by
  cases S with
  | none => exact Nat.le_refl _
  | some L =>
    unfold getFix
    simp only
    split
    · simp [szO]
    · simp [szO]
theorem docsG_facts : ∀ (k : Nat) (S : Option (List Nat)), (docsG k S).1.length ≤ k ∧ (∀ d ∈ (docsG k S).1, d.P.length ≤ 200) ∧ szO (docsG k S).2 ≤ szO S
  | 0, S => ⟨Nat.le_refl _, (fun d hd => by cases hd), Nat.le_refl _⟩
  | k + 1, none => ⟨Nat.zero_le _, (fun d hd => by cases hd), Nat.le_refl _⟩
  | k + 1, some M => by
    obtain ⟨h1, h2, h3⟩ := docsG_facts k (getNum 1048576 (getFix (getText 200 (some M)).2).2).2
    obtain ⟨_, t2, t3⟩ := getText_facts M
    have hf := getFix_sz (getText 200 (some M)).2
    have hz := (getNum_lt 1048576 (getFix (getText 200 (some M)).2).2).2
    refine ⟨by simp [docsG]; omega, fun d hd => ?_, ?_⟩
    · simp only [docsG, List.mem_cons] at hd
      rcases hd with rfl | hd
      · show (u8 _).length ≤ 200
        rw [u8_length]; exact t2
      · exact h2 d hd
    · show szO (docsG k _).2 ≤ szO (some M)
      have : szO (some M) = M.length := rfl
      omega
theorem docsG_step (k : Nat) (M : List Nat) : docsG (k + 1) (some M) = (⟨u8 (getText 200 (some M)).1, ofL (u8 (getText 200 (some M)).1), (getFix (getText 200 (some M)).2).1, ((getNum 1048576 (getFix (getText 200 (some M)).2).2).1 : Int)⟩ :: (docsG k (getNum 1048576 (getFix (getText 200 (some M)).2).2).2).1, (docsG k (getNum 1048576 (getFix (getText 200 (some M)).2).2).2).2) := rfl

set_option maxRecDepth 100000 in
set_option maxHeartbeats 4000000 in
theorem docs_any (pv : Value) (F : Nat → Prop) (S : Option (List Nat)) (w : World) (h : RP w pv F S) (hF : ∀ k, F k → k < w.heap.size) (hS : szO S ≤ 140737488355328) :
    Calls Tryz.prog 97 #[.agg #[pv]] w fun e w' => ∃ v, e = .returned v ∧ OwnD w' w.heap.size v (docsG (getNum 4000 S).1 (getNum 4000 S).2).1 ∧ RP w' pv F (docsG (getNum 4000 S).1 (getNum 4000 S).2).2 ∧ Kept (own1 pv) w w' := by
  obtain ⟨pa, hpv⟩ := h.form
  have hown := h.own
  have hgl := getNum_lt 4000 S
  have hn4 : (getNum 4000 S).1 ≤ 4000 := by
    cases e : (getNum 4000 S).2 with
    | none => rw [getNum_none0 _ _ e]; omega
    | some L => have := (getNum_more 4000 S L e).2.1; omega
  obtain ⟨W1, hW1⟩ : ∃ W1, w.alloc (.cells #[pv] 157) = W1 := ⟨_, rfl⟩
  have hk1 : Kept (own1 pv) w W1 := by rw [← hW1]; exact Kept.of_below (below_alloc _ _)
  have hs1 : W1.heap.size = w.heap.size + 1 := by rw [← hW1]; simp
  have hcb : W1.cell? ⟨w.heap.size, 0, none⟩ = some pv := by rw [← hW1]; exact (cell_new_l w _ _).1
  have hr1 : RP W1 pv F S := h.kept (Kept.of_below (F := fun _ => False) (by rw [← hW1]; exact below_alloc _ _)) (fun _ _ h => h)
  have hne : ¬ own1 pv w.heap.size := fun ho => absurd (hF _ (hown _ ho)) (Nat.lt_irrefl _)
  have hnm := rdNumber_any pv F S 4000 W1 hr1 (fun k hk => by have := hF k hk; omega) (by decide) (by omega)
  have HW := hide hW1
  have HK := hide (And.intro hk1 (And.intro hown (And.intro hne (And.intro hgl.2 hn4))))
  clear hW1 hr1 hk1 hown hgl hne hn4 h
  subst hpv
  obtain ⟨n, hn⟩ : ∃ n, (getNum 4000 S).1 = n := ⟨_, rfl⟩
  obtain ⟨S1, hS1⟩ : ∃ S1, (getNum 4000 S).2 = S1 := ⟨_, rfl⟩
  rw [hn, hS1] at hnm HK ⊢
  clear hn hS1
  go_enter Tryz.func97, Tryz.ntmps97
  go_wp2_with fail
  rw [HW.out]
  go_wp2_with fail
  refine hnm.mono ?_
  rintro e w2 ⟨rfl, hr2, hk2⟩
  have hcb2 := hk2.cell hcb HK.out.2.2.1
  have H2 := hide (And.intro hr2 (HK.out.1.trans hk2 (fun _ _ h => h)))
  have hs2 : w.heap.size < w2.heap.size := by have := hk2.size; omega
  clear hnm hr2 hk2 hcb
  go_wp2_with fail
  go_loopg [3, 4] n (fun q s3 s4 wr => ∃ (done : List DT) (S2 : Option (List Nat)) (A : Option Addr) (C : Nat), s3 = .slice A done.length C ∧ s4 = .int .i64 q ∧ OwnD wr w2.heap.size (.slice A done.length C) done ∧ RP wr (.pointer pa) F S2 ∧ Kept (own1 (.pointer pa)) w wr ∧ wr.cell? ⟨w.heap.size, 0, none⟩ = some (.pointer pa) ∧ w2.heap.size ≤ wr.heap.size ∧ done.length + q = n ∧ szO S2 ≤ szO S ∧ docsG n S1 = (done ++ (docsG q S2).1, (docsG q S2).2))
  case atStart => exact ⟨[], S1, none, 0, rfl, rfl, OwnD.nil _ _, H2.out.1, H2.out.2, hcb2, Nat.le_refl _, by simp, HK.out.2.2.2.1, rfl⟩
  case round =>
    clear hcb2
    obtain ⟨done, S2, A, C, rfl, rfl, ho, hr, hk, hcb, hsz, hdq, hS2, hG⟩ := hrel
    have HO := hide (And.intro ho (And.intro hr (And.intro hk hG)))
    cases gk with
    | zero =>
      clear ho hr hk hcb hG
      go_wp2_with fail
      go_ret
      have e : docsG n S1 = (done, S2) := by rw [HO.out.2.2.2]; simp [docsG]
      rw [e]
      exact ⟨_, rfl, owns_lower HO.out.1 (by omega), HO.out.2.1, HO.out.2.2.1⟩
    | succ q =>
      have hq1 : (0 : Int) < ((q + 1 : Nat) : Int) := by omega
      have hokc := ok_any (.pointer pa) F S2 wr hr
      cases S2 with
      | none =>
        clear ho hr hk hG
        go_wp2_with fail
        refine hokc.mono ?_
        rintro e w5 ⟨rfl, rfl⟩
        clear hokc
        go_wp2_with fail
        go_ret
        have e : docsG n S1 = (done, none) := by rw [HO.out.2.2.2]; simp [docsG]
        rw [e]
        exact ⟨_, rfl, owns_lower HO.out.1 (by omega), HO.out.2.1, HO.out.2.2.1⟩
      | some M =>
        have htx := rdText_any (.pointer pa) F (some M) 200 wr hr (fun k hk' => by have := hF k hk'; have := hk.size; omega) (by decide) (by omega)
        obtain ⟨t1, t2, t3⟩ := getText_facts M
        have hby := hr.lt
        clear ho hr hk hG
        go_wp2_with fail
        refine hokc.mono ?_
        rintro e w5 ⟨rfl, rfl⟩
        clear hokc
        go_wp2_with fail
        refine htx.mono ?_
        rintro e w5 ⟨v5, rfl, ho5, hr5, hk5⟩
        obtain ⟨_, A5, C5, rfl, _, _, _, _, hbl5, _⟩ := owns_bl ho5 (fun b hb => hby b (t1 b hb))
        have hcv : (convert 26 9 (.slice A5 (getText 200 (some M)).1.length C5)).run Tryz.prog w5 = .ok (.string ⟨(u8 (getText 200 (some M)).1).toArray⟩) w5 := by
          have h := conv_byt (c := C5) hbl5
          rw [show tx (fun i => (getText 200 (some M)).1.getD i 0) (getText 200 (some M)).1.length = (getText 200 (some M)).1 from tx_all _, txt_by8] at h
          exact h
        have hcb5 := hk5.cell hcb HK.out.2.2.1
        have hGs := docsG_step q M
        have hfz := getFix_sz (getText 200 (some M)).2
        have hnz := (getNum_lt 1048576 (getFix (getText 200 (some M)).2).2).2
        have hplen : (u8 (getText 200 (some M)).1).length ≤ 1000000 := by rw [u8_length]; omega
        obtain ⟨P5, hP5⟩ : ∃ P, u8 (getText 200 (some M)).1 = P := ⟨_, rfl⟩
        obtain ⟨T5, hT5⟩ : ∃ T, (getText 200 (some M)).2 = T := ⟨_, rfl⟩
        rw [hP5] at hcv hplen hGs
        rw [hT5] at hr5 hGs hfz hnz t3
        have H5 := hide (And.intro hr5 (And.intro (HO.out.2.2.1.trans hk5 (fun _ _ h => h)) (And.intro hGs (And.intro hfz (And.intro hnz hplen)))))
        have hk5s := hk5.size
        have ho6 := hide (owns_keptS HO.out.1 hk5 (fun g hg ho => by
          have h1 := (owns_cells HO.out.1 g hg).2.1
          have := hF _ (HK.out.2.1 _ ho)
          omega))
        clear htx ho5 hbl5 hr5 hk5 hP5 hT5 hGs hfz hnz hplen hby t1
        go_wp2_with fail
        have hszM : szO (some M) = M.length := rfl
        have hsG : szO (getFix T5).2 ≤ 9223372036854775807 := by have := H5.out.2.2.2.1; omega
        refine (wpIn_wide (n := 0)).1 (dget6 wide_plain w.heap.size w5.heap.size (.pointer pa) F P5 T5 (.slice A done.length C) _ _ _ _ rfl rfl rfl rfl hcb5 HK.out.2.2.1 H5.out.2.2.2.2.2 (fun k hk' => by have := hF k hk'; have := H5.out.2.1.size; omega) HK.out.2.1 hsG rfl H5.out.1 ?_)
        intro vs W7 hk7 hT7 h22 h33
        obtain ⟨g7, h33, hs7, hg7, _⟩ := h33
        simp only [List.foldl_cons, List.foldl_nil, List.setIfInBounds_toArray, List.set_cons_succ, List.set_cons_zero]
        rw [h22, h33]
        have hk7s := hk7.size
        have ho7 := owns_keptS ho6.out hk7 (fun g hg ho => by
          have h1 := (owns_cells HO.out.1 g hg).2.1
          have := hF _ (HK.out.2.1 _ ho)
          omega)
        obtain ⟨i0, hi0, hq0, hq1', hq2⟩ := info_partsD info_doc
        refine op_appendS wide_plain (o := dget6_ops[12]) rfl rfl (.tmp 22) (.tmp 33) 22 rfl 47 i0 (.agg #[.string ⟨#[]⟩, .string ⟨#[]⟩, .int .u32 0, .int .i64 0]) 4 48 Tryz.underlying22 hi0 hq0 hq1' hq2 rfl (by omega) w2.heap.size (.slice A done.length C) done.length (cellsD done) rfl ho7 ⟨g7, 0, none⟩ 1 1 (cellD ⟨P5, ofL P5, (getFix T5).1, ((getNum 1048576 (getFix T5).2).1 : Int)⟩) rfl rfl (doc_news (d := ⟨P5, ofL P5, (getFix T5).1, ((getNum 1048576 (getFix T5).2).1 : Int)⟩) hs7) (cellD_one _) (by have := HK.out.2.2.2.2; unfold maxLen; omega) (by have := HK.out.2.2.2.2; omega) (by omega) ?_
        intro A' C' W8 hown' hG' _
        have hapart : ∀ k, F k → ¬ (Value.slice A done.length C).ownBlock = some k := fun k hk' e => by
          have h1 := (owns_cells HO.out.1 k e).2.1
          have := hF k hk'
          omega
        have hk8 := hG'.kept (F := fun y => (Value.slice A done.length C).ownBlock = some y) (fun _ h => h)
        have hcb7 := hk7.cell hcb5 HK.out.2.2.1
        have hcb8 := hk8.cell hcb7 (fun e => by have h1 := (owns_cells HO.out.1 _ e).2.1; have h2 : (⟨w.heap.size, 0, none⟩ : Addr).block = w.heap.size := rfl; rw [h2] at h1; omega)
        have hr8 : RP W8 (.pointer pa) F (getNum 1048576 (getFix T5).2).2 := RP.kept hT7 hk8 hapart
        have hkk : Kept (own1 (.pointer pa)) w W8 := by
          have h1 := H5.out.2.1.trans hk7 (fun _ _ h => h)
          refine h1.trans hk8 (fun k hlt e => ?_)
          have h2 := (owns_cells HO.out.1 k e).2.1
          omega
        have H8 := hide (And.intro hown' (And.intro hr8 (And.intro hkk hk8.size)))
        clear hown' hG' hk8 h22 h33 hs7 hi0 hq0 hq1' hq2 hg7 hT7 hr8 hkk ho7 hk7 hcb7 hcb5 hapart
        refine wpOpIn_plain (o := dget6_ops[13]) rfl rfl (oper_inK (fun _ => trivial) (fun K hK => ?_))
        rw [Oper.semAt_plain Fence.wide _ _ (by intro c h; cases h)]
        simp only [dget6_ops, dget6_o13]
        go_simp
        refine hK _ _ ?_
        clear hK K
        have e1 : ((q + 1 : Nat) : Int) - 1 = (q : Int) := by omega
        have e2 := IntWalk.i64_in (q : Int) (by have := HK.out.2.2.2.2; omega)
        go_wp2_with fail
        go_roundg q
        case measure => omega
        case rel =>
          have h8 := H8.out.1
          rw [← cellsD_snoc] at h8
          refine ⟨done ++ [⟨P5, ofL P5, (getFix T5).1, ((getNum 1048576 (getFix T5).2).1 : Int)⟩], (getNum 1048576 (getFix T5).2).2, A', C', by simp, by first | rfl | go_num | (rw [e1, e2]), by unfold OwnD; simpa using h8, H8.out.2.1, H8.out.2.2.1, hcb8, by have := H8.out.2.2.2; omega, by simp; omega, by have := H5.out.2.2.2.1; have := H5.out.2.2.2.2.1; omega, ?_⟩
          rw [HO.out.2.2.2, H5.out.2.2.1]
          simp
end Go.Proofs.YtpmldopbjlnknaaGreat

/-
  doc.Get.
-/
namespace Go.Proofs.YtpmldopbjlnknaaGreat
open Go.RowKit Go.Shelf

theorem docsN_at (ds : List DT) : docsN (dAt ds) ds.length = ds := by
  apply List.ext_getElem?
  intro i
  by_cases h : i < ds.length
  · simp [docsN, dAt, List.getD_eq_getElem?_getD, h]
  · simp [docsN, h]
theorem dAt_mem {ds : List DT} {i : Nat} (h : i < ds.length) : dAt ds i ∈ ds := by
  unfold dAt
  rw [List.getD_eq_getElem?_getD, List.getElem?_eq_getElem h]
  exact List.getElem_mem h

def endD (ds : List DT) : Option (List Nat) → Option (List DT)
  | some [] => if rightD ds then some ds else none
  | _ => none
theorem getDocs_end {L : List Nat} {ds : List DT} {S3 : Option (List Nat)} (hG : docsG (getNum 4000 (some L)).1 (getNum 4000 (some L)).2 = (ds, S3)) : getDocs L = endD ds S3 := by
  unfold getDocs
  rw [hG]
  cases S3 with
  | none => rfl
  | some M => cases M with
    | nil => rfl
    | cons x r => rfl

/-- The error, the documents that are told of bytes. -/
def errD (L : List Nat) : Int := if (getDocs L).isSome then 0 else 9
def outD (L : List Nat) : List DT := (getDocs L).getD []
theorem getD_none {L : List Nat} (h : getDocs L = none) : errD L = 9 ∧ outD L = [] := by
  unfold errD outD
  rw [h]
  exact ⟨rfl, rfl⟩
theorem getD_some {L : List Nat} {ds : List DT} (h : getDocs L = some ds) : errD L = 0 ∧ outD L = ds := by
  unfold errD outD
  rw [h]
  exact ⟨rfl, rfl⟩

set_option maxRecDepth 100000 in
set_option maxHeartbeats 4000000 in
theorem docGet_any (a : Option Addr) (len cap : Nat) (L : List Nat) (w : World) (hL : L.length = len) (hl : len ≤ 140737488355328) (hlc : len ≤ cap) (hn : a = none → cap = 0) (h : BL w a L) :
    Calls Tryz.prog 48 #[.slice a len cap] w fun e w' => (∃ v, e = .returned (.tuple #[v, .int .i64 (errD L)]) ∧ OwnD w' w.heap.size v (outD L) ∧ (getDocs L = none → v = .slice none 0 0)) ∧ Below w.heap.size w w' := by
  have hrd := read_any a len cap L w hL hl hlc hn h
  have hfacts := docsG_facts (getNum 4000 (some L)).1 (getNum 4000 (some L)).2
  have hn4 : (getNum 4000 (some L)).1 ≤ 4000 := by
    cases e : (getNum 4000 (some L)).2 with
    | none => rw [getNum_none0 _ _ e]; omega
    | some L' => have := (getNum_more 4000 (some L) L' e).2.1; omega
  cases hG : docsG (getNum 4000 (some L)).1 (getNum 4000 (some L)).2 with
  | mk ds S3 =>
  rw [hG] at hfacts
  obtain ⟨hd1, hd2, _⟩ := hfacts
  have hgd := getDocs_end hG
  simp only at hd1 hd2
  have HG := hide (And.intro hgd (And.intro hd2 hG))
  have hdl : ds.length ≤ 4000 := by have : ds.length ≤ (getNum 4000 (some L)).1 := hd1; omega
  clear hgd hd2 hG hd1 hn4 h
  go_enter Tryz.func48, Tryz.ntmps48
  go_wp2_with fail
  refine hrd.mono ?_
  rintro e w1 ⟨p, rfl, hr1, hb1⟩
  obtain ⟨W2, hW2⟩ : ∃ W2, w1.alloc (.cells #[.pointer (some ⟨p, 0, none⟩)] 157) = W2 := ⟨_, rfl⟩
  have hb2 : Below w1.heap.size w1 W2 := by rw [← hW2]; exact below_alloc _ _
  have hs2 : W2.heap.size = w1.heap.size + 1 := by rw [← hW2]; simp
  have hcb : W2.cell? ⟨w1.heap.size, 0, none⟩ = some (.pointer (some ⟨p, 0, none⟩)) := by rw [← hW2]; exact (cell_new_l w1 _ _).1
  have hr2 : RP W2 (.pointer (some ⟨p, 0, none⟩)) (fun k => w.heap.size ≤ k ∧ k < w1.heap.size) (some L) := .inr ⟨p, rfl, hr1.kept (Kept.of_below (F := fun _ => False) hb2) (fun _ _ h => h)⟩
  have hds := docs_any (.pointer (some ⟨p, 0, none⟩)) _ (some L) W2 hr2 (fun k hk => by omega) (by show L.length ≤ _; omega)
  rw [HG.out.2.2] at hds
  have HB := hide (And.intro hb1 (And.intro hb2 hr2.own))
  clear hrd hr1 hb1 hb2 hr2
  go_wp2_with fail
  refine hds.mono ?_
  rintro e w3 ⟨v3, rfl, ho3, hr3, hk3⟩
  have hpn : ¬ own1 (.pointer (some ⟨p, 0, none⟩)) w1.heap.size := fun ho => by have := HB.out.2.2 _ ho; omega
  have hcb3 := hk3.cell hcb hpn
  obtain ⟨A3, C3, rfl, hdocs, hdc, hdm, hdn⟩ := ho3.docs
  have hs12 := HB.out.1.size
  have hB3 : Below w.heap.size w w3 := (HB.out.1.trans (HB.out.2.1.mono HB.out.1.size)).trans (hk3.below (fun k hk => (HB.out.2.2 k hk).1) (by omega))
  have H3 := hide (And.intro ho3 hB3)
  have hok := ok_any _ _ S3 w3 hr3
  have hlf := left_any _ _ S3 w3 hr3
  have hrt := rightDocs_any A3 ds.length C3 (dAt ds) w3 (by omega) hdocs.row (fun i hi => by have := HG.out.2.1 _ (dAt_mem hi); omega)
  rw [← rightD_eq, docsN_at] at hrt
  clear hds ho3 hr3 hk3 hB3 hcb hW2 hdocs
  cases S3 with
  | none =>
    go_wp2_with fail
    refine hok.mono ?_
    rintro e w5 ⟨rfl, rfl⟩
    clear hok hlf hrt
    go_wp2_with fail
    go_ret2
    obtain ⟨e1, e2⟩ := getD_none (L := L) HG.out.1
    rw [e1, e2]
    exact ⟨⟨_, rfl, OwnD.nil _ _, fun _ => rfl⟩, H3.out.2⟩
  | some M =>
    cases M with
    | cons x r =>
      have hM0 : (0 : Int) < (szO (some (x :: r)) : Nat) := by simp [szO]
      generalize szO (some (x :: r)) = sz at hlf hM0
      go_wp2_with fail
      refine hok.mono ?_
      rintro e w5 ⟨rfl, rfl⟩
      clear hok
      go_wp2_with fail
      refine hlf.mono ?_
      rintro e w6 ⟨rfl, rfl⟩
      clear hlf hrt
      go_wp2_with fail
      go_ret2
      obtain ⟨e1, e2⟩ := getD_none (L := L) HG.out.1
      rw [e1, e2]
      exact ⟨⟨_, rfl, OwnD.nil _ _, fun _ => rfl⟩, H3.out.2⟩
    | nil =>
      have hlf : Calls Tryz.prog 99 #[.pointer (some ⟨p, 0, none⟩)] w3 fun e w' => e = .returned (.int .i64 0) ∧ w3 = w' := hlf
      cases hr : rightD ds with
      | false =>
        have hge : getDocs L = endD ds (some []) := HG.out.1
        rw [show endD ds (some []) = (if rightD ds then some ds else none) from rfl, hr] at hge
        have HE := hide hge
        rw [hr] at hrt
        clear hge hr
        go_wp2_with fail
        refine hok.mono ?_
        rintro e w5 ⟨rfl, rfl⟩
        clear hok
        go_wp2_with fail
        refine hlf.mono ?_
        rintro e w6 ⟨rfl, rfl⟩
        clear hlf
        go_wp2_with fail
        refine hrt.mono ?_
        rintro e w7 ⟨rfl, hb7⟩
        have H7 := hide (H3.out.2.trans (hb7.mono H3.out.2.size))
        clear hrt hb7
        go_wp2_with fail
        go_ret2
        obtain ⟨e1, e2⟩ := getD_none (L := L) HE.out
        rw [e1, e2]
        exact ⟨⟨_, rfl, OwnD.nil _ _, fun _ => rfl⟩, H7.out⟩
      | true =>
        have hge : getDocs L = endD ds (some []) := HG.out.1
        rw [show endD ds (some []) = (if rightD ds then some ds else none) from rfl, hr] at hge
        have HE := hide hge
        rw [hr] at hrt
        clear hge hr
        go_wp2_with fail
        refine hok.mono ?_
        rintro e w5 ⟨rfl, rfl⟩
        clear hok
        go_wp2_with fail
        refine hlf.mono ?_
        rintro e w6 ⟨rfl, rfl⟩
        clear hlf
        go_wp2_with fail
        refine hrt.mono ?_
        rintro e w7 ⟨rfl, hb7⟩
        have H7 := hide (And.intro (H3.out.2.trans (hb7.mono H3.out.2.size)) (H3.out.1.thru hb7))
        clear hrt hb7
        go_wp2_with fail
        go_ret2
        obtain ⟨e1, e2⟩ := getD_some (L := L) HE.out
        rw [e1, e2]
        exact ⟨⟨_, rfl, owns_lower H7.out.2 (by omega), fun h => by rw [HE.out] at h; cases h⟩, H7.out.1⟩
end Go.Proofs.YtpmldopbjlnknaaGreat
