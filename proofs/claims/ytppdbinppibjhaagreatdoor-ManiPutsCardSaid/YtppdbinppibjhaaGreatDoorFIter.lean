/-
  The range-function over the parts that a reader gets.
-/
import Derived.Test.YtppdbinppibjhaaGreatDoorFRP
import Derived.Test.YtppdbinppibjhaaGreatDoorRdAlls
import Derived.Test.YtppdbinppibjhaaGreatDoorRangeA
import Derived.Sort.LoopGhostIn
set_option maxHeartbeats 2000000
set_option maxRecDepth 100000
set_option linter.unusedVariables false
set_option linter.unusedSimpArgs false
namespace Go.Proofs.YtppdbinppibjhaaGreatDoor
open Go.RowKit Go.Shelf
attribute [local go_sem] Oper.semAt_some
abbrev PV := PT × Value
def encP (x : PV) : Array Value := #[.agg #[.int .u8 (x.1.1 : Nat), x.2]]
def keepsKs (ks : Nat → Prop) (X Y : World) : Prop := ∀ k, ks k → ∀ c t f, X.heap[k]? = some (.cells c t f) → Y.heap[k]? = some (.cells c t f)
theorem keepsKs_t {ks : Nat → Prop} {X Y Z : World} (h : keepsKs ks X Y) (k : keepsKs ks Y Z) : keepsKs ks X Z := fun i hi c t f hx => k i hi c t f (h i hi c t f hx)
theorem keepsKs_b {ks : Nat → Prop} {w : World} (W : World) (l : Nat) (o o' : Obj) (_ : w.heap.size ≤ l) (h : W.heap[l]? = some o) (hc : o.isCells = false) : keepsKs ks W (W.putObj l o') :=
 fun k _ c t f hx => (World.putObj_heap_other (fun e => by subst e; rw [h] at hx; cases hx; cases hc)).trans hx
theorem keepsKs.cell {ks : Nat → Prop} {X Y : World} (h : keepsKs ks X Y) {p : Addr} {v : Value} (hp : ks p.block) (hc : X.cell? p = some v) : Y.cell? p = some v := by
 obtain ⟨o, ho, hk⟩ := cells_of_cell hc
 cases o with
 | cells c t f => exact (World.cell?_of_block (w := X) ((h _ hp _ _ _ ho).trans ho.symm)).trans hc
 | _ => cases hk
theorem keepsKs.sb {ks : Nat → Prop} {X Y : World} (h : keepsKs ks X Y) {A : Option Addr} {C : Nat} {L : List Nat} (hS : SB X A C L) (hA : ∀ g o s, A = some ⟨g, o, s⟩ → ks g) : SB Y A C L := by
 refine ⟨hS.l, hS.m, hS.n, hS.o, hS.b.1, ?_⟩
 rcases hS.b.2 with h0 | ⟨b, off, e, hc⟩
 ·exact .inl h0
 ·exact .inr ⟨b, off, e, fun i hi => h.cell (hA b off none e) (hc i hi)⟩
def itKs (Bs p : Nat) (A0 : Option Addr) (k : Nat) : Prop := k = Bs ∨ k = p ∨ ∃ o s, A0 = some ⟨k, o, s⟩
def IterAt (W : World) (Bs p : Nat) (A0 : Option Addr) (L : List Nat) : Prop :=
 W.heap[Bs]? = some (.cells #[.pointer (some ⟨p, 0, none⟩)] 164 (0, 0)) ∧ ∃ pv A C seen, W.heap[p]? = some (.cells #[pv, .slice A L.length C, .int .i64 (seen : Nat)] 170 (0, 0)) ∧ SB W A C L ∧
  (∀ g o s, A = some ⟨g, o, s⟩ → 0 < L.length → g ≠ p) ∧ (∀ g o s, A = some ⟨g, o, s⟩ → ∃ o' s', A0 = some ⟨g, o', s'⟩)
theorem IterAt.keeps {X Y : World} {Bs p : Nat} {A0 : Option Addr} {L : List Nat} (h : IterAt X Bs p A0 L) (hk : keepsKs (itKs Bs p A0) X Y) : IterAt Y Bs p A0 L := by
 obtain ⟨h0, pv, A, C, seen, h1, h2, h3, h4⟩ := h
 exact ⟨hk _ (.inl rfl) _ _ _ h0, pv, A, C, seen, hk _ (.inr (.inl rfl)) _ _ _ h1, hk.sb h2 (fun g o s e => .inr (.inr (h4 g o s e))), h3, h4⟩
def RSt (W : World) (p N : Nat) (ok : Bool) : Prop :=
 ∃ pv a b S, W.heap[p]? = some (.cells #[pv, a, b] 170 (0, 0)) ∧ p < N ∧ RP W pv (fun k => N ≤ k ∧ k < W.heap.size) S ∧ S.isSome = ok
theorem RSt.kept {W W' : World} {p N : Nat} {ok : Bool} {G : Nat → Prop} (h : RSt W p N ok) (hk : Kept G W W') (hG : ∀ k, k < W.heap.size → G k → k ≠ p ∧ k < N) : RSt W' p N ok := by
 obtain ⟨pv, a, b, S, h1, h2, h3, h4⟩ := h
 have hs := hk.size
 refine ⟨pv, a, b, S, hk.heap h1 (fun e => (hG p (block_lt h1) e).1 rfl), h2, (h3.kept (hk.mono (G := fun k => G k ∧ k < W.heap.size) (fun k h1 h2 => ⟨h2, h1⟩)) (fun k hk hg => ?_)).mono (fun k hk => ⟨hk.1, by omega⟩), h4⟩
 have := (hG k hg.2 hg.1).2
 omega
theorem RSt.lower {W : World} {p N N' : Nat} {ok : Bool} (h : RSt W p N ok) (hN : N' ≤ N) (hp : p < N') : RSt W p N' ok := by
 obtain ⟨pv, a, b, S, h1, h2, h3, h4⟩ := h
 exact ⟨pv, a, b, S, h1, hp, h3.mono (fun k hk => ⟨by omega, hk.2⟩), h4⟩
theorem FR.st {w : World} {p : Nat} {pv : Value} {A : Option Addr} {C : Nat} {L : List Nat} {seen N : Nat} {S : Option (List Nat)} (h : FR w p pv A C L seen N S) : RSt w p N S.isSome := ⟨pv, _, _, S, h.1, h.2.2.2.1, h.2.2.2.2.2, rfl⟩
def GParts (p n0 : Nat) (pre : List PV) (A : World) (x : PV) (B : World) : Prop :=
 Kept (fun k => k = p) A B ∧ RSt B p A.heap.size true ∧ B.ownsRow A.heap.size 5 1 x.2 x.1.2.length (lc x.1.2) ∧ okPart x.1 ∧ pre.length < n0
def SParts (p : Nat) (L0 : List Nat) (xs : List PV) (A B : World) : Prop :=
 (getP L0 = some (xs.map (·.1)) ∧ Kept (fun _ => False) A B) ∨ (getP L0 = none ∧ Kept (fun k => k = p) A B ∧ RSt B p A.heap.size false)
def SpParts (p : Nat) (_ : List PV) (A B : World) : Prop := Kept (fun k => k = p) A B
theorem owns_len {w : World} {B n m C size : Nat} {A : Option Addr} {xs : List Value} {e : TypeId} (h : w.ownsRow B e size (.slice A n C) m xs) : n = m := by
 obtain ⟨_, ⟨hv, h0⟩ | ⟨g, cap, cur, hv, _⟩⟩ := h
 ·cases hv; exact h0.symm
 ·cases hv; rfl
theorem frParts_in (F : Fence) (n : Nat) (hF : F.fn 109) (hro : F.round = none) (a : Option Addr) (w : World) :
  CallsIn F n Tryz.prog 109 #[.pointer a] w fun e w' => e = .returned (.func (.func 158) #[] #[.pointer (some ⟨w.heap.size, 0, none⟩)]) ∧ w' = w.alloc (.cells #[.pointer a] 164) := by
 refine callsIn_of_wp Tryz.func109 rfl hF ?_ hro
 simp only [Tryz.ntmps109, List.size_toArray, List.length_cons, List.length_nil, Nat.reduceAdd, Nat.reduceSub, Array.replicate_succ, Array.replicate_zero, List.push_toArray, List.append_toArray, List.nil_append, List.cons_append]
 gi_wp2
 go_ret
 exact ⟨rfl, rfl⟩
theorem parts1_in (n : Nat) (hn : 4 ≤ n) (l Bs p : Nat) (A0 : Option Addr) (L0 : List Nat) (J Jx : List PV → World → Prop) (hsz : L0.length ≤ 140737488355328) (hlt : ∀ b ∈ L0, b < 256) (hBp : Bs ≠ p)
  (hY : ∀ pre x A B, J pre A → GParts p L0.length pre A x B → YieldAt Fence.wide (n - 1) Tryz.prog l (encP x) B fun e W' =>
   (e = .returned (.bool true) ∧ J (pre ++ [x]) W' ∧ keepsKs (itKs Bs p A0) B W') ∨ (e = .returned (.bool false) ∧ Jx (pre ++ [x]) W'))
  (W : World) (hI : IterAt W Bs p A0 L0) (h0 : J [] W) :
  CallsIn Fence.wide n Tryz.prog 158 #[.func (.yield l) #[] #[], .pointer (some ⟨Bs, 0, none⟩)] W fun e W' => (∃ v, e = .returned v) ∧
   ((∃ xs A, J xs A ∧ SParts p L0 xs A W') ∨ (∃ pre A, Jx pre A ∧ SpParts p pre A W')) := by
 refine callsIn_of_wp Tryz.func158 rfl trivial ?_ rfl
 simp only [Tryz.ntmps158, List.size_toArray, List.length_cons, List.length_nil, Nat.reduceAdd, Nat.reduceSub, Array.replicate_succ, Array.replicate_zero, List.push_toArray, List.append_toArray, List.nil_append, List.cons_append]
 gi_wp2
 apply wpIn_scope
 gi_wp2
 apply wpIn_label
 gi_wp2
 gi_loopg [] L0.length (fun q wr => ∃ pre L, L.length ≤ q ∧ pre.length + L.length ≤ L0.length ∧ IterAt wr Bs p A0 L ∧ (∀ b ∈ L, b < 256) ∧ getP L0 = (getP L).map ((pre.map (fun x : PV => x.1)) ++ ·) ∧ J pre wr)
 case atStart => exact ⟨[], L0, Nat.le_refl _, by simp, hI, hlt, by simp, h0⟩
 case round =>
  obtain ⟨pre, L, hq, hL0, hIt, hltL, hg, hJ⟩ := hrel
  clear hI h0 hlt
  obtain ⟨hb, pv, A, C, seen, hp, hS, hA, hAA⟩ := hIt
  obtain ⟨b0, bf⟩ := cells1 hb
  obtain ⟨c0, c1, c2, f0, f1, f2⟩ := cells3 hp
  cases L with
  | nil =>
    have hg' : getP L0 = some (pre.map (fun x : PV => x.1)) := by rw [hg]; simp [getP_nil]
    have HG := hide hg'
    clear hg hg'
    gi_wp2
    rw [Exit.noGoto_normal]
    go_end0
    exact ⟨⟨_, rfl⟩, .inl ⟨pre, wr, hJ, .inl ⟨HG.out, Kept.refl _ _⟩⟩⟩
  | cons t r =>
    obtain ⟨LL, hLL⟩ : ∃ LL, LL = t :: r := ⟨_, rfl⟩
    rw [← hLL] at hp hS hA c1 hL0 hq
    have hlen : LL.length = r.length + 1 := by rw [hLL]; rfl
    have hpart := callsIn_wide (n := n - 1).2 (part_any p pv A C t LL r seen wr hp hS hA hLL (by omega))
    have HK0 := hide (block_lt hp)
    have HG := hide hg
    have HL := hide hltL
    have HAA := hide hAA
    have hpos : (0 : Int) < (LL.length : Int) := by omega
    clear hp hS hA hg hltL hLL hAA
    gi_wp2
    refine ⟨trivial, fun _ => by omega, hpart.mono ?_⟩
    rintro e w1 ⟨TA, TL, TC, rfl, hP, hK1⟩
    obtain ⟨pv1, A1, C1, L1, seen1, N1, S1, hF1, hN1, hA1, hm⟩ := hP
    clear hpart c0 c1 c2 f0 f1 f2
    have hBw : Bs < wr.heap.size := block_lt hb
    have hb1 := hK1.heap hb hBp
    obtain ⟨W2, hW2⟩ : ∃ W2, w1.alloc (.cells #[.int .u8 (t : Nat), .slice TA TL TC] 40) = W2 := ⟨_, rfl⟩
    have hK2 : Kept (fun _ => False) w1 W2 := by rw [← hW2]; exact Kept.of_below (below_alloc _ _)
    have hv2 : W2.heap[w1.heap.size]? = some (.cells #[.int .u8 (t : Nat), .slice TA TL TC] 40 (0, 0)) := by rw [← hW2]; exact heap_alloc_new _ _
    have hF2 := hF1.kept hK2 (fun _ _ h => h.elim)
    have hb2 := hK2.heap hb1 (fun h => h)
    obtain ⟨d0, df⟩ := cells1 hb2
    obtain ⟨c0, c1, c2, f0, f1, f2⟩ := cells3 hF2.1
    obtain ⟨v0, v1, vf0, vf1⟩ := cells2 hv2
    have hok := callsIn_wide (n := n - 1).2 (ok_any pv1 _ S1 W2 hF2.2.2.2.2.2)
    have HF2 := hide hF2
    have HB2 := hide hb2
    have HK2 := hide (And.intro hK1 hK2)
    have HHB := hide hb
    clear hF1 hF2 hb hb1 hb2 hK1 hK2 hv2 b0 bf
    have hpw : p < wr.heap.size := HK0.out
    have hs1 := HK2.out.1.size
    have hKw : Kept (fun k => k = p) wr W2 := HK2.out.1.trans (HK2.out.2.mono (G := fun k => k = p) (fun _ _ h => h.elim)) (fun _ _ h => h)
    have hst := HF2.out.st.lower hN1 hpw
    cases hgp : getPart (t :: r) with
    | none =>
      rw [hgp] at hm
      subst hm
      have hbad : getP L0 = none := by
       rw [HG.out, getP_bad (by simp) hgp]; rfl
      have HEND : Hid (SParts p L0 pre wr W2) := .inr ⟨hbad, hKw, hst⟩
      clear hgp hbad hst hKw
      gi_wp2
      refine ⟨trivial, fun _ => by omega, hok.mono ?_⟩
      rintro e w3 ⟨rfl, rfl⟩
      gi_wp2
      rw [Exit.noGoto_normal]
      go_end0
      exact ⟨⟨_, rfl⟩, .inl ⟨pre, wr, hJ, HEND.out⟩⟩
    | some y =>
      obtain ⟨⟨t', B⟩, R⟩ := y
      rw [hgp] at hm
      obtain ⟨hs, rfl, ht, ho⟩ := hm
      have ht' : t' = t := ht
      subst ht'
      obtain ⟨hLR, hpk⟩ := getPart_some HL.out hgp
      have ho2 := owns_kept ho HK2.out.2 (fun _ _ h => h)
      obtain ⟨rfl⟩ : TL = B.length := owns_len ho
      have hlt1 := getPart_lt hgp
      rw [hs] at hst hok
      obtain ⟨fn, tmps, assign, body, hy, hR⟩ := hY pre ((t', B), .slice TA B.length TC) wr W2 hJ ⟨hKw, hst, ho2, hpk, by omega⟩
      have HIT : Hid (IterAt W2 Bs p A0 L1) := ⟨HB2.out, pv1, A1, C1, seen1, HF2.out.1, HF2.out.2.1, fun g o s e h0 => (HF2.out.2.2.1 g o s e h0).2, fun g o s e => by
       obtain ⟨o1, s1, e1⟩ := hA1 g o s e
       exact HAA.out g o1 s1 e1⟩
      have HGN : Hid (getP L0 = (getP L1).map (((pre ++ [((t', B), Value.slice TA B.length TC)]).map (fun x : PV => x.1)) ++ ·)) := by
       show _ = _
       rw [HG.out, getP_step hgp, Option.map_map]
       congr 1
       funext z
       simp
      have HLT : Hid (∀ b ∈ L1, b < 256) := fun b hb => HL.out b (by rw [hLR]; exact List.mem_append_right _ hb)
      have hlt2 : L1.length < LL.length := by rw [hlen]; simpa using hlt1
      simp only [encP] at hy
      clear hgp hst hKw ho ho2 hpk hLR hlt1 hA1
      gi_wp2
      refine ⟨trivial, fun _ => by omega, hok.mono ?_⟩
      rintro e w3 ⟨rfl, rfl⟩
      gi_wp2
      refine ⟨fun _ => by omega, hR.mono ?_⟩
      rintro e W3 (⟨rfl, hJ3, hk3⟩ | ⟨rfl, hJx3⟩)
      ·gi_wp2
       gi_roundg (gk - 1)
       case measure => omega
       case rel => exact ⟨_, L1, by omega, by simp; omega, HIT.out.keeps hk3, HLT.out, HGN.out, hJ3⟩
      ·gi_wp2
       rw [Exit.noGoto_normal]
       go_end0
       exact ⟨⟨_, rfl⟩, .inr ⟨_, W3, hJx3, Kept.refl _ _⟩⟩
theorem parts_stops (n : Nat) (hn : 4 ≤ n) (Bs p : Nat) (A0 : Option Addr) (L0 : List Nat) (hsz : L0.length ≤ 140737488355328) (hlt : ∀ b ∈ L0, b < 256) (hBp : Bs ≠ p) (w : World) (hI : IterAt w Bs p A0 L0) :
  SeqG Fence.wide n Tryz.prog 158 #[.pointer (some ⟨Bs, 0, none⟩)] encP (GParts p L0.length) (keepsKs (itKs Bs p A0)) (SParts p L0) (SpParts p) w := fun l J Jx W hW hY h0 => by
 have hI' : IterAt W Bs p A0 L0 := by
  obtain ⟨h1, pv, A, C, seen, h2, h3, h4, h5⟩ := hI
  exact ⟨(hW.block _ (block_lt h1)).trans h1, pv, A, C, seen, (hW.block _ (block_lt h2)).trans h2, h3.below hW, h4, h5⟩
 exact parts1_in n hn l Bs p A0 L0 J Jx hsz hlt hBp hY W hI' h0
end Go.Proofs.YtppdbinppibjhaaGreatDoor
