/-
  The reference's Places: rows of postings, one more gram, one more place.
-/
import Derived.Test.YtpdlapnliiengaaGreatGPlacs
import Derived.Test.YtpdlapnliiengaaGreatPrt
import Derived.Lib.Strings
import Derived.Laws.Slices
namespace Go.Proofs.YtpdlapnliiengaaGreat
open Go.RowKit Go.Shelf

/-- A gram's text. -/
def gts (g : Nat) : ByteArray := strOfNums ((gd g).map fun x : Nat => (x : Int))
theorem gtx_eq (g : Nat) : gtx g = .string (gts g) := rfl
theorem gts_data (g : Nat) : (gts g).data.toList = [UInt8.ofNat (g / 65536), UInt8.ofNat (g / 256 % 256), UInt8.ofNat (g % 256)] := rfl
theorem pocl_append (a b : List Nat) (vf : Nat → Value) : pocl (a ++ b) vf = pocl a vf ++ pocl b vf := by simp [pocl]
theorem pocl_len (ks : List Nat) (vf : Nat → Value) : (pocl ks vf).length = ks.length * 2 := by
  induction ks with
  | nil => rfl
  | cons x r ih =>
    have e : pocl (x :: r) vf = gtx x :: vf x :: pocl r vf := by simp [pocl]
    rw [e, List.length_cons, List.length_cons, ih, List.length_cons]
    omega
theorem pocl_take (ks : List Nat) (vf : Nat → Value) (k : Nat) : (pocl ks vf).take (k * 2) = pocl (ks.take k) vf := by
  induction ks generalizing k with
  | nil => simp [pocl]
  | cons x r ih =>
    have e : ∀ l, pocl (x :: l) vf = gtx x :: vf x :: pocl l vf := fun l => by simp [pocl]
    cases k with
    | zero => simp [pocl]
    | succ k => rw [e, show (k + 1) * 2 = k * 2 + 1 + 1 by omega, List.take_succ_cons, List.take_succ_cons, ih, List.take_succ_cons, e]
theorem pocl_drop (ks : List Nat) (vf : Nat → Value) (k : Nat) : (pocl ks vf).drop (k * 2) = pocl (ks.drop k) vf := by
  induction ks generalizing k with
  | nil => simp [pocl]
  | cons x r ih =>
    have e : ∀ l, pocl (x :: l) vf = gtx x :: vf x :: pocl l vf := fun l => by simp [pocl]
    cases k with
    | zero => simp
    | succ k => rw [e, show (k + 1) * 2 = k * 2 + 1 + 1 by omega, List.drop_succ_cons, List.drop_succ_cons, ih, List.drop_succ_cons]
theorem owns_news {w : World} {B n c size : Nat} {a : Option Addr} {xs : List Value} {e : TypeId} (h : w.ownsRow B e size (.slice a n c) n xs) : (a = none → n = 0 ∧ c = 0) ∧ ∀ ad, a = some ad → ∀ j u, xs[j]? = some u → w.cell? (ad.add j) = some u := by
  have h0 := h
  obtain ⟨_, ⟨h1, h2⟩ | ⟨g, cap, cur, h1, h2⟩⟩ := h0
  · cases h1
    exact ⟨fun _ => ⟨rfl, rfl⟩, fun ad h => by cases h⟩
  · cases h1
    exact ⟨(fun h => by cases h), fun ad e => by cases e; exact h.cells (g := g) rfl⟩
theorem pocl_congr {ks : List Nat} {vf uf : Nat → Value} (h : ∀ x ∈ ks, vf x = uf x) : pocl ks vf = pocl ks uf := by
  induction ks with
  | nil => rfl
  | cons x r ih =>
    have e : ∀ f : Nat → Value, pocl (x :: r) f = gtx x :: f x :: pocl r f := fun f => by simp [pocl]
    rw [e, e, h x List.mem_cons_self, ih (fun y hy => h y (List.mem_cons_of_mem _ hy))]
theorem pocl_get (ks : List Nat) (vf : Nat → Value) (k : Nat) (h : k < ks.length) : (pocl ks vf)[k * 2]? = some (.string (gts (ks.getD k 0))) ∧ (pocl ks vf)[k * 2 + 1]? = some (vf (ks.getD k 0)) := by
  induction ks generalizing k with
  | nil => simp at h
  | cons x r ih =>
    have e : pocl (x :: r) vf = gtx x :: vf x :: pocl r vf := by simp [pocl]
    cases k with
    | zero => rw [e]; exact ⟨rfl, rfl⟩
    | succ k =>
      have := ih k (by simp only [List.length_cons] at h; omega)
      rw [e, show (k + 1) * 2 = k * 2 + 1 + 1 by omega]
      simpa using this
theorem pcl_get (l : List Nat) (k : Nat) (h : k < l.length) : (pcl l)[k * 2]? = some (.int .i64 0) ∧ (pcl l)[k * 2 + 1]? = some (.int .i64 ((l.getD k 0 : Nat) : Int)) := by
  induction l generalizing k with
  | nil => simp at h
  | cons x r ih =>
    have e : pcl (x :: r) = .int .i64 0 :: .int .i64 (x : Int) :: pcl r := by simp [pcl]
    cases k with
    | zero => rw [e]; exact ⟨rfl, rfl⟩
    | succ k =>
      have := ih k (by simp only [List.length_cons] at h; omega)
      rw [e, show (k + 1) * 2 = k * 2 + 1 + 1 by omega]
      simpa using this
/-- A cell of a row, the row's address told. -/
theorem owns_at {w : World} {B n c i size : Nat} {g : Nat} {u : Value} {xs : List Value} {e : TypeId} (h : w.ownsRow B e size (.slice (some ⟨g, 0, none⟩) n c) n xs) (hi : xs[i]? = some u) : w.cell? ⟨g, i, none⟩ = some u ∧ w.frozen? ⟨g, i, none⟩ = false := by
  obtain ⟨b, C, e1, h1, h2, _⟩ := owns_cellS h hi
  cases e1
  exact ⟨h1, h2⟩
theorem owns_addr {w : World} {B n c size : Nat} {a : Option Addr} {xs : List Value} {e : TypeId} (h : w.ownsRow B e size (.slice a n c) n xs) (hn : 0 < n) : ∃ g, a = some ⟨g, 0, none⟩ ∧ n ≤ c ∧ c ≤ 9223372036854775807 ∧ B ≤ g ∧ g < w.heap.size := by
  obtain ⟨_, ⟨h1, h2⟩ | ⟨g, cap, cur, h1, h2, h3, h4, h5, _⟩⟩ := h
  · omega
  · cases h1
    unfold maxLen at h5
    exact ⟨g, rfl, h4, h5, h2, block_lt h3⟩
/-- The first k elements of a row of one's own. -/
theorem owns_head {w : World} {B n c size k : Nat} {a : Option Addr} {xs : List Value} {e : TypeId} (h : w.ownsRow B e size (.slice a n c) n xs) (hk : k ≤ n) : w.ownsRow B e size (.slice a k c) k (xs.take (k * size)) := by
  obtain ⟨hl, ⟨h1, h2⟩ | ⟨g, cap, cur, h1, h2, h3, h4, h5, h6, h7⟩⟩ := h
  · cases h1
    obtain rfl : k = 0 := by omega
    exact ⟨by simp, .inl ⟨rfl, rfl⟩⟩
  · cases h1
    have hle : k * size ≤ n * size := Nat.mul_le_mul_right _ hk
    refine ⟨by rw [List.length_take]; omega, .inr ⟨g, _, cur, rfl, h2, h3, by omega, h5, h6, ?_⟩⟩
    rw [← h7, List.take_take, Nat.min_eq_left hle]
/-- out[k:], out[:k] of a row of postings. -/
theorem slices_po (a : Option Addr) (n k cap : Nat) (hk : k ≤ n) (hc : n ≤ cap) (ha : a = none → cap = 0) (ha2 : ∀ b o s, a = some ⟨b, o, s⟩ → s = none ∧ o = 0) :
    ∃ A2 : Option Addr, (∀ wx, (Instr.slice 27 (.slice a n cap) none (some (.int .i64 (k : Int))) none).run Tryz.prog wx = .ok (.slice a k cap) wx) ∧
      (∀ wx, (Instr.slice 27 (.slice a n cap) (some (.int .i64 (k : Int))) none none).run Tryz.prog wx = .ok (.slice A2 (n - k) (cap - k)) wx) ∧
      (A2 = none → n - k = 0 ∧ cap - k = 0) ∧ ∀ ad, A2 = some ad → ∀ (w : World) (base : Nat) (xs : List Value), w.ownsRow base 42 2 (.slice a n cap) n xs → ∀ j u, (xs.drop (k * 2))[j]? = some u → w.cell? (ad.add j) = some u := by
  have ht : Tryz.prog.underlying 27 = some (.slice (Tryz.prog.elem 27)) := by kernel_rfl
  have hs : ∀ wx, (sizeOf (Tryz.prog.elem 27)).run Tryz.prog wx = .ok 2 wx := fun wx => by kernel_rfl
  refine ⟨if cap = k then a else a.map (·.add (k * 2)), fun wx => ?_, fun wx => ?_, fun h => ?_, fun ad had w base xs how j u hj => ?_⟩
  · rw [run_slice_h wx _ a n cap ht .i64 (k : Int) (by omega) (by omega), hs]
    have e : (if cap = 0 then a else a.map (·.add (0 * 2))) = a := by
      split
      · rfl
      · cases a with
        | none => rfl
        | some ad => obtain ⟨b, o, s⟩ := ad; simp [Addr.add]
    simp only [Result.andThen_ok, sliced, Int.toNat_natCast, Nat.sub_zero, e]
  · rw [run_slice_l wx _ a n cap ht .i64 (k : Int) (by omega) (by omega), hs]
    simp [Result.andThen, sliced]
  · split at h
    · rename_i e
      have := ha h
      omega
    · cases a with
      | none => have := ha rfl; omega
      | some ad => cases h
  · obtain ⟨hl, ⟨h1, h2⟩ | ⟨g, cap', cur, h1, h2, h3, h4, h5, h6, h7⟩⟩ := how
    · cases h1
      have : xs = [] := List.eq_nil_of_length_eq_zero (by omega)
      subst this
      simp at hj
    · cases h1
      split at had
      · rename_i e
        have : xs.drop (k * 2) = [] := List.drop_eq_nil_of_le (by omega)
        rw [this] at hj
        simp at hj
      · cases had
        have hjl := (List.getElem?_eq_some_iff.1 hj).1
        rw [List.length_drop] at hjl
        rw [List.getElem?_drop] at hj
        have e : ((⟨g, 0, none⟩ : Addr).add (k * 2)).add j = ⟨g, k * 2 + j, none⟩ := by
          unfold Addr.add
          split <;> split <;> simp_all
        rw [e, cell_of_row _ _ _ _ _ _ h3]
        rw [← h7, List.getElem?_take_of_lt (by omega)] at hj
        simpa using hj
section
variable {P : Program}
/-- append onto what is owned, of a slice that may be nil. -/
theorem wpList_append_footO (w : World) {ops : Array Oper} {rest : List Oper} {o : Oper} {a : Act} {Q : Exit → Act → World → Prop} (hgd : o.guard = none) (s x : Operand) (t : TypeId)
    (ho : o.op = .call { callee := .builtin .append, args := #[s, x], argTypes := #[t, t] })
    (e : TypeId) (i : TypeInfo) (z : Value) (size bytes : Nat) (ht : P.underlying t = some (.slice e)) (hi : P.info? e = some i) (hz : i.zero = some z)
    (hsize : i.size = size) (hby : i.bytes = bytes) (hzs : z.cells.size = size) (hsz : 0 < size)
    (base : Nat) (v : Value) (n : Nat) (xs : List Value) (hs : a.eval s = v) (hown : w.ownsRow base e size v n xs)
    (ao : Option Addr) (m c : Nat) (news : List Value) (hx : a.eval x = .slice ao m c) (hl : news.length = m * size) (hnone : ao = none → m = 0 ∧ c = 0) (hnews : ∀ ad, ao = some ad → ∀ j u, news[j]? = some u → w.cell? (ad.add j) = some u) (h1 : ∀ u ∈ news, u.oneCell' = true)
    (h63 : n + m ≤ maxLen) (hbytes : (n + m) * bytes ≤ 140737488355328) (hbase : base ≤ w.heap.size)
    (h : ∀ A' C' w', w'.ownsRow base e size (.slice A' (n + m) C') (n + m) (xs ++ news) → Grew w w' v (.slice A' (n + m) C') → wpList P ops Q rest (a.put o.dst (.slice A' (n + m) C')) w') : wpList P ops Q (o :: rest) a w := by
  have hr : ∃ v' w', (Builtin.append_ #[t, t] o.type #[v, .slice ao m c]).run P w = .ok v' w' ∧ w'.ownsRow base e size v' (n + m) (xs ++ news) ∧ Grew w w' v v' := by
    cases ao with
    | none =>
      obtain ⟨rfl, rfl⟩ := hnone rfl
      have hn := List.eq_nil_of_length_eq_zero (hl.trans (Nat.zero_mul _))
      subst hn
      exact ⟨v, w, run_append_owned_none w base t o.type e i size ht hi v n xs hown, by simpa using hown, Grew.refl _ _⟩
    | some ad =>
      obtain ⟨v', w', hr, h2, h3, _⟩ := run_append_footS (P := P) w t o.type e i z size bytes ht hi hz hsize hby hzs hsz base v n xs hown ad m c news hl (hnews ad rfl) h1 h63 hbytes hbase
      exact ⟨v', w', hr, h2, h3⟩
  obtain ⟨v', w', hr, h2, h3⟩ := hr
  obtain ⟨A', C', rfl⟩ := owns_slice h2
  refine wpList_plain hgd fun K hK => ?_
  unfold Oper.wp execOp
  simp only [ho, resolve, invoke, builtin, Sem.run_bind, Sem.run_pure, Result.andThen_ok, List.map_toArray, List.map_cons, List.map_nil, hs, hx, hr]
  exact hK _ _ (h A' C' w' h2 h3)
end
theorem pocl_one (ks : List Nat) (vf : Nat → Value) (h : ∀ x ∈ ks, (vf x).oneCell' = true) : ∀ u ∈ pocl ks vf, u.oneCell' = true := by
  intro u hu
  obtain ⟨x, hx, hu⟩ := List.mem_flatMap.1 hu
  simp only [List.mem_cons, List.not_mem_nil, or_false] at hu
  rcases hu with rfl | rfl
  · rfl
  · exact h x hx

/-- Postings of some grams with their places below m, of the call's own. -/
structure PostM (w : World) (base : Nat) (z : Nat → Nat) (m : Nat) (ks : List Nat) (v : Value) (vf : Nat → Value) : Prop where
  row : w.ownsRow base 42 2 v ks.length (pocl ks vf)
  places : ∀ g ∈ ks, w.ownsRow base 44 2 (vf g) (plL z (List.range m) g).length (pcl (plL z (List.range m) g))
  apart : ∀ g ∈ ks, ∀ h ∈ ks, ∀ b, (vf g).ownBlock = some b → (vf h).ownBlock = some b → g = h
theorem PostM.below {w w' : World} {base : Nat} {z : Nat → Nat} {m : Nat} {ks : List Nat} {v : Value} {vf : Nat → Value} (h : PostM w base z m ks v vf) (hb : Below w.heap.size w w') : PostM w' base z m ks v vf :=
  ⟨owns_thruS h.row hb, fun g hg => owns_thruS (h.places g hg) hb, h.apart⟩
theorem PostM.one {w : World} {base : Nat} {z : Nat → Nat} {m : Nat} {ks : List Nat} {v : Value} {vf : Nat → Value} (h : PostM w base z m ks v vf) : ∀ x ∈ ks, (vf x).oneCell' = true := fun x hx => by
  obtain ⟨A, C, e⟩ := owns_slice (h.places x hx)
  rw [e]; rfl
theorem gset_old {z : Nat → Nat} (hz : ∀ i, z i < 256) {i : Nat} (h : gN z i ∈ gset z i) : gset z (i + 1) = gset z i := by
  refine asc_eq (gset_asc hz _) (gset_asc hz _) fun x => ?_
  rw [gset_mem hz, gset_mem hz]
  constructor
  · rintro ⟨j, hj, rfl⟩
    rcases Nat.lt_or_ge j i with h1 | h1
    · exact ⟨j, h1, rfl⟩
    · obtain rfl : j = i := by omega
      exact (gset_mem hz _ _).1 h
  · rintro ⟨j, hj, rfl⟩
    exact ⟨j, by omega, rfl⟩
theorem gset_new {z : Nat → Nat} (hz : ∀ i, z i < 256) {i k : Nat} (h1 : ∀ x ∈ (gset z i).take k, x < gN z i) (h2 : ∀ x ∈ (gset z i).drop k, gN z i < x) : gset z (i + 1) = (gset z i).take k ++ gN z i :: (gset z i).drop k := by
  have hp := gset_asc hz i
  have hsplit := List.take_append_drop k (gset z i)
  refine asc_eq (gset_asc hz _) ?_ fun x => ?_
  · rw [← hsplit, List.pairwise_append] at hp
    refine List.pairwise_append.2 ⟨hp.1, List.pairwise_cons.2 ⟨h2, hp.2.1⟩, fun a ha b hb => ?_⟩
    rcases List.mem_cons.1 hb with rfl | hb
    · exact h1 a ha
    · exact hp.2.2 a ha b hb
  · rw [gset_mem hz]
    have hm : x ∈ gset z i ↔ x ∈ (gset z i).take k ∨ x ∈ (gset z i).drop k := by
      conv => lhs; rw [← hsplit]
      exact List.mem_append
    rw [List.mem_append, List.mem_cons]
    constructor
    · rintro ⟨j, hj, rfl⟩
      rcases Nat.lt_or_ge j i with h3 | h3
      · rcases hm.1 ((gset_mem hz _ _).2 ⟨j, h3, rfl⟩) with h | h
        · exact .inl h
        · exact .inr (.inr h)
      · obtain rfl : j = i := by omega
        exact .inr (.inl rfl)
    · rintro (h | h | h)
      · obtain ⟨j, hj, e⟩ := (gset_mem hz _ _).1 (hm.2 (.inl h))
        exact ⟨j, by omega, e⟩
      · exact ⟨i, by omega, h.symm⟩
      · obtain ⟨j, hj, e⟩ := (gset_mem hz _ _).1 (hm.2 (.inr h))
        exact ⟨j, by omega, e⟩
/-- One more gram, without places. -/
theorem PostM.insert {w w' : World} {base : Nat} {z : Nat → Nat} {m k g : Nat} {ks : List Nat} {v v' : Value} {vf : Nat → Value} {F : Nat → Prop} (h : PostM w base z m ks v vf) (hg : g ∉ ks) (hpl : plL z (List.range m) g = []) (hk : Kept F w w') (hF : ∀ b, F b → v.ownBlock = some b)
    (hrow : w'.ownsRow base 42 2 v' (ks.length + 1) (pocl (ks.take k) vf ++ [gtx g, .slice none 0 0] ++ pocl (ks.drop k) vf)) :
    PostM w' base z m (ks.take k ++ g :: ks.drop k) v' (fun x => if x = g then .slice none 0 0 else vf x) := by
  have hsplit := List.take_append_drop k ks
  have hmem : ∀ x, x ∈ ks.take k ++ g :: ks.drop k → x = g ∨ (x ≠ g ∧ x ∈ ks) := fun x hx => by
    rcases List.mem_append.1 hx with hx | hx
    · have := List.mem_of_mem_take hx
      exact .inr ⟨fun e => hg (e ▸ this), this⟩
    · rcases List.mem_cons.1 hx with hx | hx
      · exact .inl hx
      · have := List.mem_of_mem_drop hx
        exact .inr ⟨fun e => hg (e ▸ this), this⟩
  refine ⟨?_, fun x hx => ?_, fun x hx y hy b hb1 hb2 => ?_⟩
  · have hl : (ks.take k ++ g :: ks.drop k).length = ks.length + 1 := by
      rw [List.length_append, List.length_cons, List.length_take, List.length_drop]; omega
    rw [hl, pocl_append, show pocl (g :: ks.drop k) (fun x => if x = g then .slice none 0 0 else vf x) = [gtx g, .slice none 0 0] ++ pocl (ks.drop k) (fun x => if x = g then .slice none 0 0 else vf x) by simp [pocl], ← List.append_assoc,
      pocl_congr (ks := ks.take k) (uf := vf) (fun x hx => if_neg (fun (e : x = g) => hg (e ▸ List.mem_of_mem_take hx))), pocl_congr (ks := ks.drop k) (uf := vf) (fun x hx => if_neg (fun (e : x = g) => hg (e ▸ List.mem_of_mem_drop hx)))]
    exact hrow
  · rcases hmem x hx with rfl | ⟨hne, hx⟩
    · simp only [if_true]
      rw [hpl]
      exact World.ownsRow_nil w' base _ 2
    · simp only [if_neg hne]
      exact owns_keptS (h.places x hx) hk (fun b hb hf => owns_apart h.row (h.places x hx) (by decide) b (hF b hf) hb)
  · rcases hmem x hx with rfl | ⟨hne, hx⟩
    · simp only [if_true] at hb1
      cases hb1
    · rcases hmem y hy with rfl | ⟨hny, hy⟩
      · simp only [if_true] at hb2
        cases hb2
      · simp only [if_neg hne] at hb1
        simp only [if_neg hny] at hb2
        exact h.apart x hx y hy b hb1 hb2
/-- One more place of a gram that is there. -/
theorem PostM.place {w w' : World} {base : Nat} {z : Nat → Nat} {m k gP cP : Nat} {ks : List Nat} {vf : Nat → Value} {u : Value} (h : PostM w base z m ks (.slice (some ⟨gP, 0, none⟩) ks.length cP) vf) (hk : k < ks.length) (hg : ks.getD k 0 = gN z m) (hnd : ks.Nodup)
    (hkp : Kept (fun b => (vf (gN z m)).ownBlock = some b) w w') (hu : w'.ownsRow base 44 2 u ((plL z (List.range m) (gN z m)).length + 1) (pcl (plL z (List.range m) (gN z m)) ++ [.int .i64 0, .int .i64 (m : Int)]))
    (hun : ∀ b, u.ownBlock = some b → (vf (gN z m)).ownBlock = some b ∨ w.heap.size ≤ b) :
    PostM (w'.setCell ⟨gP, k * 2 + 1, none⟩ u) base z (m + 1) ks (.slice (some ⟨gP, 0, none⟩) ks.length cP) (fun x => if x = gN z m then u else vf x) := by
  have hgm : gN z m ∈ ks := by
    rw [← hg, List.getD_eq_getElem?_getD, List.getElem?_eq_getElem hk]
    exact List.getElem_mem hk
  have hrow1 : w'.ownsRow base 42 2 (.slice (some ⟨gP, 0, none⟩) ks.length cP) ks.length (pocl ks vf) := owns_keptS h.row hkp (fun b hb hf => owns_apart h.row (h.places _ hgm) (by decide) b hb hf)
  have hset : (pocl ks vf).set (k * 2 + 1) u = pocl ks (fun x => if x = gN z m then u else vf x) := by
    have hsp := List.take_append_drop k ks
    have hd : ks.drop k = gN z m :: ks.drop (k + 1) := by rw [List.drop_eq_getElem_cons hk, ← hg, List.getD_eq_getElem?_getD, List.getElem?_eq_getElem hk]; rfl
    rw [hd] at hsp
    have hnd2 := hnd
    rw [← hsp, List.nodup_append, List.nodup_cons] at hnd2
    obtain ⟨_, ⟨hnd3, _⟩, hnd4⟩ := hnd2
    have e1 : ∀ f : Nat → Value, pocl ks f = pocl (ks.take k) f ++ (gtx (gN z m) :: f (gN z m) :: pocl (ks.drop (k + 1)) f) := fun f => by
      conv => lhs; rw [← hsp]
      rw [pocl_append]
      simp [pocl]
    rw [e1 vf, e1 (fun x => if x = gN z m then u else vf x)]
    have hl : (pocl (ks.take k) vf).length = k * 2 := by rw [pocl_len, List.length_take]; omega
    rw [List.set_append_right _ _ (by omega), hl, show k * 2 + 1 - k * 2 = 1 by omega]
    simp only [if_true, List.set_cons_succ, List.set_cons_zero]
    rw [pocl_congr (ks := ks.take k) (vf := fun x => if x = gN z m then u else vf x) (uf := vf) (fun x hx => if_neg (fun (e : x = gN z m) => hnd4 x hx _ List.mem_cons_self e)), pocl_congr (ks := ks.drop (k + 1)) (vf := fun x => if x = gN z m then u else vf x) (uf := vf) (fun x hx => if_neg (fun (e : x = gN z m) => hnd3 (e ▸ hx)))]
  have hrow2 := owns_setS (i := k * 2 + 1) hrow1 (b := gP) rfl u
  rw [hset] at hrow2
  have hux : ∀ (x : Nat), x ∈ ks → x ≠ gN z m → ∀ b, (vf x).ownBlock = some b → u.ownBlock ≠ some b := fun x hx hne b hb hub => by
    rcases hun b hub with h1 | h1
    · exact hne (h.apart x hx _ hgm b hb h1)
    · have := (owns_cells (h.places x hx) b hb).1
      omega
  refine ⟨hrow2, fun x hx => ?_, fun x hx y hy b hb1 hb2 => ?_⟩
  · rw [List.range_succ, plL_snoc]
    by_cases e : x = gN z m
    · subst e
      simp only [if_true]
      rw [List.length_append, pcl_snoc]
      exact owns_other hu (fun hb => owns_apart hrow1 hu (by decide) gP rfl hb) _
    · simp only [if_neg e, if_neg (Ne.symm e)]
      refine owns_other (owns_keptS (h.places x hx) hkp (fun b hb hf => e (h.apart x hx _ hgm b hb hf))) (fun hb => owns_apart h.row (h.places x hx) (by decide) gP rfl hb) _
  · by_cases e : x = gN z m
    · by_cases e2 : y = gN z m
      · rw [e, e2]
      · simp only [if_pos e] at hb1
        simp only [if_neg e2] at hb2
        exact absurd hb1 (hux y hy e2 b hb2)
    · by_cases e2 : y = gN z m
      · simp only [if_neg e] at hb1
        simp only [if_pos e2] at hb2
        exact absurd hb2 (hux x hx e b hb1)
      · simp only [if_neg e] at hb1
        simp only [if_neg e2] at hb2
        exact h.apart x hx y hy b hb1 hb2
end Go.Proofs.YtpdlapnliiengaaGreat
