/- The document's own table in memory: a row of keys and values, rising. It proves no statement. -/
import Derived.Test.YthkgnkcedoigiaaTbP1
import Derived.Test.YthkgnkcedoigiaaTbClone
namespace Go.Proofs.Ythkgnkcedoigiaa
open Go.RowKit
set_option linter.unusedVariables false
set_option linter.unusedSimpArgs false

def PrOK (z : KV) : Prop := z.1.length = 32 ∧ z.2.length = 1
def prL (z : KV) : List Value := bytesV z.1 ++ z.2.map (Value.int .i64)
theorem prL_len {z : KV} (h : PrOK z) : (prL z).length = 33 := by simp [prL, bytesV_length, h.1, h.2]
theorem prL_one (z : KV) : ∀ u ∈ prL z, u.oneCell' = true := by
  intro u hu
  rcases List.mem_append.1 hu with hu | hu
  · exact bytesV_one _ u hu
  · exact ints_one _ u hu
theorem prL_key {z : KV} {j : Nat} {u : Value} (h : (bytesV z.1)[j]? = some u) : (prL z)[j]? = some u := by
  have hj := (List.getElem?_eq_some_iff.1 h).1
  unfold prL
  rw [List.getElem?_append_left hj, h]
theorem prL_val {k : List UInt8} {x : Int} (h : k.length = 32) : (prL (k, [x]))[32]? = some (.int .i64 x) := by
  unfold prL
  rw [List.getElem?_append_right (by rw [bytesV_length]; simp only; omega), bytesV_length]
  simp only [h]
  rfl
theorem prV_one {z : KV} (h : PrOK z) : ∃ x, z.2 = [x] := by
  match z.2, h.2 with
  | [x], _ => exact ⟨x, rfl⟩
def prsV (L : List KV) : List Value := L.flatMap prL
theorem prsV_snoc (L : List KV) (z : KV) : prsV (L ++ [z]) = prsV L ++ prL z := by simp [prsV]
theorem prsV_append (L M : List KV) : prsV (L ++ M) = prsV L ++ prsV M := by simp [prsV]
theorem prsV_one (L : List KV) : ∀ u ∈ prsV L, u.oneCell' = true := by
  intro u hu
  obtain ⟨s, _, h⟩ := List.mem_flatMap.1 hu
  exact prL_one s u h
theorem prsV_len {L : List KV} (h : ∀ z ∈ L, PrOK z) : (prsV L).length = L.length * 33 := by
  induction L with
  | nil => rfl
  | cons s r ih =>
    have h1 := prL_len (h s (by simp))
    have h2 := ih (fun x hx => h x (by simp [hx]))
    unfold prsV at *
    rw [List.flatMap_cons, List.length_append, h1, h2, List.length_cons]
    omega
theorem prsV_at {L : List KV} (h : ∀ z ∈ L, PrOK z) : ∀ (i : Nat) (z : KV), L[i]? = some z → ∀ (r : Nat) (u : Value), (prL z)[r]? = some u → (prsV L)[i * 33 + r]? = some u := by
  induction L with
  | nil => intro i s hs; simp at hs
  | cons x xs ih =>
    intro i s hs r u hr
    have hx := prL_len (h x (by simp))
    unfold prsV
    rw [List.flatMap_cons]
    match i, hs with
    | 0, hs =>
      simp only [List.getElem?_cons_zero, Option.some.injEq] at hs
      subst hs
      have hr2 := (List.getElem?_eq_some_iff.1 hr).1
      rw [Nat.zero_mul, Nat.zero_add, List.getElem?_append_left hr2, hr]
    | i + 1, hs =>
      rw [List.getElem?_append_right (by rw [hx]; omega), hx, show (i + 1) * 33 + r - 33 = i * 33 + r by omega]
      exact ih (fun y hy => h y (by simp [hy])) i s hs r u hr
theorem Try.infoPr : (Try.prog.info? 40).map (fun i => (i.zero, i.size, i.bytes)) = some (some (.agg (prL (List.replicate 32 0, [0])).toArray), 33, 40) := by kernel_rfl
set_option maxRecDepth 100000 in
theorem fill_Pr (z : KV) (hz : PrOK z) :
    Instr.fill (fun i => some (i * 33, 33)) ((Array.range (1 * 33)).map ((Value.agg (prL (List.replicate 32 0, [0])).toArray).cells[· % (Value.agg (prL (List.replicate 32 0, [0])).toArray).cells.size]!)) [(0, .agg (prL z).toArray)] = some (prL z).toArray := by
  obtain ⟨K, v⟩ := z
  obtain ⟨hK, hv⟩ := hz
  simp only at hK hv
  obtain ⟨x, rfl⟩ : ∃ x, v = [x] := by
    match v, hv with
    | [x], _ => exact ⟨x, rfl⟩
  obtain ⟨k0, k1, k2, k3, k4, k5, k6, k7, k8, k9, k10, k11, k12, k13, k14, k15, k16, k17, k18, k19, k20, k21, k22, k23, k24, k25, k26, k27, k28, k29, k30, k31, rfl⟩ := list32 K hK
  kernel_rfl
set_option maxRecDepth 100000 in
theorem built_Pr (K : List UInt8) (hK : K.length = 32) (x : Int) : Try.prog.built 40 [(0, .agg (bytesV K).toArray), (1, .int .i64 x)] = some (prL (K, [x])).toArray := by
  obtain ⟨k0, k1, k2, k3, k4, k5, k6, k7, k8, k9, k10, k11, k12, k13, k14, k15, k16, k17, k18, k19, k20, k21, k22, k23, k24, k25, k26, k27, k28, k29, k30, k31, rfl⟩ := list32 K hK
  kernel_rfl
theorem wpList_boxPr (w : World) {ops : Array Oper} {rest : List Oper} {o : Oper} {a : Act} {Q : Exit → Act → World → Prop} (hgd : o.guard = none) (x : Operand)
    (ho : o.op = .buildSlice 27 1 #[(0, x)]) (z : KV) (hz : PrOK z) (hx : a.eval x = .agg (prL z).toArray)
    (h : wpList Try.prog ops Q rest (a.put o.dst (.slice (some ⟨w.heap.size, 0, none⟩) 1 1)) (w.alloc (.cells (prL z).toArray 40))) : wpList Try.prog ops Q (o :: rest) a w := by
  refine wpList_plain hgd fun _ hQ => ?_
  obtain ⟨i0, hi, hz0, hz1, hz2⟩ := info_parts Try.infoPr
  refine wp_buildSlice 27 40 1 #[(0, x)] ho (prL z).toArray i0 _ Try.underlying27 hi hz0 (by rw [hz1]; decide) (by rw [hz1]; decide) ?_ (hQ _ _ h)
  rw [hz1]
  simp only [List.map_toArray, List.map_cons, List.map_nil, hx]
  exact fill_Pr z hz
theorem wpList_addsPr (w : World) {ops : Array Oper} {rest : List Oper} {o : Oper} {a : Act} {Q : Exit → Act → World → Prop} (hgd : o.guard = none) (s x : Operand)
    (ho : o.op = .call { callee := .builtin .append, args := #[s, x], argTypes := #[27, 27] })
    (base : Nat) (v : Value) (n : Nat) (xs : List Value) (hs : a.eval s = v) (hown : w.ownsRow base 40 33 v n xs) (b off n' c' : Nat) (ys : List Value) (hx : a.eval x = .slice (some ⟨b, off, none⟩) n' c')
    (hl : ys.length = n' * 33) (hr : ∀ j u, ys[j]? = some u → w.cell? ⟨b, off + j, none⟩ = some u) (h1 : ∀ u ∈ ys, u.oneCell' = true) (hn : n + n' ≤ 1099511627776) (hbase : base ≤ w.heap.size)
    (h : ∀ v' w', w'.ownsRow base 40 33 v' (n + n') (xs ++ ys) → w.grownBy w' v.ownBlock → wpList Try.prog ops Q rest (a.put o.dst v') w') :
    wpList Try.prog ops Q (o :: rest) a w := by
  refine wpList_plain hgd fun _ hQ => ?_
  obtain ⟨i0, hi, hz0, hz1, hz2⟩ := info_parts Try.infoPr
  obtain ⟨v', w', hrun, h2, h3, _, h5⟩ := run_append_own_at (P := Try.prog) w base 27 o.type 40 i0 _ 33 40 Try.underlying27 hi hz0 hz1 hz2 rfl (by decide) v n xs hown ⟨b, off, none⟩ n' c' ys hl (fun j u hu => by
    rw [Addr.add_mid]; exact hr j u hu) h1 (by unfold maxLen; omega) (by omega) hbase
  unfold Oper.wp execOp
  simp only [ho, resolve, invoke, builtin, Sem.run_bind, Sem.run_pure, Result.andThen_ok, List.map_toArray, List.map_cons, List.map_nil, hs, hx, hrun]
  exact hQ _ _ (h v' w' h2 h3)
theorem wpList_pushPr (w : World) {ops : Array Oper} {rest : List Oper} {o : Oper} {a : Act} {Q : Exit → Act → World → Prop} (hgd : o.guard = none) (s x : Operand)
    (ho : o.op = .call { callee := .builtin .append, args := #[s, x], argTypes := #[27, 27] })
    (base : Nat) (v : Value) (n : Nat) (xs : List Value) (hs : a.eval s = v) (hown : w.ownsRow base 40 33 v n xs) (cs : List Value) (hc6 : cs.length = 33) (h1 : ∀ u ∈ cs, u.oneCell' = true)
    (hx : a.eval x = .slice (some ⟨w.heap.size, 0, none⟩) 1 1) (hn : n ≤ 1048576) (hbase : base ≤ w.heap.size)
    (h : ∀ v' w', w'.ownsRow base 40 33 v' (n + 1) (xs ++ cs) → w.grownBy w' v.ownBlock → wpList Try.prog ops Q rest (a.put o.dst v') w') :
    wpList Try.prog ops Q (o :: rest) a (w.alloc (.cells cs.toArray 40)) := by
  refine wpList_addsPr _ hgd s x ho base v n xs hs (hown.alloc _) w.heap.size 0 1 1 cs hx (by omega) (fun j u hu => by
    rw [Nat.zero_add, (Blk.new w _ _).cell, List.getElem?_toArray]; exact hu) h1 (by omega) (by simp; omega) (fun v' w' h2 h3 => h v' w' h2 ⟨h3.os, h3.tape, h3.output, by have := h3.size; simp at this; omega, fun k hk hne => ?_⟩)
  rw [h3.block k (by simp; omega) hne]
  exact Below.heap_alloc w _ k hk
/-- The document's table at gx, its row v. -/
structure RT (w : World) (gx : Nat) (v : Value) (L : List KV) (cp dd : Nat) : Prop where
  box : Blk w gx 29 #[v, .int .i64 (cp : Nat), .int .i64 (dd : Nat)]
  own : w.ownsRow (gx + 1) 40 33 v L.length (prsV L)
  ok : ∀ z ∈ L, PrOK z
section
variable {w w' : World} {gx cp dd : Nat} {v : Value} {L : List KV}
theorem own_blk {base z n : Nat} {e : TypeId} {xs : List Value} (h : w.ownsRow base e z v n xs) (hk : ∀ k, v.ownBlock = some k → w'.heap[k]? = w.heap[k]?) : w'.ownsRow base e z v n xs := by
  refine ⟨h.1, ?_⟩
  rcases h.2 with h0 | ⟨g, c, cur, h1, h2, h3, h4⟩
  · exact .inl h0
  · exact .inr ⟨g, c, cur, h1, h2, (hk g (by rw [h1]; rfl)).trans h3, h4⟩
theorem RT.still (h : RT w gx v L cp dd) (s : Still w w') : RT w' gx v L cp dd := ⟨h.box.still s, own_keep h.own s, h.ok⟩
theorem RT.blt (h : RT w gx v L cp dd) : ∀ k, v.ownBlock = some k → gx < k ∧ k < w.heap.size := fun k hk => ⟨(h.own.lt k hk).1, (h.own.lt k hk).2⟩
theorem RT.chg {R : Nat → Prop} (h : RT w gx v L cp dd) (c : Chg w w' R) (hg : ¬ R gx) (hb : ∀ k, v.ownBlock = some k → ¬ R k) : RT w' gx v L cp dd :=
  ⟨c.blk h.box hg, own_blk h.own (fun k hk => c.block k (h.blt k hk).2 (hb k hk)), h.ok⟩
theorem RT.form (h : RT w gx v L cp dd) : ∃ A c, v = .slice A L.length c ∧ L.length ≤ c ∧ c ≤ 9223372036854775807 ∧ ∀ (i : Nat) (z : KV), L[i]? = some z → ∃ b, A = some ⟨b, 0, none⟩ ∧ gx < b ∧ b < w.heap.size ∧ ∀ w' : World, w'.heap[b]? = w.heap[b]? → w'.rangeAt b (i * 33) (prL z) := by
  rcases h.own.2 with ⟨rfl, h0⟩ | ⟨g, cap, cur, rfl, hb, hg, hnc, hm, hcs, ht⟩
  · refine ⟨none, 0, by rw [h0], by omega, by omega, fun i z hz => ?_⟩
    have := (List.getElem?_eq_some_iff.1 hz).1
    omega
  · refine ⟨_, cap, rfl, hnc, by unfold maxLen at hm; omega, fun i z hz => ⟨g, rfl, hb, (Array.getElem?_eq_some_iff.1 hg).1, fun w' hk j u hj => ?_⟩⟩
    have h1 := prsV_at h.ok i z hz j u hj
    rw [← ht, List.getElem?_take] at h1
    rw [cell_of_row w' g _ cur _ (0, 0) (hk.trans hg)]
    split at h1
    · simpa using h1
    · cases h1
end
end Go.Proofs.Ythkgnkcedoigiaa
