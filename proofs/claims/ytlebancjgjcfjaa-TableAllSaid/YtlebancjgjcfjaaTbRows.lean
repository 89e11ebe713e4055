/- Rows of keys, rows of slots: '[]T{x}', 'append(row, x)'; what is read of a row of one's own. It proves no statement. -/
import Derived.Test.YtlebancjgjcfjaaTbLay
namespace Go.Proofs.Ytlebancjgjcfjaa
open Go.RowKit
set_option linter.unusedVariables false
set_option linter.unusedSimpArgs false

theorem Try.infoKey : (Try.prog.info? 43).map (fun i => (i.zero, i.size, i.bytes)) = some (some (.agg (bytesV (List.replicate 32 0)).toArray), 32, 32) := by kernel_rfl
set_option maxRecDepth 100000 in
theorem fill_Key (K : List UInt8) (hK : K.length = 32) :
    Instr.fill (fun i => some (i * 32, 32)) ((Array.range (1 * 32)).map ((Value.agg (bytesV (List.replicate 32 0)).toArray).cells[· % (Value.agg (bytesV (List.replicate 32 0)).toArray).cells.size]!)) [(0, .agg (bytesV K).toArray)] = some (bytesV K).toArray := by
  obtain ⟨k0, k1, k2, k3, k4, k5, k6, k7, k8, k9, k10, k11, k12, k13, k14, k15, k16, k17, k18, k19, k20, k21, k22, k23, k24, k25, k26, k27, k28, k29, k30, k31, rfl⟩ := list32 K hK
  kernel_rfl
theorem wpList_boxKey (w : World) {ops : Array Oper} {rest : List Oper} {o : Oper} {a : Act} {Q : Exit → Act → World → Prop} (hgd : o.guard = none) (x : Operand)
    (ho : o.op = .buildSlice 30 1 #[(0, x)]) (K : List UInt8) (hK : K.length = 32) (hx : a.eval x = .agg (bytesV K).toArray)
    (h : wpList Try.prog ops Q rest (a.put o.dst (.slice (some ⟨w.heap.size, 0, none⟩) 1 1)) (w.alloc (.cells (bytesV K).toArray 43))) : wpList Try.prog ops Q (o :: rest) a w := by
  refine wpList_plain hgd fun _ hQ => ?_
  obtain ⟨i0, hi, hz0, hz1, hz2⟩ := info_parts Try.infoKey
  refine wp_buildSlice 30 43 1 #[(0, x)] ho (bytesV K).toArray i0 _ Try.underlying30 hi hz0 (by rw [hz1]; decide) (by rw [hz1]; decide) ?_ (hQ _ _ h)
  rw [hz1]
  simp only [List.map_toArray, List.map_cons, List.map_nil, hx]
  exact fill_Key K hK
theorem wpList_pushKey (w : World) {ops : Array Oper} {rest : List Oper} {o : Oper} {a : Act} {Q : Exit → Act → World → Prop} (hgd : o.guard = none) (s x : Operand)
    (ho : o.op = .call { callee := .builtin .append, args := #[s, x], argTypes := #[30, 30] })
    (base : Nat) (v : Value) (n : Nat) (xs : List Value) (hs : a.eval s = v) (hown : w.ownsRow base 43 32 v n xs) (cs : List Value) (hc6 : cs.length = 32) (h1 : ∀ u ∈ cs, u.oneCell' = true)
    (hx : a.eval x = .slice (some ⟨w.heap.size, 0, none⟩) 1 1) (hn : n ≤ 1048576) (hbase : base ≤ w.heap.size)
    (h : ∀ v' w', w'.ownsRow base 43 32 v' (n + 1) (xs ++ cs) → w.grownBy w' v.ownBlock → wpList Try.prog ops Q rest (a.put o.dst v') w') :
    wpList Try.prog ops Q (o :: rest) a (w.alloc (.cells cs.toArray 43)) := by
  refine wpList_plain hgd fun _ hQ => ?_
  obtain ⟨i0, hi, hz0, hz1, hz2⟩ := info_parts Try.infoKey
  obtain ⟨v', w', hrun, h2, h3, _, h5⟩ := run_append_own_at (P := Try.prog) (w.alloc (.cells cs.toArray 43)) base 30 o.type 43 i0 _ 32 32 Try.underlying30 hi hz0 hz1 hz2 rfl (by decide) v n xs (hown.alloc _) ⟨w.heap.size, 0, none⟩ 1 1 cs (by rw [hc6]) (fun j u hu => by
    rw [Addr.add_mid, Nat.zero_add, (Blk.new w _ _).cell, List.getElem?_toArray]; exact hu) h1 (by unfold maxLen; omega) (by omega) (by simp; omega)
  unfold Oper.wp execOp
  simp only [ho, resolve, invoke, builtin, Sem.run_bind, Sem.run_pure, Result.andThen_ok, List.map_toArray, List.map_cons, List.map_nil, hs, hx, hrun]
  refine hQ _ _ (h v' w' h2 ⟨h3.os, h3.tape, h3.output, by have := h3.size; simp at this; omega, fun k hk hne => ?_⟩)
  rw [h3.block k (by simp; omega) hne]
  exact Below.heap_alloc w _ k hk
theorem Try.infoSlt : (Try.prog.info? 82).map (fun i => (i.zero, i.size, i.bytes)) = some (some (.agg (slL 1 .empty).toArray), 34, 48) := by kernel_rfl
set_option maxRecDepth 100000 in
theorem fill_Slt (s : Sl) (hs : SlOK 1 s) :
    Instr.fill (fun i => some (i * 34, 34)) ((Array.range (1 * 34)).map ((Value.agg (slL 1 .empty).toArray).cells[· % (Value.agg (slL 1 .empty).toArray).cells.size]!)) [(0, .agg (slL 1 s).toArray)] = some (slL 1 s).toArray := by
  cases s with
  | empty => kernel_rfl
  | dead => kernel_rfl
  | full K v =>
    obtain ⟨hK, hv⟩ := hs
    simp only [Sl.key, Sl.val] at hK hv
    obtain ⟨x, rfl⟩ : ∃ x, v = [x] := by
      match v, hv with
      | [x], _ => exact ⟨x, rfl⟩
    obtain ⟨k0, k1, k2, k3, k4, k5, k6, k7, k8, k9, k10, k11, k12, k13, k14, k15, k16, k17, k18, k19, k20, k21, k22, k23, k24, k25, k26, k27, k28, k29, k30, k31, rfl⟩ := list32 K hK
    kernel_rfl
theorem wpList_boxSlt (w : World) {ops : Array Oper} {rest : List Oper} {o : Oper} {a : Act} {Q : Exit → Act → World → Prop} (hgd : o.guard = none) (x : Operand)
    (ho : o.op = .buildSlice 62 1 #[(0, x)]) (s : Sl) (hs : SlOK 1 s) (hx : a.eval x = .agg (slL 1 s).toArray)
    (h : wpList Try.prog ops Q rest (a.put o.dst (.slice (some ⟨w.heap.size, 0, none⟩) 1 1)) (w.alloc (.cells (slL 1 s).toArray 82))) : wpList Try.prog ops Q (o :: rest) a w := by
  refine wpList_plain hgd fun _ hQ => ?_
  obtain ⟨i0, hi, hz0, hz1, hz2⟩ := info_parts Try.infoSlt
  refine wp_buildSlice 62 82 1 #[(0, x)] ho (slL 1 s).toArray i0 _ Try.underlying62 hi hz0 (by rw [hz1]; decide) (by rw [hz1]; decide) ?_ (hQ _ _ h)
  rw [hz1]
  simp only [List.map_toArray, List.map_cons, List.map_nil, hx]
  exact fill_Slt s hs
theorem wpList_pushSlt (w : World) {ops : Array Oper} {rest : List Oper} {o : Oper} {a : Act} {Q : Exit → Act → World → Prop} (hgd : o.guard = none) (s x : Operand)
    (ho : o.op = .call { callee := .builtin .append, args := #[s, x], argTypes := #[62, 62] })
    (base : Nat) (v : Value) (n : Nat) (xs : List Value) (hs : a.eval s = v) (hown : w.ownsRow base 82 34 v n xs) (cs : List Value) (hc6 : cs.length = 34) (h1 : ∀ u ∈ cs, u.oneCell' = true)
    (hx : a.eval x = .slice (some ⟨w.heap.size, 0, none⟩) 1 1) (hn : n ≤ 1048576) (hbase : base ≤ w.heap.size)
    (h : ∀ v' w', w'.ownsRow base 82 34 v' (n + 1) (xs ++ cs) → w.grownBy w' v.ownBlock → wpList Try.prog ops Q rest (a.put o.dst v') w') :
    wpList Try.prog ops Q (o :: rest) a (w.alloc (.cells cs.toArray 82)) := by
  refine wpList_plain hgd fun _ hQ => ?_
  obtain ⟨i0, hi, hz0, hz1, hz2⟩ := info_parts Try.infoSlt
  obtain ⟨v', w', hrun, h2, h3, _, h5⟩ := run_append_own_at (P := Try.prog) (w.alloc (.cells cs.toArray 82)) base 62 o.type 82 i0 _ 34 48 Try.underlying62 hi hz0 hz1 hz2 rfl (by decide) v n xs (hown.alloc _) ⟨w.heap.size, 0, none⟩ 1 1 cs (by rw [hc6]) (fun j u hu => by
    rw [Addr.add_mid, Nat.zero_add, (Blk.new w _ _).cell, List.getElem?_toArray]; exact hu) h1 (by unfold maxLen; omega) (by omega) (by simp; omega)
  unfold Oper.wp execOp
  simp only [ho, resolve, invoke, builtin, Sem.run_bind, Sem.run_pure, Result.andThen_ok, List.map_toArray, List.map_cons, List.map_nil, hs, hx, hrun]
  refine hQ _ _ (h v' w' h2 ⟨h3.os, h3.tape, h3.output, by have := h3.size; simp at this; omega, fun k hk hne => ?_⟩)
  rw [h3.block k (by simp; omega) hne]
  exact Below.heap_alloc w _ k hk
/-- A row of one's own is a slice. -/
theorem own_slice {w : World} {base z n : Nat} {e : TypeId} {v : Value} {xs : List Value} (h : w.ownsRow base e z v n xs) : ∃ A c, v = .slice A n c ∧ n ≤ c ∧ c ≤ 9223372036854775807 ∧ (A = none → n = 0 ∧ c = 0) ∧ ∀ k, v.ownBlock = some k → A = some ⟨k, 0, none⟩ := by
  rcases h.2 with ⟨rfl, rfl⟩ | ⟨g, cap, cur, rfl, _, _, hnc, hm, _⟩
  · exact ⟨none, 0, rfl, Nat.le_refl _, by omega, fun _ => ⟨rfl, rfl⟩, fun k hk => (by cases hk)⟩
  · exact ⟨_, cap, rfl, hnc, by unfold maxLen at hm; omega, fun e => (by cases e), fun k hk => (by cases hk; rfl)⟩
/-- What lies in it. -/
theorem own_at {w : World} {base z n : Nat} {e : TypeId} {v : Value} {xs : List Value} (h : w.ownsRow base e z v n xs) (hn : 0 < n) : ∃ g c, v = .slice (some ⟨g, 0, none⟩) n c ∧ base ≤ g ∧ g < w.heap.size ∧ n ≤ c ∧ c ≤ 9223372036854775807 ∧ ∀ (j : Nat) (u : Value), xs[j]? = some u → w.cell? ⟨g, j, none⟩ = some u := by
  rcases h.2 with ⟨rfl, rfl⟩ | ⟨g, cap, cur, rfl, hb, hg, hnc, hm, hcs, ht⟩
  · omega
  · refine ⟨g, cap, rfl, hb, (Array.getElem?_eq_some_iff.1 hg).1, hnc, by unfold maxLen at hm; omega, fun j u hj => ?_⟩
    rw [← ht] at hj
    rw [cell_of_row w g j cur e (0, 0) hg]
    rw [List.getElem?_take] at hj
    split at hj
    · simpa using hj
    · cases hj
def keysV (L : List (List UInt8 × List Int)) : List Value := L.flatMap fun z => bytesV z.1
theorem keysV_snoc (L : List (List UInt8 × List Int)) (z : List UInt8 × List Int) : keysV (L ++ [z]) = keysV L ++ bytesV z.1 := by simp [keysV]
end Go.Proofs.Ytlebancjgjcfjaa
