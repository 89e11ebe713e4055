/- Contracts and facts, several texts in one. It proves no statement. -/
import Derived.Test.YtljacdbdjacbkaaGreatMpGa
import Derived.Deep.MidRow
import Derived.Deep.RegionHeld
import Derived.Maps.AppendAt
import Derived.Great.BuildSlice
import Derived.Test.YtljacdbdjacbkaaGreatMpGc

/- Rows of the document's names, links, changes, files: '[]T{x}', 'append(row, x)'. It proves no statement. -/





namespace Go.Proofs.YtljacdbdjacbkaaGreat
open Go.RowKit
set_option linter.unusedVariables false
set_option linter.unusedSimpArgs false

theorem Tryz.infoDn : (Tryz.prog.info? 92).map (fun i => (i.zero, i.size, i.bytes)) = some (some (.agg #[.string ⟨#[]⟩, .int .i64 0]), 2, 24) := by kernel_rfl
set_option maxRecDepth 100000 in
theorem fill_Dn (s : ByteArray) (f : Int) : Instr.fill (fun i => some (i * 2, 2)) ((Array.range (1 * 2)).map ((Value.agg #[.string ⟨#[]⟩, .int .i64 0]).cells[· % (Value.agg #[.string ⟨#[]⟩, .int .i64 0]).cells.size]!)) [(0, .agg #[.string s, .int .i64 f])] = some #[.string s, .int .i64 f] := by kernel_rfl
theorem step_boxDn (w : World) {o : Oper} {a : Act} {K' : Act → World → Prop} {Q : Exit → Act → World → Prop} (x : Operand)
    (ho : o.op = .buildSlice 44 1 #[(0, x)]) (s : ByteArray) (f : Int) (hx : a.eval x = .agg #[.string s, .int .i64 f])
    (h : K' (a.put o.dst (.slice (some ⟨w.heap.size, 0, none⟩) 1 1)) (w.alloc (.cells #[.string s, .int .i64 f] 92))) : o.wp Tryz.prog a w K' Q := by
  obtain ⟨i0, hi, hz0, hz1, hz2⟩ := info_parts Tryz.infoDn
  refine wp_buildSlice 44 92 1 #[(0, x)] ho #[.string s, .int .i64 f] i0 _ Tryz.underlying44 hi hz0 (by rw [hz1]; decide) (by rw [hz1]; decide) ?_ h
  rw [hz1]
  simp only [List.map_toArray, List.map_cons, List.map_nil, hx]
  exact fill_Dn s f
theorem wpList_boxDn (w : World) {ops : Array Oper} {rest : List Oper} {o : Oper} {a : Act} {Q : Exit → Act → World → Prop} (hgd : o.guard = none) (x : Operand)
    (ho : o.op = .buildSlice 44 1 #[(0, x)]) (s : ByteArray) (f : Int) (hx : a.eval x = .agg #[.string s, .int .i64 f])
    (h : wpList Tryz.prog ops Q rest (a.put o.dst (.slice (some ⟨w.heap.size, 0, none⟩) 1 1)) (w.alloc (.cells #[.string s, .int .i64 f] 92))) : wpList Tryz.prog ops Q (o :: rest) a w :=
  wpList_plain hgd fun _ hQ => step_boxDn w x ho s f hx (hQ _ _ h)
theorem step_pushDn (w : World) {o : Oper} {a : Act} {K : Act → World → Prop} {Q : Exit → Act → World → Prop} (s x : Operand)
    (ho : o.op = .call { callee := .builtin .append, args := #[s, x], argTypes := #[44, 44] })
    (base : Nat) (v : Value) (n : Nat) (xs : List Value) (hs : a.eval s = v) (hown : w.ownsRow base 92 2 v n xs) (gb : Nat) (cs : List Value)
    (hx : a.eval x = .slice (some ⟨gb, 0, none⟩) 1 1) (hc : ∀ q u, cs[q]? = some u → w.cell? ⟨gb, q, none⟩ = some u) (hc6 : cs.length = 2) (h1 : ∀ u ∈ cs, u.oneCell' = true) (hn : n ≤ 1048576) (hbase : base ≤ w.heap.size)
    (h : ∀ v' w', w'.ownsRow base 92 2 v' (n + 1) (xs ++ cs) → w.grownBy w' v.ownBlock → (v'.ownBlock = v.ownBlock ∨ v'.ownBlock = some w.heap.size) → K (a.put o.dst v') w') :
    o.wp Tryz.prog a w K Q := by
  obtain ⟨i0, hi, hz0, hz1, hz2⟩ := info_parts Tryz.infoDn
  obtain ⟨v', w', hrun, h2, h3, _, h5⟩ := run_append_own_at (P := Tryz.prog) w base 44 o.type 92 i0 _ 2 24 Tryz.underlying44 hi hz0 hz1 hz2 rfl (by decide) v n xs hown ⟨gb, 0, none⟩ 1 1 cs (by rw [hc6]) (fun j u hu => by
    rw [Addr.add_mid, Nat.zero_add]; exact hc j u hu) h1 (by unfold maxLen; omega) (by omega) hbase
  unfold Oper.wp execOp
  simp only [ho, resolve, invoke, builtin, Sem.run_bind, Sem.run_pure, Result.andThen_ok, List.map_toArray, List.map_cons, List.map_nil, hs, hx, hrun]
  exact h v' w' h2 h3 h5
theorem wpList_pushDn (w : World) {ops : Array Oper} {rest : List Oper} {o : Oper} {a : Act} {Q : Exit → Act → World → Prop} (hgd : o.guard = none) (s x : Operand)
    (ho : o.op = .call { callee := .builtin .append, args := #[s, x], argTypes := #[44, 44] })
    (base : Nat) (v : Value) (n : Nat) (xs : List Value) (hs : a.eval s = v) (hown : w.ownsRow base 92 2 v n xs) (gb : Nat) (cs : List Value)
    (hx : a.eval x = .slice (some ⟨gb, 0, none⟩) 1 1) (hc : ∀ q u, cs[q]? = some u → w.cell? ⟨gb, q, none⟩ = some u) (hc6 : cs.length = 2) (h1 : ∀ u ∈ cs, u.oneCell' = true) (hn : n ≤ 1048576) (hbase : base ≤ w.heap.size)
    (h : ∀ v' w', w'.ownsRow base 92 2 v' (n + 1) (xs ++ cs) → w.grownBy w' v.ownBlock → (v'.ownBlock = v.ownBlock ∨ v'.ownBlock = some w.heap.size) → wpList Tryz.prog ops Q rest (a.put o.dst v') w') :
    wpList Tryz.prog ops Q (o :: rest) a w :=
  wpList_plain hgd fun _ hQ => step_pushDn w s x ho base v n xs hs hown gb cs hx hc hc6 h1 hn hbase fun v' w' h2 h3 h5 => hQ _ _ (h v' w' h2 h3 h5)

theorem Tryz.infoDl : (Tryz.prog.info? 114).map (fun i => (i.zero, i.size, i.bytes)) = some (some (.agg #[.string ⟨#[]⟩, .string ⟨#[]⟩, .int .i64 0]), 3, 40) := by kernel_rfl
set_option maxRecDepth 100000 in
theorem fill_Dl (s : ByteArray) (t : ByteArray) (f : Int) : Instr.fill (fun i => some (i * 3, 3)) ((Array.range (1 * 3)).map ((Value.agg #[.string ⟨#[]⟩, .string ⟨#[]⟩, .int .i64 0]).cells[· % (Value.agg #[.string ⟨#[]⟩, .string ⟨#[]⟩, .int .i64 0]).cells.size]!)) [(0, .agg #[.string s, .string t, .int .i64 f])] = some #[.string s, .string t, .int .i64 f] := by kernel_rfl
theorem step_boxDl (w : World) {o : Oper} {a : Act} {K' : Act → World → Prop} {Q : Exit → Act → World → Prop} (x : Operand)
    (ho : o.op = .buildSlice 45 1 #[(0, x)]) (s : ByteArray) (t : ByteArray) (f : Int) (hx : a.eval x = .agg #[.string s, .string t, .int .i64 f])
    (h : K' (a.put o.dst (.slice (some ⟨w.heap.size, 0, none⟩) 1 1)) (w.alloc (.cells #[.string s, .string t, .int .i64 f] 114))) : o.wp Tryz.prog a w K' Q := by
  obtain ⟨i0, hi, hz0, hz1, hz2⟩ := info_parts Tryz.infoDl
  refine wp_buildSlice 45 114 1 #[(0, x)] ho #[.string s, .string t, .int .i64 f] i0 _ Tryz.underlying45 hi hz0 (by rw [hz1]; decide) (by rw [hz1]; decide) ?_ h
  rw [hz1]
  simp only [List.map_toArray, List.map_cons, List.map_nil, hx]
  exact fill_Dl s t f
theorem wpList_boxDl (w : World) {ops : Array Oper} {rest : List Oper} {o : Oper} {a : Act} {Q : Exit → Act → World → Prop} (hgd : o.guard = none) (x : Operand)
    (ho : o.op = .buildSlice 45 1 #[(0, x)]) (s : ByteArray) (t : ByteArray) (f : Int) (hx : a.eval x = .agg #[.string s, .string t, .int .i64 f])
    (h : wpList Tryz.prog ops Q rest (a.put o.dst (.slice (some ⟨w.heap.size, 0, none⟩) 1 1)) (w.alloc (.cells #[.string s, .string t, .int .i64 f] 114))) : wpList Tryz.prog ops Q (o :: rest) a w :=
  wpList_plain hgd fun _ hQ => step_boxDl w x ho s t f hx (hQ _ _ h)
theorem step_pushDl (w : World) {o : Oper} {a : Act} {K : Act → World → Prop} {Q : Exit → Act → World → Prop} (s x : Operand)
    (ho : o.op = .call { callee := .builtin .append, args := #[s, x], argTypes := #[45, 45] })
    (base : Nat) (v : Value) (n : Nat) (xs : List Value) (hs : a.eval s = v) (hown : w.ownsRow base 114 3 v n xs) (gb : Nat) (cs : List Value)
    (hx : a.eval x = .slice (some ⟨gb, 0, none⟩) 1 1) (hc : ∀ q u, cs[q]? = some u → w.cell? ⟨gb, q, none⟩ = some u) (hc6 : cs.length = 3) (h1 : ∀ u ∈ cs, u.oneCell' = true) (hn : n ≤ 1048576) (hbase : base ≤ w.heap.size)
    (h : ∀ v' w', w'.ownsRow base 114 3 v' (n + 1) (xs ++ cs) → w.grownBy w' v.ownBlock → (v'.ownBlock = v.ownBlock ∨ v'.ownBlock = some w.heap.size) → K (a.put o.dst v') w') :
    o.wp Tryz.prog a w K Q := by
  obtain ⟨i0, hi, hz0, hz1, hz2⟩ := info_parts Tryz.infoDl
  obtain ⟨v', w', hrun, h2, h3, _, h5⟩ := run_append_own_at (P := Tryz.prog) w base 45 o.type 114 i0 _ 3 40 Tryz.underlying45 hi hz0 hz1 hz2 rfl (by decide) v n xs hown ⟨gb, 0, none⟩ 1 1 cs (by rw [hc6]) (fun j u hu => by
    rw [Addr.add_mid, Nat.zero_add]; exact hc j u hu) h1 (by unfold maxLen; omega) (by omega) hbase
  unfold Oper.wp execOp
  simp only [ho, resolve, invoke, builtin, Sem.run_bind, Sem.run_pure, Result.andThen_ok, List.map_toArray, List.map_cons, List.map_nil, hs, hx, hrun]
  exact h v' w' h2 h3 h5
theorem wpList_pushDl (w : World) {ops : Array Oper} {rest : List Oper} {o : Oper} {a : Act} {Q : Exit → Act → World → Prop} (hgd : o.guard = none) (s x : Operand)
    (ho : o.op = .call { callee := .builtin .append, args := #[s, x], argTypes := #[45, 45] })
    (base : Nat) (v : Value) (n : Nat) (xs : List Value) (hs : a.eval s = v) (hown : w.ownsRow base 114 3 v n xs) (gb : Nat) (cs : List Value)
    (hx : a.eval x = .slice (some ⟨gb, 0, none⟩) 1 1) (hc : ∀ q u, cs[q]? = some u → w.cell? ⟨gb, q, none⟩ = some u) (hc6 : cs.length = 3) (h1 : ∀ u ∈ cs, u.oneCell' = true) (hn : n ≤ 1048576) (hbase : base ≤ w.heap.size)
    (h : ∀ v' w', w'.ownsRow base 114 3 v' (n + 1) (xs ++ cs) → w.grownBy w' v.ownBlock → (v'.ownBlock = v.ownBlock ∨ v'.ownBlock = some w.heap.size) → wpList Tryz.prog ops Q rest (a.put o.dst v') w') :
    wpList Tryz.prog ops Q (o :: rest) a w :=
  wpList_plain hgd fun _ hQ => step_pushDl w s x ho base v n xs hs hown gb cs hx hc hc6 h1 hn hbase fun v' w' h2 h3 h5 => hQ _ _ (h v' w' h2 h3 h5)

theorem Tryz.infoDc : (Tryz.prog.info? 72).map (fun i => (i.zero, i.size, i.bytes)) = some (some (.agg #[.bool false, .int .i64 0, .slice none 0 0]), 3, 40) := by kernel_rfl
set_option maxRecDepth 100000 in
theorem fill_Dc (cut : Bool) (k : Int) (A : Option Addr) (n : Nat) (c : Nat) : Instr.fill (fun i => some (i * 3, 3)) ((Array.range (1 * 3)).map ((Value.agg #[.bool false, .int .i64 0, .slice none 0 0]).cells[· % (Value.agg #[.bool false, .int .i64 0, .slice none 0 0]).cells.size]!)) [(0, .agg #[.bool cut, .int .i64 k, .slice A n c])] = some #[.bool cut, .int .i64 k, .slice A n c] := by kernel_rfl
theorem step_boxDc (w : World) {o : Oper} {a : Act} {K' : Act → World → Prop} {Q : Exit → Act → World → Prop} (x : Operand)
    (ho : o.op = .buildSlice 109 1 #[(0, x)]) (cut : Bool) (k : Int) (A : Option Addr) (n : Nat) (c : Nat) (hx : a.eval x = .agg #[.bool cut, .int .i64 k, .slice A n c])
    (h : K' (a.put o.dst (.slice (some ⟨w.heap.size, 0, none⟩) 1 1)) (w.alloc (.cells #[.bool cut, .int .i64 k, .slice A n c] 72))) : o.wp Tryz.prog a w K' Q := by
  obtain ⟨i0, hi, hz0, hz1, hz2⟩ := info_parts Tryz.infoDc
  refine wp_buildSlice 109 72 1 #[(0, x)] ho #[.bool cut, .int .i64 k, .slice A n c] i0 _ Tryz.underlying109 hi hz0 (by rw [hz1]; decide) (by rw [hz1]; decide) ?_ h
  rw [hz1]
  simp only [List.map_toArray, List.map_cons, List.map_nil, hx]
  exact fill_Dc cut k A n c
theorem wpList_boxDc (w : World) {ops : Array Oper} {rest : List Oper} {o : Oper} {a : Act} {Q : Exit → Act → World → Prop} (hgd : o.guard = none) (x : Operand)
    (ho : o.op = .buildSlice 109 1 #[(0, x)]) (cut : Bool) (k : Int) (A : Option Addr) (n : Nat) (c : Nat) (hx : a.eval x = .agg #[.bool cut, .int .i64 k, .slice A n c])
    (h : wpList Tryz.prog ops Q rest (a.put o.dst (.slice (some ⟨w.heap.size, 0, none⟩) 1 1)) (w.alloc (.cells #[.bool cut, .int .i64 k, .slice A n c] 72))) : wpList Tryz.prog ops Q (o :: rest) a w :=
  wpList_plain hgd fun _ hQ => step_boxDc w x ho cut k A n c hx (hQ _ _ h)
theorem step_pushDc (w : World) {o : Oper} {a : Act} {K : Act → World → Prop} {Q : Exit → Act → World → Prop} (s x : Operand)
    (ho : o.op = .call { callee := .builtin .append, args := #[s, x], argTypes := #[109, 109] })
    (base : Nat) (v : Value) (n : Nat) (xs : List Value) (hs : a.eval s = v) (hown : w.ownsRow base 72 3 v n xs) (gb : Nat) (cs : List Value)
    (hx : a.eval x = .slice (some ⟨gb, 0, none⟩) 1 1) (hc : ∀ q u, cs[q]? = some u → w.cell? ⟨gb, q, none⟩ = some u) (hc6 : cs.length = 3) (h1 : ∀ u ∈ cs, u.oneCell' = true) (hn : n ≤ 1048576) (hbase : base ≤ w.heap.size)
    (h : ∀ v' w', w'.ownsRow base 72 3 v' (n + 1) (xs ++ cs) → w.grownBy w' v.ownBlock → (v'.ownBlock = v.ownBlock ∨ v'.ownBlock = some w.heap.size) → K (a.put o.dst v') w') :
    o.wp Tryz.prog a w K Q := by
  obtain ⟨i0, hi, hz0, hz1, hz2⟩ := info_parts Tryz.infoDc
  obtain ⟨v', w', hrun, h2, h3, _, h5⟩ := run_append_own_at (P := Tryz.prog) w base 109 o.type 72 i0 _ 3 40 Tryz.underlying109 hi hz0 hz1 hz2 rfl (by decide) v n xs hown ⟨gb, 0, none⟩ 1 1 cs (by rw [hc6]) (fun j u hu => by
    rw [Addr.add_mid, Nat.zero_add]; exact hc j u hu) h1 (by unfold maxLen; omega) (by omega) hbase
  unfold Oper.wp execOp
  simp only [ho, resolve, invoke, builtin, Sem.run_bind, Sem.run_pure, Result.andThen_ok, List.map_toArray, List.map_cons, List.map_nil, hs, hx, hrun]
  exact h v' w' h2 h3 h5
theorem wpList_pushDc (w : World) {ops : Array Oper} {rest : List Oper} {o : Oper} {a : Act} {Q : Exit → Act → World → Prop} (hgd : o.guard = none) (s x : Operand)
    (ho : o.op = .call { callee := .builtin .append, args := #[s, x], argTypes := #[109, 109] })
    (base : Nat) (v : Value) (n : Nat) (xs : List Value) (hs : a.eval s = v) (hown : w.ownsRow base 72 3 v n xs) (gb : Nat) (cs : List Value)
    (hx : a.eval x = .slice (some ⟨gb, 0, none⟩) 1 1) (hc : ∀ q u, cs[q]? = some u → w.cell? ⟨gb, q, none⟩ = some u) (hc6 : cs.length = 3) (h1 : ∀ u ∈ cs, u.oneCell' = true) (hn : n ≤ 1048576) (hbase : base ≤ w.heap.size)
    (h : ∀ v' w', w'.ownsRow base 72 3 v' (n + 1) (xs ++ cs) → w.grownBy w' v.ownBlock → (v'.ownBlock = v.ownBlock ∨ v'.ownBlock = some w.heap.size) → wpList Tryz.prog ops Q rest (a.put o.dst v') w') :
    wpList Tryz.prog ops Q (o :: rest) a w :=
  wpList_plain hgd fun _ hQ => step_pushDc w s x ho base v n xs hs hown gb cs hx hc hc6 h1 hn hbase fun v' w' h2 h3 h5 => hQ _ _ (h v' w' h2 h3 h5)

theorem Tryz.infoDf : (Tryz.prog.info? 111).map (fun i => (i.zero, i.size, i.bytes)) = some (some (.agg #[.slice none 0 0, .slice none 0 0, .slice none 0 0]), 3, 72) := by kernel_rfl
set_option maxRecDepth 100000 in
theorem fill_Df (A : Option Addr) (n : Nat) (c : Nat) (A2 : Option Addr) (n2 : Nat) (c2 : Nat) (A3 : Option Addr) (n3 : Nat) (c3 : Nat) : Instr.fill (fun i => some (i * 3, 3)) ((Array.range (1 * 3)).map ((Value.agg #[.slice none 0 0, .slice none 0 0, .slice none 0 0]).cells[· % (Value.agg #[.slice none 0 0, .slice none 0 0, .slice none 0 0]).cells.size]!)) [(0, .agg #[.slice A n c, .slice A2 n2 c2, .slice A3 n3 c3])] = some #[.slice A n c, .slice A2 n2 c2, .slice A3 n3 c3] := by kernel_rfl
theorem step_boxDf (w : World) {o : Oper} {a : Act} {K' : Act → World → Prop} {Q : Exit → Act → World → Prop} (x : Operand)
    (ho : o.op = .buildSlice 43 1 #[(0, x)]) (A : Option Addr) (n : Nat) (c : Nat) (A2 : Option Addr) (n2 : Nat) (c2 : Nat) (A3 : Option Addr) (n3 : Nat) (c3 : Nat) (hx : a.eval x = .agg #[.slice A n c, .slice A2 n2 c2, .slice A3 n3 c3])
    (h : K' (a.put o.dst (.slice (some ⟨w.heap.size, 0, none⟩) 1 1)) (w.alloc (.cells #[.slice A n c, .slice A2 n2 c2, .slice A3 n3 c3] 111))) : o.wp Tryz.prog a w K' Q := by
  obtain ⟨i0, hi, hz0, hz1, hz2⟩ := info_parts Tryz.infoDf
  refine wp_buildSlice 43 111 1 #[(0, x)] ho #[.slice A n c, .slice A2 n2 c2, .slice A3 n3 c3] i0 _ Tryz.underlying43 hi hz0 (by rw [hz1]; decide) (by rw [hz1]; decide) ?_ h
  rw [hz1]
  simp only [List.map_toArray, List.map_cons, List.map_nil, hx]
  exact fill_Df A n c A2 n2 c2 A3 n3 c3
theorem wpList_boxDf (w : World) {ops : Array Oper} {rest : List Oper} {o : Oper} {a : Act} {Q : Exit → Act → World → Prop} (hgd : o.guard = none) (x : Operand)
    (ho : o.op = .buildSlice 43 1 #[(0, x)]) (A : Option Addr) (n : Nat) (c : Nat) (A2 : Option Addr) (n2 : Nat) (c2 : Nat) (A3 : Option Addr) (n3 : Nat) (c3 : Nat) (hx : a.eval x = .agg #[.slice A n c, .slice A2 n2 c2, .slice A3 n3 c3])
    (h : wpList Tryz.prog ops Q rest (a.put o.dst (.slice (some ⟨w.heap.size, 0, none⟩) 1 1)) (w.alloc (.cells #[.slice A n c, .slice A2 n2 c2, .slice A3 n3 c3] 111))) : wpList Tryz.prog ops Q (o :: rest) a w :=
  wpList_plain hgd fun _ hQ => step_boxDf w x ho A n c A2 n2 c2 A3 n3 c3 hx (hQ _ _ h)
theorem step_pushDf (w : World) {o : Oper} {a : Act} {K : Act → World → Prop} {Q : Exit → Act → World → Prop} (s x : Operand)
    (ho : o.op = .call { callee := .builtin .append, args := #[s, x], argTypes := #[43, 43] })
    (base : Nat) (v : Value) (n : Nat) (xs : List Value) (hs : a.eval s = v) (hown : w.ownsRow base 111 3 v n xs) (gb : Nat) (cs : List Value)
    (hx : a.eval x = .slice (some ⟨gb, 0, none⟩) 1 1) (hc : ∀ q u, cs[q]? = some u → w.cell? ⟨gb, q, none⟩ = some u) (hc6 : cs.length = 3) (h1 : ∀ u ∈ cs, u.oneCell' = true) (hn : n ≤ 1048576) (hbase : base ≤ w.heap.size)
    (h : ∀ v' w', w'.ownsRow base 111 3 v' (n + 1) (xs ++ cs) → w.grownBy w' v.ownBlock → (v'.ownBlock = v.ownBlock ∨ v'.ownBlock = some w.heap.size) → K (a.put o.dst v') w') :
    o.wp Tryz.prog a w K Q := by
  obtain ⟨i0, hi, hz0, hz1, hz2⟩ := info_parts Tryz.infoDf
  obtain ⟨v', w', hrun, h2, h3, _, h5⟩ := run_append_own_at (P := Tryz.prog) w base 43 o.type 111 i0 _ 3 72 Tryz.underlying43 hi hz0 hz1 hz2 rfl (by decide) v n xs hown ⟨gb, 0, none⟩ 1 1 cs (by rw [hc6]) (fun j u hu => by
    rw [Addr.add_mid, Nat.zero_add]; exact hc j u hu) h1 (by unfold maxLen; omega) (by omega) hbase
  unfold Oper.wp execOp
  simp only [ho, resolve, invoke, builtin, Sem.run_bind, Sem.run_pure, Result.andThen_ok, List.map_toArray, List.map_cons, List.map_nil, hs, hx, hrun]
  exact h v' w' h2 h3 h5
theorem wpList_pushDf (w : World) {ops : Array Oper} {rest : List Oper} {o : Oper} {a : Act} {Q : Exit → Act → World → Prop} (hgd : o.guard = none) (s x : Operand)
    (ho : o.op = .call { callee := .builtin .append, args := #[s, x], argTypes := #[43, 43] })
    (base : Nat) (v : Value) (n : Nat) (xs : List Value) (hs : a.eval s = v) (hown : w.ownsRow base 111 3 v n xs) (gb : Nat) (cs : List Value)
    (hx : a.eval x = .slice (some ⟨gb, 0, none⟩) 1 1) (hc : ∀ q u, cs[q]? = some u → w.cell? ⟨gb, q, none⟩ = some u) (hc6 : cs.length = 3) (h1 : ∀ u ∈ cs, u.oneCell' = true) (hn : n ≤ 1048576) (hbase : base ≤ w.heap.size)
    (h : ∀ v' w', w'.ownsRow base 111 3 v' (n + 1) (xs ++ cs) → w.grownBy w' v.ownBlock → (v'.ownBlock = v.ownBlock ∨ v'.ownBlock = some w.heap.size) → wpList Tryz.prog ops Q rest (a.put o.dst v') w') :
    wpList Tryz.prog ops Q (o :: rest) a w :=
  wpList_plain hgd fun _ hQ => step_pushDf w s x ho base v n xs hs hown gb cs hx hc hc6 h1 hn hbase fun v' w' h2 h3 h5 => hQ _ _ (h v' w' h2 h3 h5)
end Go.Proofs.YtljacdbdjacbkaaGreat

/- Contract: a change of names, done. It proves no statement. -/


namespace Go.Proofs.YtljacdbdjacbkaaGreat
open Go.RowKit Go.Maps Go.WideMaps
set_option linter.unusedVariables false
set_option linter.unusedSimpArgs false

/-- What a change of names makes of a map. -/
def nmDo (D : DataW Unit) (s t : ByteArray) (f : Int) : DataW Unit := if f < 0 then D.del (kl s) else (D.del (kl s)).put (kl t) (fd f)
theorem box_kept {w w1 : World} {cs : Array Value} {ty : TypeId} {b : Nat} (ht : (w.alloc (.cells cs ty)).grownBy w1 (some b)) (hb : b < w.heap.size) (i : Nat) : w1.cell? ⟨w.heap.size, i, none⟩ = cs[i]? := by
  have h1 := ht.block w.heap.size (by simp) (fun e => by injection e with e; omega)
  exact cell_of_row w1 w.heap.size i cs ty (0, 0) (h1.trans (heap_alloc_new w _))
set_option maxRecDepth 100000 in
set_option maxHeartbeats 800000 in
theorem naming_do (s t : ByteArray) (f : Int) (hf : f = -1 ∨ 0 ≤ f) (b n : Nat) (D : DataW Unit) (w : World) (hown : NM w b n D) (hn : n ≤ 1048576) (hs : s.size ≤ maxLen) (ht : t.size ≤ maxLen) :
    Calls Tryz.prog 73 #[.agg #[.string s, .string t, pv f], .map (some b)] w fun e w' => e = .returned (.tuple #[]) ∧ NM w' b (n + 1) (nmDo D s t f) ∧ w.grownBy w' (some b) := by
  have hk1 := key_of s hs
  have hk2 := key_of t ht
  have HM := Lib.hid (show n < maxLen by unfold maxLen; omega)
  have HO := Lib.hid (fun ob => hown.alloc ob)
  have HB := Lib.hid (show b < w.heap.size from hown.lt)
  clear hown hn
  rcases hf with rfl | hf
  · have E : nmDo D s t (-1) = D.del (kl s) := by unfold nmDo; rw [if_pos (by decide)]
    rw [E, pv_nil]
    clear E
    go_enter Tryz.func73, Tryz.ntmps73
    go_wp2_with (at_delete; go_must (refine wpList_delete_own _ rfl _ _ 56 9 rfl 84 mapLaw underNames ptrElem b n D rfl (HO.out _) _ _ rfl hk1 ?_; intro w1 hown1 hturn1; have q2 : w1.cell? ⟨w.heap.size, 2, none⟩ = some (.pointer none) := box_kept hturn1.grown HB.out 2))
    go_end0
    exact ⟨rfl, hown1.mono (by omega), (World.grownBy_alloc w _ _).trans hturn1.grown⟩
  · obtain ⟨m, rfl⟩ := Int.eq_ofNat_of_zero_le hf
    have E : nmDo D s t (m : Int) = (D.del (kl s)).put (kl t) (fd (m : Int)) := by unfold nmDo; rw [if_neg (by omega)]
    rw [E, pv_at]
    clear E hf
    go_enter Tryz.func73, Tryz.ntmps73
    go_wp2_with (first
      | (at_delete; go_must (refine wpList_delete_own _ rfl _ _ 56 9 rfl 84 mapLaw underNames ptrElem b n D rfl (HO.out _) _ _ rfl hk1 ?_; intro w1 hown1 hturn1; have q2 : w1.cell? ⟨w.heap.size, 2, none⟩ = some (.pointer (some ⟨m, 0, none⟩)) := box_kept hturn1.grown HB.out 2; have q1 : w1.cell? ⟨w.heap.size, 1, none⟩ = some (.string t) := box_kept hturn1.grown HB.out 1))
      | (at_mapUpdate; go_must (refine wpList_mapUpdate_own _ rfl _ _ _ 56 rfl 9 84 mapLaw underNames ptrElem b n _ rfl hown1 HM.out _ _ (kl t) rfl rfl hk2 (fd (m : Int)) [] (ptrElem_at m) ?_; intro w2 hown2 hgrow2)))
    go_end0
    exact ⟨rfl, hown2, ((World.grownBy_alloc w _ _).trans hturn1.grown).trans hgrow2⟩
end Go.Proofs.YtljacdbdjacbkaaGreat

/- Contracts: a medium that New made: New, works, step. It proves no statement. -/


namespace Go.Proofs.YtljacdbdjacbkaaGreat
open Go.RowKit Go.Maps Go.WideMaps
set_option linter.unusedVariables false
set_option linter.unusedSimpArgs false

/-- A medium's block. -/
def MedB (w : World) (g : Nat) (room : Int) (bn bf : Nat) (wv : Value) (left : Int) (off : Bool) : Prop := Blk w g 59 #[.int .i64 room, .map (some bn), .map (some bf), wv, .int .i64 left, .bool off, .bool true]
theorem MedB.still {w w' : World} {g : Nat} {room : Int} {bn bf : Nat} {wv : Value} {left : Int} {off : Bool} (h : MedB w g room bn bf wv left off) (s : Still w w') : MedB w' g room bn bf wv left off := Blk.still h s
theorem isRoom_any (x : Int) (w : World) : Calls Tryz.prog 18 #[.int .i64 x] w fun e w' => e = .returned (.bool (decide (0 ≤ x ∧ x ≤ 16777216))) ∧ w = w' := by
  by_cases h1 : 0 ≤ x
  · by_cases h2 : x ≤ 16777216
    · rw [decide_eq_true ⟨h1, h2⟩]
      go_enter Tryz.func18, Tryz.ntmps18
      go_wp2_with fail
      go_ret
      exact ⟨rfl, rfl⟩
    · rw [decide_eq_false (fun h => h2 h.2)]
      go_enter Tryz.func18, Tryz.ntmps18
      go_wp2_with fail
      go_ret
      exact ⟨by first | rfl | (simp; omega), rfl⟩
  · rw [decide_eq_false (fun h => h1 h.1)]
    go_enter Tryz.func18, Tryz.ntmps18
    go_wp2_with fail
    go_ret
    exact ⟨by first | rfl | (simp; omega), rfl⟩
theorem new_no (x : Int) (w : World) (h : ¬ (0 ≤ x ∧ x ≤ 16777216)) : Calls Tryz.prog 5 #[.int .i64 x] w fun e w' => e = .returned (.tuple #[.pointer none, .int .i64 2]) ∧ w = w' := by
  have HR := Lib.hid (isRoom_any x w)
  rw [decide_eq_false h] at HR
  clear h
  go_enter Tryz.func5, Tryz.ntmps5
  go_wp2_with fail
  refine HR.out.mono ?_
  rintro e w1 ⟨rfl, rfl⟩
  go_wp2_with fail
  go_ret2
  exact ⟨rfl, rfl⟩
set_option maxRecDepth 100000 in
set_option maxHeartbeats 800000 in
theorem new_yes (x : Int) (w : World) (h : 0 ≤ x ∧ x ≤ 16777216) : Calls Tryz.prog 5 #[.int .i64 x] w fun e w' => ∃ g bn bf, e = .returned (.tuple #[.pointer (some ⟨g, 0, none⟩), .int .i64 0]) ∧ MedB w' g x bn bf (.slice none 0 0) (-1) false ∧ NM w' bn 0 (.map []) ∧ NM w' bf 0 (.map []) ∧ w.heap.size ≤ bn ∧ w.heap.size ≤ bf ∧ w.heap.size ≤ g ∧ bn ≠ bf ∧ Still w w' := by
  have HR := Lib.hid (isRoom_any x w)
  rw [decide_eq_true h] at HR
  have hmm := @run_makeMap Tryz.prog
  clear h
  go_enter Tryz.func5, Tryz.ntmps5
  go_wp2_with fail
  refine HR.out.mono ?_
  rintro e w1 ⟨rfl, rfl⟩
  go_wp2_with fail
  go_ret2
  have S1 : Still w (w.alloc (.map #[] 0)) := (Still.refl w).alloc (Nat.le_refl _) _
  have S2 : Still (w.alloc (.map #[] 0)) ((w.alloc (.map #[] 0)).alloc (.map #[] 0)) := (Still.refl _).alloc (Nat.le_refl _) _
  have e1 : (w.alloc (.map #[] 0)).heap.size = w.heap.size + 1 := by simp
  have e2 : ((w.alloc (.map #[] 0)).alloc (.map #[] 0)).heap.size = w.heap.size + 1 + 1 := by simp
  refine ⟨w.heap.size + 1 + 1, w.heap.size, w.heap.size + 1, rfl, ?_, (((World.ownsMap_made w _ _ _).alloc _).alloc _), ?_, Nat.le_refl _, by omega, by omega, by omega, (S1.trans S2).trans ((Still.refl _).alloc (Nat.le_refl _) _)⟩
  · have h := Blk.new ((w.alloc (.map #[] 0)).alloc (.map #[] 0)) 59 #[.int .i64 x, .map (some w.heap.size), .map (some (w.heap.size + 1)), .slice none 0 0, .int .i64 (-1), .bool false, .bool true]
    rw [e2] at h
    exact h
  · have h := (World.ownsMap_made (w.alloc (.map #[] 0)) Tryz.prog 9 ptrElem).alloc (.cells #[.int .i64 x, .map (some w.heap.size), .map (some (w.heap.size + 1)), .slice none 0 0, .int .i64 (-1), .bool false, .bool true] 59)
    rw [e1] at h
    exact h
theorem works_yes {w : World} {g : Nat} {room : Int} {bn bf : Nat} {wv : Value} {left : Int} {off : Bool} (h : MedB w g room bn bf wv left off) :
    Calls Tryz.prog 50 #[.pointer (some ⟨g, 0, none⟩)] w fun e w' => e = .returned (.int .i64 (if off = true then 12 else 0)) ∧ w = w' := by
  have c5 : w.cell? ⟨g, 5, none⟩ = some (.bool off) := Blk.cell h 5
  have c6 : w.cell? ⟨g, 6, none⟩ = some (.bool true) := Blk.cell h 6
  have HB := Lib.hid h
  clear h
  cases off
  · go_enter Tryz.func50, Tryz.ntmps50
    go_wp2
    go_ret
    exact ⟨rfl, rfl⟩
  · go_enter Tryz.func50, Tryz.ntmps50
    go_wp2
    go_ret
    exact ⟨rfl, rfl⟩
theorem MedB.setc {w : World} {g : Nat} {room : Int} {bn bf : Nat} {wv : Value} {left : Int} {off : Bool} (h : MedB w g room bn bf wv left off) (left' : Int) : MedB (w.setCell ⟨g, 4, none⟩ (.int .i64 left')) g room bn bf wv left' off := Blk.setc h 4 _
theorem MedB.setoff {w : World} {g : Nat} {room : Int} {bn bf : Nat} {wv : Value} {left : Int} {off : Bool} (h : MedB w g room bn bf wv left off) (off' : Bool) : MedB (w.setCell ⟨g, 5, none⟩ (.bool off')) g room bn bf wv left off' := Blk.setc h 5 _
theorem MedB.setwait {w : World} {g : Nat} {room : Int} {bn bf : Nat} {wv : Value} {left : Int} {off : Bool} (h : MedB w g room bn bf wv left off) (wv' : Value) : MedB (w.setCell ⟨g, 3, none⟩ wv') g room bn bf wv' left off := Blk.setc h 3 _
/-- What a step leaves: the counter, the power, the error. -/
def stepR (left : Int) (off : Bool) : Int × Bool × Int := if left = 0 then (left, true, 12) else if 0 < left then (left - 1, off, 0) else (left, off, 0)
theorem step_yes {w : World} {g : Nat} {room : Int} {bn bf : Nat} {wv : Value} {left : Int} {off : Bool} (h : MedB w g room bn bf wv left off) (hl : left ≤ 9223372036854775807) :
    Calls Tryz.prog 55 #[.pointer (some ⟨g, 0, none⟩)] w fun e w' => e = .returned (.int .i64 (stepR left off).2.2) ∧ MedB w' g room bn bf wv (stepR left off).1 (stepR left off).2.1 ∧ w.grownBy w' (some g) := by
  have c4 : w.cell? ⟨g, 4, none⟩ = some (.int .i64 left) := Blk.cell h 4
  have c5 : w.cell? ⟨g, 5, none⟩ = some (.bool off) := Blk.cell h 5
  have f4 := Blk.frozen h 4
  have f5 := Blk.frozen h 5
  by_cases h0 : left = 0
  · have E : stepR left off = (left, true, 12) := by unfold stepR; rw [if_pos h0]
    rw [E]
    have M := Lib.hid (h.setoff true)
    subst h0
    clear h E
    go_enter Tryz.func55, Tryz.ntmps55
    go_wp2
    go_ret
    exact ⟨rfl, M.out, grownBy_set _ _ _ _⟩
  · have b0 : (left == 0) = false := by simpa using h0
    by_cases h1 : 0 < left
    · have E : stepR left off = (left - 1, off, 0) := by unfold stepR; rw [if_neg h0, if_pos h1]
      rw [E]
      have M := Lib.hid (h.setc (left - 1))
      clear h E
      go_enter Tryz.func55, Tryz.ntmps55
      go_wp2
      go_ret
      exact ⟨rfl, M.out, grownBy_set _ _ _ _⟩
    · have E : stepR left off = (left, off, 0) := by unfold stepR; rw [if_neg h0, if_neg h1]
      rw [E]
      have M := Lib.hid h
      clear h E
      go_enter Tryz.func55, Tryz.ntmps55
      go_wp2
      go_ret
      exact ⟨rfl, M.out, World.grownBy.refl _ _⟩
end Go.Proofs.YtljacdbdjacbkaaGreat
