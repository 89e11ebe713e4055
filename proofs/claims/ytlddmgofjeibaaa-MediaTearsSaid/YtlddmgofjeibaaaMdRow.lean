/- Rows of namings, of changes, of calls: '[]T{x}', 'append(row, x)'. It proves no statement. -/
import Derived.Test.YtlddmgofjeibaaaMdMap
import Derived.Deep.MidRow
import Derived.Deep.RegionHeld
import Derived.Maps.AppendAt
import Derived.Great.BuildSlice
namespace Go.Proofs.Ytlddmgofjeibaaa
open Go.RowKit Go.Maps Go.WideMaps
set_option linter.unusedVariables false
set_option linter.unusedSimpArgs false

theorem Try.infoNm : (Try.prog.info? 93).map (fun i => (i.zero, i.size, i.bytes)) = some (some (.agg #[.string ⟨#[]⟩, .string ⟨#[]⟩, .pointer none]), 3, 40) := by kernel_rfl
set_option maxRecDepth 100000 in
theorem fill_Nm (s : ByteArray) (t : ByteArray) (p : Option Addr) : Instr.fill (fun i => some (i * 3, 3)) ((Array.range (1 * 3)).map ((Value.agg #[.string ⟨#[]⟩, .string ⟨#[]⟩, .pointer none]).cells[· % (Value.agg #[.string ⟨#[]⟩, .string ⟨#[]⟩, .pointer none]).cells.size]!)) [(0, .agg #[.string s, .string t, .pointer p])] = some #[.string s, .string t, .pointer p] := by kernel_rfl
theorem step_boxNm (w : World) {o : Oper} {a : Act} {K' : Act → World → Prop} {Q : Exit → Act → World → Prop} (x : Operand)
    (ho : o.op = .buildSlice 62 1 #[(0, x)]) (s : ByteArray) (t : ByteArray) (p : Option Addr) (hx : a.eval x = .agg #[.string s, .string t, .pointer p])
    (h : K' (a.put o.dst (.slice (some ⟨w.heap.size, 0, none⟩) 1 1)) (w.alloc (.cells #[.string s, .string t, .pointer p] 93))) : o.wp Try.prog a w K' Q := by
  obtain ⟨i0, hi, hz0, hz1, hz2⟩ := info_parts Try.infoNm
  refine wp_buildSlice 62 93 1 #[(0, x)] ho #[.string s, .string t, .pointer p] i0 _ Try.underlying62 hi hz0 (by rw [hz1]; decide) (by rw [hz1]; decide) ?_ h
  rw [hz1]
  simp only [List.map_toArray, List.map_cons, List.map_nil, hx]
  exact fill_Nm s t p
theorem wpList_boxNm (w : World) {ops : Array Oper} {rest : List Oper} {o : Oper} {a : Act} {Q : Exit → Act → World → Prop} (hgd : o.guard = none) (x : Operand)
    (ho : o.op = .buildSlice 62 1 #[(0, x)]) (s : ByteArray) (t : ByteArray) (p : Option Addr) (hx : a.eval x = .agg #[.string s, .string t, .pointer p])
    (h : wpList Try.prog ops Q rest (a.put o.dst (.slice (some ⟨w.heap.size, 0, none⟩) 1 1)) (w.alloc (.cells #[.string s, .string t, .pointer p] 93))) : wpList Try.prog ops Q (o :: rest) a w :=
  wpList_plain hgd fun _ hQ => step_boxNm w x ho s t p hx (hQ _ _ h)
theorem step_pushNm (w : World) {o : Oper} {a : Act} {K : Act → World → Prop} {Q : Exit → Act → World → Prop} (s x : Operand)
    (ho : o.op = .call { callee := .builtin .append, args := #[s, x], argTypes := #[62, 62] })
    (base : Nat) (v : Value) (n : Nat) (xs : List Value) (hs : a.eval s = v) (hown : w.ownsRow base 93 3 v n xs) (gb : Nat) (cs : List Value)
    (hx : a.eval x = .slice (some ⟨gb, 0, none⟩) 1 1) (hc : ∀ q u, cs[q]? = some u → w.cell? ⟨gb, q, none⟩ = some u) (hc6 : cs.length = 3) (h1 : ∀ u ∈ cs, u.oneCell' = true) (hn : n ≤ 1048576) (hbase : base ≤ w.heap.size)
    (h : ∀ v' w', w'.ownsRow base 93 3 v' (n + 1) (xs ++ cs) → w.grownBy w' v.ownBlock → (v'.ownBlock = v.ownBlock ∨ v'.ownBlock = some w.heap.size) → K (a.put o.dst v') w') :
    o.wp Try.prog a w K Q := by
  obtain ⟨i0, hi, hz0, hz1, hz2⟩ := info_parts Try.infoNm
  obtain ⟨v', w', hrun, h2, h3, _, h5⟩ := run_append_own_at (P := Try.prog) w base 62 o.type 93 i0 _ 3 40 Try.underlying62 hi hz0 hz1 hz2 rfl (by decide) v n xs hown ⟨gb, 0, none⟩ 1 1 cs (by rw [hc6]) (fun j u hu => by
    rw [Addr.add_mid, Nat.zero_add]; exact hc j u hu) h1 (by unfold maxLen; omega) (by omega) hbase
  unfold Oper.wp execOp
  simp only [ho, resolve, invoke, builtin, Sem.run_bind, Sem.run_pure, Result.andThen_ok, List.map_toArray, List.map_cons, List.map_nil, hs, hx, hrun]
  exact h v' w' h2 h3 h5
theorem wpList_pushNm (w : World) {ops : Array Oper} {rest : List Oper} {o : Oper} {a : Act} {Q : Exit → Act → World → Prop} (hgd : o.guard = none) (s x : Operand)
    (ho : o.op = .call { callee := .builtin .append, args := #[s, x], argTypes := #[62, 62] })
    (base : Nat) (v : Value) (n : Nat) (xs : List Value) (hs : a.eval s = v) (hown : w.ownsRow base 93 3 v n xs) (gb : Nat) (cs : List Value)
    (hx : a.eval x = .slice (some ⟨gb, 0, none⟩) 1 1) (hc : ∀ q u, cs[q]? = some u → w.cell? ⟨gb, q, none⟩ = some u) (hc6 : cs.length = 3) (h1 : ∀ u ∈ cs, u.oneCell' = true) (hn : n ≤ 1048576) (hbase : base ≤ w.heap.size)
    (h : ∀ v' w', w'.ownsRow base 93 3 v' (n + 1) (xs ++ cs) → w.grownBy w' v.ownBlock → (v'.ownBlock = v.ownBlock ∨ v'.ownBlock = some w.heap.size) → wpList Try.prog ops Q rest (a.put o.dst v') w') :
    wpList Try.prog ops Q (o :: rest) a w :=
  wpList_plain hgd fun _ hQ => step_pushNm w s x ho base v n xs hs hown gb cs hx hc hc6 h1 hn hbase fun v' w' h2 h3 h5 => hQ _ _ (h v' w' h2 h3 h5)

theorem Try.infoCh : (Try.prog.info? 96).map (fun i => (i.zero, i.size, i.bytes)) = some (some (.agg #[.int .i64 0, .slice none 0 0]), 2, 32) := by kernel_rfl
set_option maxRecDepth 100000 in
theorem fill_Ch (e : Int) (A : Option Addr) (n : Nat) (c : Nat) : Instr.fill (fun i => some (i * 2, 2)) ((Array.range (1 * 2)).map ((Value.agg #[.int .i64 0, .slice none 0 0]).cells[· % (Value.agg #[.int .i64 0, .slice none 0 0]).cells.size]!)) [(0, .agg #[.int .i64 e, .slice A n c])] = some #[.int .i64 e, .slice A n c] := by kernel_rfl
theorem step_boxCh (w : World) {o : Oper} {a : Act} {K' : Act → World → Prop} {Q : Exit → Act → World → Prop} (x : Operand)
    (ho : o.op = .buildSlice 72 1 #[(0, x)]) (e : Int) (A : Option Addr) (n : Nat) (c : Nat) (hx : a.eval x = .agg #[.int .i64 e, .slice A n c])
    (h : K' (a.put o.dst (.slice (some ⟨w.heap.size, 0, none⟩) 1 1)) (w.alloc (.cells #[.int .i64 e, .slice A n c] 96))) : o.wp Try.prog a w K' Q := by
  obtain ⟨i0, hi, hz0, hz1, hz2⟩ := info_parts Try.infoCh
  refine wp_buildSlice 72 96 1 #[(0, x)] ho #[.int .i64 e, .slice A n c] i0 _ Try.underlying72 hi hz0 (by rw [hz1]; decide) (by rw [hz1]; decide) ?_ h
  rw [hz1]
  simp only [List.map_toArray, List.map_cons, List.map_nil, hx]
  exact fill_Ch e A n c
theorem wpList_boxCh (w : World) {ops : Array Oper} {rest : List Oper} {o : Oper} {a : Act} {Q : Exit → Act → World → Prop} (hgd : o.guard = none) (x : Operand)
    (ho : o.op = .buildSlice 72 1 #[(0, x)]) (e : Int) (A : Option Addr) (n : Nat) (c : Nat) (hx : a.eval x = .agg #[.int .i64 e, .slice A n c])
    (h : wpList Try.prog ops Q rest (a.put o.dst (.slice (some ⟨w.heap.size, 0, none⟩) 1 1)) (w.alloc (.cells #[.int .i64 e, .slice A n c] 96))) : wpList Try.prog ops Q (o :: rest) a w :=
  wpList_plain hgd fun _ hQ => step_boxCh w x ho e A n c hx (hQ _ _ h)
theorem step_pushCh (w : World) {o : Oper} {a : Act} {K : Act → World → Prop} {Q : Exit → Act → World → Prop} (s x : Operand)
    (ho : o.op = .call { callee := .builtin .append, args := #[s, x], argTypes := #[72, 72] })
    (base : Nat) (v : Value) (n : Nat) (xs : List Value) (hs : a.eval s = v) (hown : w.ownsRow base 96 2 v n xs) (gb : Nat) (cs : List Value)
    (hx : a.eval x = .slice (some ⟨gb, 0, none⟩) 1 1) (hc : ∀ q u, cs[q]? = some u → w.cell? ⟨gb, q, none⟩ = some u) (hc6 : cs.length = 2) (h1 : ∀ u ∈ cs, u.oneCell' = true) (hn : n ≤ 1048576) (hbase : base ≤ w.heap.size)
    (h : ∀ v' w', w'.ownsRow base 96 2 v' (n + 1) (xs ++ cs) → w.grownBy w' v.ownBlock → (v'.ownBlock = v.ownBlock ∨ v'.ownBlock = some w.heap.size) → K (a.put o.dst v') w') :
    o.wp Try.prog a w K Q := by
  obtain ⟨i0, hi, hz0, hz1, hz2⟩ := info_parts Try.infoCh
  obtain ⟨v', w', hrun, h2, h3, _, h5⟩ := run_append_own_at (P := Try.prog) w base 72 o.type 96 i0 _ 2 32 Try.underlying72 hi hz0 hz1 hz2 rfl (by decide) v n xs hown ⟨gb, 0, none⟩ 1 1 cs (by rw [hc6]) (fun j u hu => by
    rw [Addr.add_mid, Nat.zero_add]; exact hc j u hu) h1 (by unfold maxLen; omega) (by omega) hbase
  unfold Oper.wp execOp
  simp only [ho, resolve, invoke, builtin, Sem.run_bind, Sem.run_pure, Result.andThen_ok, List.map_toArray, List.map_cons, List.map_nil, hs, hx, hrun]
  exact h v' w' h2 h3 h5
theorem wpList_pushCh (w : World) {ops : Array Oper} {rest : List Oper} {o : Oper} {a : Act} {Q : Exit → Act → World → Prop} (hgd : o.guard = none) (s x : Operand)
    (ho : o.op = .call { callee := .builtin .append, args := #[s, x], argTypes := #[72, 72] })
    (base : Nat) (v : Value) (n : Nat) (xs : List Value) (hs : a.eval s = v) (hown : w.ownsRow base 96 2 v n xs) (gb : Nat) (cs : List Value)
    (hx : a.eval x = .slice (some ⟨gb, 0, none⟩) 1 1) (hc : ∀ q u, cs[q]? = some u → w.cell? ⟨gb, q, none⟩ = some u) (hc6 : cs.length = 2) (h1 : ∀ u ∈ cs, u.oneCell' = true) (hn : n ≤ 1048576) (hbase : base ≤ w.heap.size)
    (h : ∀ v' w', w'.ownsRow base 96 2 v' (n + 1) (xs ++ cs) → w.grownBy w' v.ownBlock → (v'.ownBlock = v.ownBlock ∨ v'.ownBlock = some w.heap.size) → wpList Try.prog ops Q rest (a.put o.dst v') w') :
    wpList Try.prog ops Q (o :: rest) a w :=
  wpList_plain hgd fun _ hQ => step_pushCh w s x ho base v n xs hs hown gb cs hx hc hc6 h1 hn hbase fun v' w' h2 h3 h5 => hQ _ _ (h v' w' h2 h3 h5)

theorem Try.infoDo : (Try.prog.info? 43).map (fun i => (i.zero, i.size, i.bytes)) = some (some (.agg #[.int .i64 0, .string ⟨#[]⟩, .string ⟨#[]⟩, .int .i64 0, .int .i64 0, .slice none 0 0, .slice none 0 0]), 7, 104) := by kernel_rfl
set_option maxRecDepth 100000 in
theorem fill_Do (k : Int) (s : ByteArray) (t : ByteArray) (nn : Int) (mm : Int) (A : Option Addr) (n : Nat) (c : Nat) (A2 : Option Addr) (n2 : Nat) (c2 : Nat) : Instr.fill (fun i => some (i * 7, 7)) ((Array.range (1 * 7)).map ((Value.agg #[.int .i64 0, .string ⟨#[]⟩, .string ⟨#[]⟩, .int .i64 0, .int .i64 0, .slice none 0 0, .slice none 0 0]).cells[· % (Value.agg #[.int .i64 0, .string ⟨#[]⟩, .string ⟨#[]⟩, .int .i64 0, .int .i64 0, .slice none 0 0, .slice none 0 0]).cells.size]!)) [(0, .agg #[.int .i64 k, .string s, .string t, .int .i64 nn, .int .i64 mm, .slice A n c, .slice A2 n2 c2])] = some #[.int .i64 k, .string s, .string t, .int .i64 nn, .int .i64 mm, .slice A n c, .slice A2 n2 c2] := by kernel_rfl
theorem step_boxDo (w : World) {o : Oper} {a : Act} {K' : Act → World → Prop} {Q : Exit → Act → World → Prop} (x : Operand)
    (ho : o.op = .buildSlice 22 1 #[(0, x)]) (k : Int) (s : ByteArray) (t : ByteArray) (nn : Int) (mm : Int) (A : Option Addr) (n : Nat) (c : Nat) (A2 : Option Addr) (n2 : Nat) (c2 : Nat) (hx : a.eval x = .agg #[.int .i64 k, .string s, .string t, .int .i64 nn, .int .i64 mm, .slice A n c, .slice A2 n2 c2])
    (h : K' (a.put o.dst (.slice (some ⟨w.heap.size, 0, none⟩) 1 1)) (w.alloc (.cells #[.int .i64 k, .string s, .string t, .int .i64 nn, .int .i64 mm, .slice A n c, .slice A2 n2 c2] 43))) : o.wp Try.prog a w K' Q := by
  obtain ⟨i0, hi, hz0, hz1, hz2⟩ := info_parts Try.infoDo
  refine wp_buildSlice 22 43 1 #[(0, x)] ho #[.int .i64 k, .string s, .string t, .int .i64 nn, .int .i64 mm, .slice A n c, .slice A2 n2 c2] i0 _ Try.underlying22 hi hz0 (by rw [hz1]; decide) (by rw [hz1]; decide) ?_ h
  rw [hz1]
  simp only [List.map_toArray, List.map_cons, List.map_nil, hx]
  exact fill_Do k s t nn mm A n c A2 n2 c2
theorem wpList_boxDo (w : World) {ops : Array Oper} {rest : List Oper} {o : Oper} {a : Act} {Q : Exit → Act → World → Prop} (hgd : o.guard = none) (x : Operand)
    (ho : o.op = .buildSlice 22 1 #[(0, x)]) (k : Int) (s : ByteArray) (t : ByteArray) (nn : Int) (mm : Int) (A : Option Addr) (n : Nat) (c : Nat) (A2 : Option Addr) (n2 : Nat) (c2 : Nat) (hx : a.eval x = .agg #[.int .i64 k, .string s, .string t, .int .i64 nn, .int .i64 mm, .slice A n c, .slice A2 n2 c2])
    (h : wpList Try.prog ops Q rest (a.put o.dst (.slice (some ⟨w.heap.size, 0, none⟩) 1 1)) (w.alloc (.cells #[.int .i64 k, .string s, .string t, .int .i64 nn, .int .i64 mm, .slice A n c, .slice A2 n2 c2] 43))) : wpList Try.prog ops Q (o :: rest) a w :=
  wpList_plain hgd fun _ hQ => step_boxDo w x ho k s t nn mm A n c A2 n2 c2 hx (hQ _ _ h)
theorem step_pushDo (w : World) {o : Oper} {a : Act} {K : Act → World → Prop} {Q : Exit → Act → World → Prop} (s x : Operand)
    (ho : o.op = .call { callee := .builtin .append, args := #[s, x], argTypes := #[22, 22] })
    (base : Nat) (v : Value) (n : Nat) (xs : List Value) (hs : a.eval s = v) (hown : w.ownsRow base 43 7 v n xs) (gb : Nat) (cs : List Value)
    (hx : a.eval x = .slice (some ⟨gb, 0, none⟩) 1 1) (hc : ∀ q u, cs[q]? = some u → w.cell? ⟨gb, q, none⟩ = some u) (hc6 : cs.length = 7) (h1 : ∀ u ∈ cs, u.oneCell' = true) (hn : n ≤ 1048576) (hbase : base ≤ w.heap.size)
    (h : ∀ v' w', w'.ownsRow base 43 7 v' (n + 1) (xs ++ cs) → w.grownBy w' v.ownBlock → (v'.ownBlock = v.ownBlock ∨ v'.ownBlock = some w.heap.size) → K (a.put o.dst v') w') :
    o.wp Try.prog a w K Q := by
  obtain ⟨i0, hi, hz0, hz1, hz2⟩ := info_parts Try.infoDo
  obtain ⟨v', w', hrun, h2, h3, _, h5⟩ := run_append_own_at (P := Try.prog) w base 22 o.type 43 i0 _ 7 104 Try.underlying22 hi hz0 hz1 hz2 rfl (by decide) v n xs hown ⟨gb, 0, none⟩ 1 1 cs (by rw [hc6]) (fun j u hu => by
    rw [Addr.add_mid, Nat.zero_add]; exact hc j u hu) h1 (by unfold maxLen; omega) (by omega) hbase
  unfold Oper.wp execOp
  simp only [ho, resolve, invoke, builtin, Sem.run_bind, Sem.run_pure, Result.andThen_ok, List.map_toArray, List.map_cons, List.map_nil, hs, hx, hrun]
  exact h v' w' h2 h3 h5
theorem wpList_pushDo (w : World) {ops : Array Oper} {rest : List Oper} {o : Oper} {a : Act} {Q : Exit → Act → World → Prop} (hgd : o.guard = none) (s x : Operand)
    (ho : o.op = .call { callee := .builtin .append, args := #[s, x], argTypes := #[22, 22] })
    (base : Nat) (v : Value) (n : Nat) (xs : List Value) (hs : a.eval s = v) (hown : w.ownsRow base 43 7 v n xs) (gb : Nat) (cs : List Value)
    (hx : a.eval x = .slice (some ⟨gb, 0, none⟩) 1 1) (hc : ∀ q u, cs[q]? = some u → w.cell? ⟨gb, q, none⟩ = some u) (hc6 : cs.length = 7) (h1 : ∀ u ∈ cs, u.oneCell' = true) (hn : n ≤ 1048576) (hbase : base ≤ w.heap.size)
    (h : ∀ v' w', w'.ownsRow base 43 7 v' (n + 1) (xs ++ cs) → w.grownBy w' v.ownBlock → (v'.ownBlock = v.ownBlock ∨ v'.ownBlock = some w.heap.size) → wpList Try.prog ops Q rest (a.put o.dst v') w') :
    wpList Try.prog ops Q (o :: rest) a w :=
  wpList_plain hgd fun _ hQ => step_pushDo w s x ho base v n xs hs hown gb cs hx hc hc6 h1 hn hbase fun v' w' h2 h3 h5 => hQ _ _ (h v' w' h2 h3 h5)
end Go.Proofs.Ytlddmgofjeibaaa
